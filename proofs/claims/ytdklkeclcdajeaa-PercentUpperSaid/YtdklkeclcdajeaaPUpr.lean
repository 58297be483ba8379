/- PercentUpper, walked. -/
import Derived.Test.YtdklkeclcdajeaaPJoi
import Derived.Test.YtdklkeclcdajeaaVal
namespace Go.Proofs.Ytdklkeclcdajeaa
open Go.RowKit Pct Sets
/-- Upper's bytes beside what stood there, as the walk asks. -/
theorem near_ask (u s : UInt8) (h : near u s) : ((u.toNat : Int) != (s.toNat : Int)) = false ∨ ((u.toNat : Int) != (s.toNat : Int)) = true ∧ 65 ≤ u.toNat ∧ u.toNat ≤ 70 ∧ ((s.toNat : Int) != (u.toNat : Int) + 32) = false := by
  rcases h with rfl | ⟨h1, h2, h3⟩
  · exact .inl (by simp)
  · refine .inr ⟨by rw [bne_iff_ne]; omega, h1, h2, by rw [bne_eq_false_iff_eq]; omega⟩
set_option maxHeartbeats 1600000 in
set_option maxRecDepth 100000 in
theorem pupper_any (s : ByteArray) (w : World) :
    Calls Try.prog 7 #[.string s] w fun e w' => e = .returned (.bool true) ∧ Below w.heap.size w w' := by
  go_enter Try.func7, Try.ntmps7
  go_upto_if 11 with fail
  go_cut [0] from 9 (fun v wr => wr = w ∧ ∃ q : ByteArray, v = .string q ∧ q.size ≤ 3000)
  case first =>
    by_cases hl : 3000 < s.size
    · have hx := size_extract0 s 3000
      have hd : decide ((3000 : Int) < (s.size : Int)) = true := decide_eq_true (by omega)
      have hd' : decide (3000 < s.size) = true := decide_eq_true (by omega)
      go_wp2_with fail
      go_meet
      case rel => exact ⟨rfl, _, rfl, hx⟩
    · have hd : decide ((3000 : Int) < (s.size : Int)) = false := decide_eq_false (by omega)
      have hd' : decide (3000 < s.size) = false := decide_eq_false (by omega)
      go_wp2_with fail
      go_meet
      case rel => exact ⟨rfl, _, rfl, by omega⟩
  case rest =>
    obtain ⟨rfl, s', rfl, hs⟩ := hcut
    have UA := fun w => upper_any s' w (by omega)
    have hul : (str (up (tx s') 0)).size = s'.size := by rw [size_str, up_len, ← size_tx]
    have UB := fun w => upper_is (str (up (tx s') 0)) (up (tx s') 0) (up_up (tx s')) w (by omega)
    have VA := fun w => valid_any s' w (by omega)
    have VB := fun w => valid_is (str (up (tx s') 0)) (valid (tx s')) (valid_up (tx s')) w (by omega)
    have DA := fun w => decode_two s' w (by omega)
    have DB := fun w => decode_two (str (up (tx s') 0)) w (by omega)
    rw [tx_str, dec_up] at DB
    have HN : Hid (∀ i, i < s'.size → near ((tx (str (up (tx s') 0))).getD i 0) ((tx s').getD i 0)) := Lib.hid (fun i hi => up_near (tx s') i (by rw [← size_tx]; exact hi))
    generalize str (up (tx s') 0) = u at *
    generalize dec (tx s') 0 = D at *
    generalize valid (tx s') = V at *
    have hle : ((u.size : Int) != (s'.size : Int)) = false := by rw [hul]; simp
    have huu : (u.toList == u.toList) = true := by simp
    have hun : (!(u.toList == u.toList)) = false := by simp
    have hdd : (!((decS D).toList == (decS D).toList)) = false := by simp
    have HUL := Lib.hid hul
    clear hul
    go_wp2_with fail
    refine (UA _).mono ?_
    rintro e w1 ⟨rfl, hb1⟩
    go_wp2_with fail
    refine (DA _).mono ?_
    rintro e w2 ⟨rfl, hb2⟩
    replace hb2 := hb1.trans (hb2.mono hb1.size)
    go_wp2_with fail
    refine (DB _).mono ?_
    rintro e w3 ⟨rfl, hb3⟩
    replace hb3 := hb2.trans (hb3.mono hb2.size)
    clear hb1 hb2
    go_wp2_with fail
    refine (UB _).mono ?_
    rintro e w4 ⟨rfl, hb4⟩
    replace hb4 := hb3.trans (hb4.mono hb3.size)
    clear hb3
    go_wp2_with fail
    refine (VB _).mono ?_
    rintro e w' ⟨rfl, rfl⟩
    go_wp2_with fail
    refine (VA _).mono ?_
    rintro e w' ⟨rfl, rfl⟩
    have hvv : (V != V) = false := by simp
    have hdv : (D.isSome != D.isSome) = false := by simp
    clear UA UB DA DB VA VB
    generalize decS D = q at *
    generalize D.isSome = z at *
    go_wp2_with fail
    go_loopw [8] (fun i wr => ∃ k : Nat, k ≤ s'.size ∧ i = .int .i64 k ∧ Below wc.heap.size wc wr) (fun i _ => (s'.size - intOf i).toNat)
    case atStart => exact ⟨0, by omega, rfl, hb4⟩
    case round =>
      obtain ⟨k, hk, rfl, hb⟩ := hrel
      by_cases hlt : k < s'.size
      · have hd : decide ((k : Int) < (s'.size : Int)) = true := decide_eq_true (by omega)
        have ix := index_tx s' k k rfl hlt
        have iu := index_tx u k k rfl (by have := HUL.out; omega)
        have hn := HN.out k hlt
        generalize (tx s').getD k 0 = c at *
        generalize (tx u).getD k 0 = a at *
        rcases near_ask a c hn with h1 | ⟨h1, h2, h3, h4⟩
        · clear hn
          go_wp2_with fail
          go_quiet (fail)
          go_wp2_with fail
          go_roundw
          case rel => exact ⟨k + 1, by omega, by go_num, below_drewN hb _⟩
          case measure => simp [intOf]; omega
        · clear hn
          have e1 : decide ((a.toNat : Int) < 65) = false := decide_eq_false (by omega)
          have e2 : decide ((70 : Int) < (a.toNat : Int)) = false := decide_eq_false (by omega)
          have e1' : decide (a.toNat < 65) = false := decide_eq_false (by omega)
          have e2' : decide (70 < a.toNat) = false := decide_eq_false (by omega)
          have ew : IntKind.u8.wrap ((a.toNat : Int) + 32) = (a.toNat : Int) + 32 := by simp [IntKind.wrap, IntKind.bits, IntKind.signed]; omega
          go_wp2_with fail
          go_quiet (fail)
          go_wp2_with fail
          go_roundw
          case rel => exact ⟨k + 1, by omega, by go_num, below_drewN hb _⟩
          case measure => simp [intOf]; omega
      · have : k = s'.size := by omega
        subst this
        go_wp2_with fail
        refine (awake_any _).mono ?_
        rintro e w9 ⟨rfl, hb9⟩
        replace hb9 := hb.trans (hb9.mono hb.size)
        go_wp2_with fail
        go_ret
        exact ⟨rfl, hb9⟩
end Go.Proofs.Ytdklkeclcdajeaa
