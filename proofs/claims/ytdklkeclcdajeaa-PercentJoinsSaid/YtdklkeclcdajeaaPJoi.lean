/- PercentJoins, walked. -/
import Derived.Test.YtdklkeclcdajeaaPAwk
import Derived.Test.YtdklkeclcdajeaaRDec
import Derived.Deep.Cut
namespace Go.Proofs.Ytdklkeclcdajeaa
open Go.RowKit Pct Sets
theorem dec_len (l : List UInt8) (a : List UInt8) (h : dec l 0 = some a) : a.length ≤ l.length := by
  induction hn : l.length using Nat.strongRecOn generalizing l a with
  | _ n ih =>
  match l with
  | [] => rw [dec] at h; simp at h; subst h; simp
  | c :: r =>
    cases he : esc (c :: r) with
    | some b =>
      obtain ⟨a', d, t', x, y, hl, -⟩ := esc_some he
      rw [dec_esc he] at h
      injection hl with h1 h2
      subst h1 h2
      simp only [List.drop_succ_cons, List.drop_zero, Option.map_eq_some_iff] at h
      obtain ⟨q, hq, rfl⟩ := h
      have := ih t'.length (by subst hn; simp; omega) t' q hq rfl
      subst hn; simp; omega
    | none =>
      by_cases hc : c = 37
      · subst hc; rw [dec_bad r he] at h; cases h
      · rw [dec_plain r hc] at h
        obtain ⟨q, hq, rfl⟩ := Option.map_eq_some_iff.1 h
        have := ih r.length (by subst hn; simp) r q hq rfl
        subst hn; simp; omega
def decS (r : Option (List UInt8)) : ByteArray := str (r.getD [])
theorem decV_two (r : Option (List UInt8)) : decV r = .tuple #[.string (decS r), .bool r.isSome] := by cases r <;> rfl
theorem decode_two (s : ByteArray) (w : World) (hs : s.size ≤ 1000000000) :
    Calls Try.prog 10 #[.string s] w fun e w' => e = .returned (.tuple #[.string (decS (dec (tx s) 0)), .bool (dec (tx s) 0).isSome]) ∧ Below w.heap.size w w' := by rw [← decV_two]; exact decode_any s w hs
theorem size_extract0 (s : ByteArray) (n : Nat) : (s.extract 0 n).size ≤ n := by rw [size_tx, tx_extract]; simp; omega
set_option maxHeartbeats 1600000 in
set_option maxRecDepth 100000 in
theorem pjoins_any (s t : ByteArray) (cut : Int) (w : World) (h0 : 0 ≤ cut) (h1 : cut ≤ 65535) :
    Calls Try.prog 8 #[.string s, .string t, .int .u16 cut] w fun e w' => e = .returned (.bool true) ∧ Below w.heap.size w w' := by
  go_enter Try.func8, Try.ntmps8
  go_upto_if 20 with fail
  go_cut [0] from 18 (fun v wr => wr = w ∧ ∃ q : ByteArray, v = .string q ∧ q.size ≤ 3000)
  case first =>
    by_cases hl : 3000 < s.size
    · have hx := size_extract0 s 3000
      have hd : decide ((3000 : Int) < (s.size : Int)) = true := decide_eq_true (by omega)
      have hd' : decide (3000 < s.size) = true := decide_eq_true (by omega)
      go_wp2_with fail
      go_meet
      case rel => exact ⟨rfl, _, rfl, hx⟩
    · have hd : decide ((3000 : Int) < (s.size : Int)) = false := decide_eq_false (by omega)
      have hd' : decide (3000 < s.size) = false := decide_eq_false (by omega)
      go_wp2_with fail
      go_meet
      case rel => exact ⟨rfl, _, rfl, by omega⟩
  case rest =>
    obtain ⟨rfl, s', rfl, hs⟩ := hcut
    go_upto_if 25 with fail
    go_cut [1] from 18 (fun v wr => wr = wc ∧ ∃ q : ByteArray, v = .string q ∧ q.size ≤ 3000)
    case first =>
      by_cases hl : 3000 < t.size
      · have hx := size_extract0 t 3000
        have hd : decide ((3000 : Int) < (t.size : Int)) = true := decide_eq_true (by omega)
        have hd' : decide (3000 < t.size) = true := decide_eq_true (by omega)
        go_wp2_with fail
        go_meet
        case rel => exact ⟨rfl, _, rfl, hx⟩
      · have hd : decide ((3000 : Int) < (t.size : Int)) = false := decide_eq_false (by omega)
        have hd' : decide (3000 < t.size) = false := decide_eq_false (by omega)
        go_wp2_with fail
        go_meet
        case rel => exact ⟨rfl, _, rfl, by omega⟩
    case rest =>
      obtain ⟨rfl, t', rfl, ht⟩ := hcut
      have hla : (decS (dec (tx s') 0)).size ≤ 3000 := by
        cases hd : dec (tx s') 0 with
        | none => simp [decS, size_str]
        | some a => have := dec_len _ _ hd; rw [← size_tx] at this; simp [decS, size_str]; omega
      have hlb : (decS (dec (tx t') 0)).size ≤ 3000 := by
        cases hd : dec (tx t') 0 with
        | none => simp [decS, size_str]
        | some a => have := dec_len _ _ hd; rw [← size_tx] at this; simp [decS, size_str]; omega
      have DA := fun w => decode_two s' w (by omega)
      have DB := fun w => decode_two t' w (by omega)
      obtain ⟨A, hA⟩ : ∃ A, A = dec (tx s') 0 := ⟨_, rfl⟩
      obtain ⟨B, hB⟩ : ∃ B, B = dec (tx t') 0 := ⟨_, rfl⟩
      rw [← hA] at DA hla
      rw [← hB] at DB hlb
      have HA := Lib.hid hA
      have HB := Lib.hid hB
      clear hA hB
      go_wp2_with fail
      refine (DA _).mono ?_
      rintro e w1 ⟨rfl, hb1⟩
      go_wp2_with fail
      refine (DB _).mono ?_
      rintro e w2 ⟨rfl, hb2⟩
      replace hb2 := hb1.trans (hb2.mono hb1.size)
      clear hb1 DA DB
      go_upto_region 7 with fail
      go_cut [41] from 18 (fun v wr => wr = w2 ∧ v = .bool (A.isSome && B.isSome))
      case first =>
        cases A <;> cases B <;> simp only [Option.isSome_none, Option.isSome_some]
        all_goals (go_wp2_with fail; go_meet; case rel => exact ⟨rfl, rfl⟩)
      case rest =>
        obtain ⟨rfl, rfl⟩ := hcut
        generalize wc = w3 at *
        go_upto_if 41 with fail
        go_cut [7, 8, 9, 10] from 18 (fun a b c d wr => a = .string (decS A) ∧ b = .bool A.isSome ∧ c = .string (decS B) ∧ d = .bool B.isSome ∧ Below w3.heap.size w3 wr)
        case first =>
          cases A with
          | none =>
            simp only [Option.isSome_none, Bool.false_and]
            go_wp2_with fail
            go_meet
            case rel => exact ⟨rfl, rfl, rfl, rfl, Below.refl _ _⟩
          | some a =>
            cases B with
            | none =>
              simp only [Option.isSome_none, Option.isSome_some, Bool.and_false]
              go_wp2_with fail
              go_meet
              case rel => exact ⟨rfl, rfl, rfl, rfl, Below.refl _ _⟩
            | some b =>
              have hJ : dec (tx (s' ++ t')) 0 = some (a ++ b) := by rw [tx_append, dec_app _ _ a HA.out.symm, ← HB.out]; rfl
              have hst : (s' ++ t').size ≤ 6000 := by rw [ByteArray.size_append]; omega
              have DC := fun w => decode_is (s' ++ t') _ hJ w (by omega)
              have hno := no_over s' t' (by omega)
              simp only [decS, Option.getD_some] at hla hlb
              have hno2 := no_over (str a) (str b) (by omega)
              have heq : ((str (a ++ b)).toList == (str a ++ str b).toList) = true := by rw [toList_tx, toList_tx, tx_append]; simp [tx_str]
              have hne : (!((str (a ++ b)).toList == (str a ++ str b).toList)) = false := by rw [heq]; rfl
              simp only [Option.isSome_some, Bool.and_true, decS, Option.getD_some, decV] at DC ⊢
              clear hJ hst HA HB
              go_wp2_with fail
              refine (DC _).mono ?_
              rintro e w4 ⟨rfl, hb4⟩
              go_wp2_with fail
              go_meet
              case rel => exact ⟨rfl, rfl, rfl, rfl, hb4⟩
        case rest =>
          obtain ⟨rfl, rfl, rfl, rfl, hb3⟩ := hcut
          replace hb2 := hb2.trans (hb3.mono hb2.size)
          clear hb3
          generalize wc = w5 at *
          obtain ⟨n, rfl⟩ := Int.eq_ofNat_of_zero_le h0
          obtain ⟨k, hk⟩ : ∃ k : Nat, k = n % (s'.size + 1) := ⟨_, rfl⟩
          have hkl : k ≤ s'.size := by have := Nat.mod_lt n (show 0 < s'.size + 1 by omega); omega
          have hki2 : (n : Int) % ((s'.size : Int) + 1) = (k : Int) := by rw [hk, Int.natCast_emod]; rfl
          have hki : (n : Int).tmod ((s'.size : Int) + 1) = (k : Int) := by rw [Int.tmod_eq_emod_of_nonneg (by omega), hki2]
          have hparts : tx (s'.extract 0 k) ++ tx (s'.extract k s'.size) = tx s' := by
            rw [tx_extract, tx_extract, List.drop_zero, Nat.sub_zero, List.take_of_length_le (l := List.drop k (tx s')) (by rw [List.length_drop, ← size_tx]; exact Nat.le_refl _), List.take_append_drop]
          have hz1 : (s'.extract 0 k).size ≤ 3000 := by rw [size_tx, tx_extract]; simp; omega
          have hz2 : (s'.extract k s'.size).size ≤ 3000 := by have := congrArg List.length hparts; rw [List.length_append, ← size_tx, ← size_tx, ← size_tx] at this; omega
          have DC := fun w => decode_two (s'.extract 0 k) w (by omega)
          have DD := fun w => decode_two (s'.extract k s'.size) w (by omega)
          have hJ := dec_app (tx (s'.extract 0 k)) (tx (s'.extract k s'.size))
          rw [hparts] at hJ
          generalize dec (tx (s'.extract 0 k)) 0 = C at *
          generalize dec (tx (s'.extract k s'.size)) 0 = D at *
          have HJ := Lib.hid hJ
          have hab : ∀ q, A = some q → (decS A).size = q.length := fun q h => by rw [h]; exact size_str q
          clear hk hJ hparts hz1 hz2 hlb HB
          go_wp2_with fail
          refine (DC _).mono ?_
          rintro e w6 ⟨rfl, hb6⟩
          replace hb6 := hb2.trans (hb6.mono hb2.size)
          go_wp2_with fail
          refine (DD _).mono ?_
          rintro e w7 ⟨rfl, hb7⟩
          replace hb7 := hb6.trans (hb7.mono hb6.size)
          clear hb6 hb2 DC DD
          cases C with
          | none =>
            simp only [Option.isSome_none]
            go_wp2_with fail
            refine (awake_any _).mono ?_
            rintro e w9 ⟨rfl, hb9⟩
            replace hb9 := hb7.trans (hb9.mono hb7.size)
            go_wp2_with fail
            go_ret
            exact ⟨rfl, hb9⟩
          | some c =>
            cases D with
            | none =>
              simp only [Option.isSome_none, Option.isSome_some]
              go_wp2_with fail
              refine (awake_any _).mono ?_
              rintro e w9 ⟨rfl, hb9⟩
              replace hb9 := hb7.trans (hb9.mono hb7.size)
              go_wp2_with fail
              go_ret
              exact ⟨rfl, hb9⟩
            | some d =>
              have hA : A = some (c ++ d) := by rw [HA.out, HJ.out c rfl]; rfl
              subst hA
              have hsz := hab _ rfl
              have hcd : c.length + d.length ≤ 3000 := by rw [List.length_append] at hsz; omega
              have hno : ¬ 9223372036854775807 < (str c).size + (str d).size := by rw [size_str, size_str]; omega
              have heq : ((str c ++ str d).toList == (str (c ++ d)).toList) = true := by rw [toList_tx, toList_tx, tx_append]; simp [tx_str]
              have hne : (!((str c ++ str d).toList == (str (c ++ d)).toList)) = false := by rw [heq]; rfl
              simp only [Option.isSome_some, decS, Option.getD_some]
              clear hsz hab HJ HA hla
              go_wp2_with fail
              refine (awake_any _).mono ?_
              rintro e w9 ⟨rfl, hb9⟩
              replace hb9 := hb7.trans (hb9.mono hb7.size)
              go_wp2_with fail
              go_ret
              exact ⟨rfl, hb9⟩
end Go.Proofs.Ytdklkeclcdajeaa
