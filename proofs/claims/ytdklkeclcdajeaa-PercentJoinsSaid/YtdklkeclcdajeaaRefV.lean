/- The check's own Value and At. -/
import Derived.Test.YtdklkeclcdajeaaSaid
import Derived.Deep.LoopGhost
namespace Go.Proofs.Ytdklkeclcdajeaa
open Go.RowKit Pct
def refS : ByteArray := { data := #[48, 49, 50, 51, 52, 53, 54, 55, 56, 57, 97, 98, 99, 100, 101, 102, 48, 49, 50, 51, 52, 53, 54, 55, 56, 57, 65, 66, 67, 68, 69, 70] }
def rowN (j : Nat) : Nat := (refS.data.toList.getD j 0).toNat
theorem rowN_val : ∀ c : Fin 256, ∀ j : Fin 32, rowN j.1 = c.1 → val c.1 = some (j.1 % 16) := by decide +kernel
theorem rowN_none : ∀ c : Fin 256, (∀ j : Fin 32, rowN j.1 ≠ c.1) → val c.1 = none := by decide +kernel
theorem index_row (n : Nat) (h : n < 32) (w : World) : (Instr.index 9 (.string { data := #[48, 49, 50, 51, 52, 53, 54, 55, 56, 57, 97, 98, 99, 100, 101, 102, 48, 49, 50, 51, 52, 53, 54, 55, 56, 57, 65, 66, 67, 68, 69, 70] }) (.int .i64 (n : Int))).run Try.prog w = .ok (.int .u8 (rowN n : Int)) w :=
  index_tx refS n n rfl (show n < 32 from h) w
theorem ret_int' {k : IntKind} {a b : Int} (h : a = b) : Ending.returned (.int k a) = .returned (.int k b) := by rw [h]
def valI (c : Nat) : Int := match val c with | some x => (x : Int) | none => -1
theorem row_more {c k : Nat} (h : ∀ j, j < k → rowN j ≠ c) (he : ¬ rowN k = c) (j : Nat) (hj : j < k + 1) : rowN j ≠ c := by
  rcases Nat.lt_succ_iff_lt_or_eq.1 hj with h1 | h1
  · exact h j h1
  · subst h1; exact he
set_option maxHeartbeats 800000 in
theorem refval_any (c : Nat) (w : World) (h : c < 256) :
    Calls Try.prog 17 #[.int .u8 (c : Int)] w fun e w' => e = .returned (.int .i64 (valI c)) ∧ w = w' := by
  go_enter Try.func17, Try.ntmps17
  go_wp2
  go_loop [3] (fun i => ∃ k : Nat, k ≤ 32 ∧ i = .int .i64 k ∧ Hid (∀ j, j < k → rowN j ≠ c)) (fun i => (32 - intOf i).toNat)
  case atStart => exact ⟨0, by omega, rfl, Lib.hid (fun j hj => by omega)⟩
  case round =>
    obtain ⟨k, hk, rfl, HJ⟩ := hrel
    by_cases hlt : k < 32
    · have ix := index_row k hlt
      by_cases he : rowN k = c
      · have hv : val c = some (k % 16) := rowN_val ⟨c, h⟩ ⟨k, hlt⟩ he
        have HV := Lib.hid hv
        have hb : ((rowN k : Int) == (c : Int)) = true := by rw [he]; simp
        have hd : decide ((k : Int) < 32) = true := decide_eq_true (by omega)
        clear hv he
        go_wp2
        go_ret
        refine ⟨ret_int' ?_, rfl⟩
        rw [valI, HV.out]; simp
      · have hb : ((rowN k : Int) == (c : Int)) = false := by rw [beq_eq_false_iff_ne]; omega
        have hd : decide ((k : Int) < 32) = true := decide_eq_true (by omega)
        have HE := Lib.hid he
        clear he
        go_wp2
        go_round
        case rel => exact ⟨k + 1, by omega, by go_num, Lib.hid (row_more HJ.out HE.out)⟩
        case measure => simp [intOf]; omega
    · have : k = 32 := by omega
      subst this
      have hv : val c = none := rowN_none ⟨c, h⟩ (fun j => HJ.out j.1 j.2)
      have HV := Lib.hid hv
      clear hv
      go_wp2
      go_ret
      refine ⟨ret_int' ?_, rfl⟩
      rw [valI, HV.out]
theorem valI_some {c x : Nat} (h : val c = some x) : valI c = (x : Int) := by rw [valI, h]
theorem valI_none {c : Nat} (h : val c = none) : valI c = -1 := by rw [valI, h]
theorem esc_short (l : List UInt8) (h : l.length < 3) : esc l = none := by
  match l, h with
  | [], _ => rfl
  | [_], _ => rfl
  | [_, _], _ => rfl
set_option maxHeartbeats 800000 in
theorem at_any (s : ByteArray) (k : Nat) (w : World) (hk : k ≤ s.size) (hs : s.size ≤ 1000000000) :
    Calls Try.prog 36 #[.string s, .int .i64 (k : Int)] w fun e w' => e = .returned (.bool (esc ((tx s).drop k)).isSome) ∧ w = w' := by
  by_cases h3 : k + 2 < s.size
  · have i0 := index_tx s k k rfl (by omega)
    have i1 := index_tx s (k + 1) (k + 1) (by omega) (by omega)
    have i2 := index_tx s (k + 2) (k + 2) (by omega) h3
    have e : (tx s).drop k = (tx s).getD k 0 :: (tx s).getD (k + 1) 0 :: (tx s).getD (k + 2) 0 :: (tx s).drop (k + 3) := by
      rw [drop_tx s k (by omega), drop_tx s (k + 1) (by omega), drop_tx s (k + 2) h3]
    rw [e]
    generalize (tx s).getD k 0 = p at *
    generalize (tx s).getD (k + 1) 0 = a at *
    generalize (tx s).getD (k + 2) 0 = b at *
    generalize (tx s).drop (k + 3) = t at *
    clear e
    have d3 : decide ((k : Int) + 2 < (s.size : Int)) = true := decide_eq_true (by omega)
    by_cases h37 : p = 37
    · subst h37
      rw [esc_cons, if_pos rfl]
      have VA := refval_any a.toNat w (u8_lt a)
      have VB := refval_any b.toNat w (u8_lt b)
      cases hx : val a.toNat with
      | none =>
        rw [valI_none hx] at VA
        clear hx
        go_enter Try.func36, Try.ntmps36
        go_wp2_with fail
        refine VA.mono ?_; rintro e w' ⟨rfl, rfl⟩
        go_wp2_with fail
        go_ret
        exact ⟨rfl, rfl⟩
      | some x =>
        rw [valI_some hx] at VA
        have dx : decide ((0 : Int) ≤ (x : Int)) = true := decide_eq_true (by omega)
        clear hx
        cases hy : val b.toNat with
        | none =>
          rw [valI_none hy] at VB
          clear hy
          go_enter Try.func36, Try.ntmps36
          go_wp2_with fail
          refine VA.mono ?_; rintro e w' ⟨rfl, rfl⟩
          go_wp2_with fail
          refine VB.mono ?_; rintro e w' ⟨rfl, rfl⟩
          go_wp2_with fail
          go_ret
          exact ⟨rfl, rfl⟩
        | some y =>
          rw [valI_some hy] at VB
          have dy : decide ((0 : Int) ≤ (y : Int)) = true := decide_eq_true (by omega)
          clear hy
          go_enter Try.func36, Try.ntmps36
          go_wp2_with fail
          refine VA.mono ?_; rintro e w' ⟨rfl, rfl⟩
          go_wp2_with fail
          refine VB.mono ?_; rintro e w' ⟨rfl, rfl⟩
          go_wp2_with fail
          go_ret
          exact ⟨rfl, rfl⟩
    · rw [esc_ne h37]
      have b37 : ((p.toNat : Int) == 37) = false := by have := u8_ne h37; rw [bne_iff_ne] at this; rw [beq_eq_false_iff_ne]; exact this
      clear h37
      go_enter Try.func36, Try.ntmps36
      go_wp2_with fail
      go_ret
      exact ⟨rfl, rfl⟩
  · have d3 : decide ((k : Int) + 2 < (s.size : Int)) = false := decide_eq_false (by omega)
    rw [esc_short _ (by rw [List.length_drop, ← size_tx]; omega)]
    go_enter Try.func36, Try.ntmps36
    go_wp2_with fail
    go_ret
    exact ⟨rfl, rfl⟩
end Go.Proofs.Ytdklkeclcdajeaa
