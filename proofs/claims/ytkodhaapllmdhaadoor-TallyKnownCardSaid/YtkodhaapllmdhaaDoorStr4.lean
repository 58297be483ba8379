/- formatBase10: the digits of a number, from behind. -/
import Derived.Test.YtkodhaapllmdhaaDoorStr3
namespace Go.Proofs.YtkodhaapllmdhaaDoor
open Go.RowKit
/-- the pairs of digits, one behind the other -/
theorem pairs_at : ∀ y : Nat, y < 100 → (({ data := #[48, 48, 48, 49, 48, 50, 48, 51, 48, 52, 48, 53, 48, 54, 48, 55, 48, 56, 48, 57, 49, 48, 49, 49, 49, 50, 49, 51, 49, 52, 49, 53, 49, 54, 49, 55, 49, 56, 49, 57, 50, 48, 50, 49, 50, 50, 50, 51, 50, 52, 50, 53, 50, 54, 50, 55, 50, 56, 50, 57, 51, 48, 51, 49, 51, 50, 51, 51, 51, 52, 51, 53, 51, 54, 51, 55, 51, 56, 51, 57, 52, 48, 52, 49, 52, 50, 52, 51, 52, 52, 52, 53, 52, 54, 52, 55, 52, 56, 52, 57, 53, 48, 53, 49, 53, 50, 53, 51, 53, 52, 53, 53, 53, 54, 53, 55, 53, 56, 53, 57, 54, 48, 54, 49, 54, 50, 54, 51, 54, 52, 54, 53, 54, 54, 54, 55, 54, 56, 54, 57, 55, 48, 55, 49, 55, 50, 55, 51, 55, 52, 55, 53, 55, 54, 55, 55, 55, 56, 55, 57, 56, 48, 56, 49, 56, 50, 56, 51, 56, 52, 56, 53, 56, 54, 56, 55, 56, 56, 56, 57, 57, 48, 57, 49, 57, 50, 57, 51, 57, 52, 57, 53, 57, 54, 57, 55, 57, 56, 57, 57] } : ByteArray).data.toList.getD (y * 2) 0).toNat = 48 + y / 10 ∧ (({ data := #[48, 48, 48, 49, 48, 50, 48, 51, 48, 52, 48, 53, 48, 54, 48, 55, 48, 56, 48, 57, 49, 48, 49, 49, 49, 50, 49, 51, 49, 52, 49, 53, 49, 54, 49, 55, 49, 56, 49, 57, 50, 48, 50, 49, 50, 50, 50, 51, 50, 52, 50, 53, 50, 54, 50, 55, 50, 56, 50, 57, 51, 48, 51, 49, 51, 50, 51, 51, 51, 52, 51, 53, 51, 54, 51, 55, 51, 56, 51, 57, 52, 48, 52, 49, 52, 50, 52, 51, 52, 52, 52, 53, 52, 54, 52, 55, 52, 56, 52, 57, 53, 48, 53, 49, 53, 50, 53, 51, 53, 52, 53, 53, 53, 54, 53, 55, 53, 56, 53, 57, 54, 48, 54, 49, 54, 50, 54, 51, 54, 52, 54, 53, 54, 54, 54, 55, 54, 56, 54, 57, 55, 48, 55, 49, 55, 50, 55, 51, 55, 52, 55, 53, 55, 54, 55, 55, 55, 56, 55, 57, 56, 48, 56, 49, 56, 50, 56, 51, 56, 52, 56, 53, 56, 54, 56, 55, 56, 56, 56, 57, 57, 48, 57, 49, 57, 50, 57, 51, 57, 52, 57, 53, 57, 54, 57, 55, 57, 56, 57, 57] } : ByteArray).data.toList.getD (y * 2 + 1) 0).toNat = 48 + y % 10 := by decide +kernel
theorem pairs_size : ({ data := #[48, 48, 48, 49, 48, 50, 48, 51, 48, 52, 48, 53, 48, 54, 48, 55, 48, 56, 48, 57, 49, 48, 49, 49, 49, 50, 49, 51, 49, 52, 49, 53, 49, 54, 49, 55, 49, 56, 49, 57, 50, 48, 50, 49, 50, 50, 50, 51, 50, 52, 50, 53, 50, 54, 50, 55, 50, 56, 50, 57, 51, 48, 51, 49, 51, 50, 51, 51, 51, 52, 51, 53, 51, 54, 51, 55, 51, 56, 51, 57, 52, 48, 52, 49, 52, 50, 52, 51, 52, 52, 52, 53, 52, 54, 52, 55, 52, 56, 52, 57, 53, 48, 53, 49, 53, 50, 53, 51, 53, 52, 53, 53, 53, 54, 53, 55, 53, 56, 53, 57, 54, 48, 54, 49, 54, 50, 54, 51, 54, 52, 54, 53, 54, 54, 54, 55, 54, 56, 54, 57, 55, 48, 55, 49, 55, 50, 55, 51, 55, 52, 55, 53, 55, 54, 55, 55, 55, 56, 55, 57, 56, 48, 56, 49, 56, 50, 56, 51, 56, 52, 56, 53, 56, 54, 56, 55, 56, 56, 56, 57, 57, 48, 57, 49, 57, 50, 57, 51, 57, 52, 57, 53, 57, 54, 57, 55, 57, 56, 57, 57] } : ByteArray).size = 200 := by decide +kernel
theorem get_byte (s : ByteArray) (k : Nat) (h : k < s.size) : s[k] = s.data.toList.getD k 0 := by
  have h' : k < s.data.toList.length := h
  rw [List.getD_eq_getElem?_getD, List.getElem?_eq_getElem h', Option.getD_some]
  rfl
theorem pair_lo (y D : Nat) (hy : y < 100) (i : Int) (hi : i = (y : Int) * 2 + 1) (hD : D = 48 + y % 10) (w : World) : (Instr.index 9 (Value.string { data := #[48, 48, 48, 49, 48, 50, 48, 51, 48, 52, 48, 53, 48, 54, 48, 55, 48, 56, 48, 57, 49, 48, 49, 49, 49, 50, 49, 51, 49, 52, 49, 53, 49, 54, 49, 55, 49, 56, 49, 57, 50, 48, 50, 49, 50, 50, 50, 51, 50, 52, 50, 53, 50, 54, 50, 55, 50, 56, 50, 57, 51, 48, 51, 49, 51, 50, 51, 51, 51, 52, 51, 53, 51, 54, 51, 55, 51, 56, 51, 57, 52, 48, 52, 49, 52, 50, 52, 51, 52, 52, 52, 53, 52, 54, 52, 55, 52, 56, 52, 57, 53, 48, 53, 49, 53, 50, 53, 51, 53, 52, 53, 53, 53, 54, 53, 55, 53, 56, 53, 57, 54, 48, 54, 49, 54, 50, 54, 51, 54, 52, 54, 53, 54, 54, 54, 55, 54, 56, 54, 57, 55, 48, 55, 49, 55, 50, 55, 51, 55, 52, 55, 53, 55, 54, 55, 55, 55, 56, 55, 57, 56, 48, 56, 49, 56, 50, 56, 51, 56, 52, 56, 53, 56, 54, 56, 55, 56, 56, 56, 57, 57, 48, 57, 49, 57, 50, 57, 51, 57, 52, 57, 53, 57, 54, 57, 55, 57, 56, 57, 57] }) (.int .u32 i)).run Tryd.prog w = .ok (.int .u8 (D : Int)) w := by
  subst hi
  rw [run_index_string w _ _ _ _ Tryd.underlying9, dif_pos ⟨by omega, by rw [pairs_size]; omega⟩]
  have e : ((y : Int) * 2 + 1).toNat = y * 2 + 1 := by omega
  simp only [e]
  rw [get_byte _ _ (by rw [pairs_size]; omega), (pairs_at y hy).2, hD]
theorem pair_hi (y D : Nat) (hy : y < 100) (i : Int) (hi : i = (y : Int) * 2) (hD : D = 48 + y / 10) (w : World) : (Instr.index 9 (Value.string { data := #[48, 48, 48, 49, 48, 50, 48, 51, 48, 52, 48, 53, 48, 54, 48, 55, 48, 56, 48, 57, 49, 48, 49, 49, 49, 50, 49, 51, 49, 52, 49, 53, 49, 54, 49, 55, 49, 56, 49, 57, 50, 48, 50, 49, 50, 50, 50, 51, 50, 52, 50, 53, 50, 54, 50, 55, 50, 56, 50, 57, 51, 48, 51, 49, 51, 50, 51, 51, 51, 52, 51, 53, 51, 54, 51, 55, 51, 56, 51, 57, 52, 48, 52, 49, 52, 50, 52, 51, 52, 52, 52, 53, 52, 54, 52, 55, 52, 56, 52, 57, 53, 48, 53, 49, 53, 50, 53, 51, 53, 52, 53, 53, 53, 54, 53, 55, 53, 56, 53, 57, 54, 48, 54, 49, 54, 50, 54, 51, 54, 52, 54, 53, 54, 54, 54, 55, 54, 56, 54, 57, 55, 48, 55, 49, 55, 50, 55, 51, 55, 52, 55, 53, 55, 54, 55, 55, 55, 56, 55, 57, 56, 48, 56, 49, 56, 50, 56, 51, 56, 52, 56, 53, 56, 54, 56, 55, 56, 56, 56, 57, 57, 48, 57, 49, 57, 50, 57, 51, 57, 52, 57, 53, 57, 54, 57, 55, 57, 56, 57, 57] }) (.int .u32 i)).run Tryd.prog w = .ok (.int .u8 (D : Int)) w := by
  subst hi
  rw [run_index_string w _ _ _ _ Tryd.underlying9, dif_pos ⟨by omega, by rw [pairs_size]; omega⟩]
  have e : ((y : Int) * 2).toNat = y * 2 := by omega
  simp only [e]
  rw [get_byte _ _ (by rw [pairs_size]; omega), (pairs_at y hy).1, hD]
set_option maxHeartbeats 3200000 in
set_option maxRecDepth 100000 in
theorem base10_any (g N n cap u : Nat) (f : Nat → Nat) (w : World) (hR : RowB w g N f) (hn : n ≤ N) (hu : u < 10 ^ n) (hn2 : n ≤ 19) (hN : N ≤ 100) :
    Calls Tryd.prog 84 #[.slice (some ⟨g, 0, none⟩) n cap, .int .u64 (u : Int)] w fun e w' => e = .returned (.tuple #[]) ∧ RowB w' g N (fun j => if j < n then dg u (n - 1 - j) else f j) ∧ Below g w w' := by
  have hu64 : u < 2 ^ 64 := by
    have : 10 ^ n ≤ 10 ^ 19 := Nat.pow_le_pow_right (by decide) hn2
    have e : (10 : Nat) ^ 19 < 2 ^ 64 := by decide
    omega
  have HU := Lib.hid hu
  have HR := Lib.hid hR
  clear hu hR
  go_enter Tryd.func84, Tryd.ntmps84
  go_wp2_with fail
  go_loopw [1, 4] (fun x i wr => ∃ k : Nat, 8 * k ≤ n ∧ i = .int .i64 ((n - 8 * k : Nat) : Int) ∧ x = .int .u64 ((u / 10 ^ (8 * k) : Nat) : Int) ∧ Hid (RowB wr g N (fun j => if n - 8 * k ≤ j ∧ j < n then dg u (n - 1 - j) else f j)) ∧ Hid (Below g w wr)) (fun _ i _ => (intOf i).toNat)
  case atStart => exact ⟨0, by omega, rfl, by simp, Lib.hid (HR.out.congr fun j hj => by rw [if_neg (by omega)]), Lib.hid (Below.refl _ _)⟩
  case round =>
    obtain ⟨k, hk, rfl, rfl, hr, hb⟩ := hrel
    by_cases h8 : 8 ≤ n - 8 * k
    · have hd : decide (8 ≤ ((n - 8 * k : Nat) : Int)) = true := decide_eq_true (by omega)
      have hx : u / 10 ^ (8 * k) < 2 ^ 64 := Nat.lt_of_le_of_lt (Nat.div_le_self _ _) hu64
      have hMn : n - 8 * k ≤ n := Nat.sub_le _ _
      generalize hX : u / 10 ^ (8 * k) = X at *
      generalize hM : n - 8 * k = M at *
      have HX := Lib.hid hX
      have HM := Lib.hid hM
      clear hX hM
      have hrow := hr.out
      obtain ⟨D0, E0⟩ : ∃ D, Hid (D = 48 + (X % 100) % 10) := ⟨_, rfl⟩
      obtain ⟨D1, E1⟩ : ∃ D, Hid (D = 48 + (X % 100) / 10) := ⟨_, rfl⟩
      have i0 : ∀ w, (Instr.index 9 (Value.string { data := #[48, 48, 48, 49, 48, 50, 48, 51, 48, 52, 48, 53, 48, 54, 48, 55, 48, 56, 48, 57, 49, 48, 49, 49, 49, 50, 49, 51, 49, 52, 49, 53, 49, 54, 49, 55, 49, 56, 49, 57, 50, 48, 50, 49, 50, 50, 50, 51, 50, 52, 50, 53, 50, 54, 50, 55, 50, 56, 50, 57, 51, 48, 51, 49, 51, 50, 51, 51, 51, 52, 51, 53, 51, 54, 51, 55, 51, 56, 51, 57, 52, 48, 52, 49, 52, 50, 52, 51, 52, 52, 52, 53, 52, 54, 52, 55, 52, 56, 52, 57, 53, 48, 53, 49, 53, 50, 53, 51, 53, 52, 53, 53, 53, 54, 53, 55, 53, 56, 53, 57, 54, 48, 54, 49, 54, 50, 54, 51, 54, 52, 54, 53, 54, 54, 54, 55, 54, 56, 54, 57, 55, 48, 55, 49, 55, 50, 55, 51, 55, 52, 55, 53, 55, 54, 55, 55, 55, 56, 55, 57, 56, 48, 56, 49, 56, 50, 56, 51, 56, 52, 56, 53, 56, 54, 56, 55, 56, 56, 56, 57, 57, 48, 57, 49, 57, 50, 57, 51, 57, 52, 57, 53, 57, 54, 57, 55, 57, 56, 57, 57] }) (.int .u32 ((X : Int) % 100 * 2 + 1))).run Tryd.prog w = .ok (.int .u8 (D0 : Int)) w := fun w => pair_lo (X % 100) D0 (by omega) _ (by omega) E0.out w
      have i1 : ∀ w, (Instr.index 9 (Value.string { data := #[48, 48, 48, 49, 48, 50, 48, 51, 48, 52, 48, 53, 48, 54, 48, 55, 48, 56, 48, 57, 49, 48, 49, 49, 49, 50, 49, 51, 49, 52, 49, 53, 49, 54, 49, 55, 49, 56, 49, 57, 50, 48, 50, 49, 50, 50, 50, 51, 50, 52, 50, 53, 50, 54, 50, 55, 50, 56, 50, 57, 51, 48, 51, 49, 51, 50, 51, 51, 51, 52, 51, 53, 51, 54, 51, 55, 51, 56, 51, 57, 52, 48, 52, 49, 52, 50, 52, 51, 52, 52, 52, 53, 52, 54, 52, 55, 52, 56, 52, 57, 53, 48, 53, 49, 53, 50, 53, 51, 53, 52, 53, 53, 53, 54, 53, 55, 53, 56, 53, 57, 54, 48, 54, 49, 54, 50, 54, 51, 54, 52, 54, 53, 54, 54, 54, 55, 54, 56, 54, 57, 55, 48, 55, 49, 55, 50, 55, 51, 55, 52, 55, 53, 55, 54, 55, 55, 55, 56, 55, 57, 56, 48, 56, 49, 56, 50, 56, 51, 56, 52, 56, 53, 56, 54, 56, 55, 56, 56, 56, 57, 57, 48, 57, 49, 57, 50, 57, 51, 57, 52, 57, 53, 57, 54, 57, 55, 57, 56, 57, 57] }) (.int .u32 ((X : Int) % 100 * 2))).run Tryd.prog w = .ok (.int .u8 (D1 : Int)) w := fun w => pair_hi (X % 100) D1 (by omega) _ (by omega) E1.out w
      obtain ⟨D2, E2⟩ : ∃ D, Hid (D = 48 + (X % 10000 / 100) % 10) := ⟨_, rfl⟩
      obtain ⟨D3, E3⟩ : ∃ D, Hid (D = 48 + (X % 10000 / 100) / 10) := ⟨_, rfl⟩
      have i2 : ∀ w, (Instr.index 9 (Value.string { data := #[48, 48, 48, 49, 48, 50, 48, 51, 48, 52, 48, 53, 48, 54, 48, 55, 48, 56, 48, 57, 49, 48, 49, 49, 49, 50, 49, 51, 49, 52, 49, 53, 49, 54, 49, 55, 49, 56, 49, 57, 50, 48, 50, 49, 50, 50, 50, 51, 50, 52, 50, 53, 50, 54, 50, 55, 50, 56, 50, 57, 51, 48, 51, 49, 51, 50, 51, 51, 51, 52, 51, 53, 51, 54, 51, 55, 51, 56, 51, 57, 52, 48, 52, 49, 52, 50, 52, 51, 52, 52, 52, 53, 52, 54, 52, 55, 52, 56, 52, 57, 53, 48, 53, 49, 53, 50, 53, 51, 53, 52, 53, 53, 53, 54, 53, 55, 53, 56, 53, 57, 54, 48, 54, 49, 54, 50, 54, 51, 54, 52, 54, 53, 54, 54, 54, 55, 54, 56, 54, 57, 55, 48, 55, 49, 55, 50, 55, 51, 55, 52, 55, 53, 55, 54, 55, 55, 55, 56, 55, 57, 56, 48, 56, 49, 56, 50, 56, 51, 56, 52, 56, 53, 56, 54, 56, 55, 56, 56, 56, 57, 57, 48, 57, 49, 57, 50, 57, 51, 57, 52, 57, 53, 57, 54, 57, 55, 57, 56, 57, 57] }) (.int .u32 ((X : Int) % 10000 / 100 * 2 + 1))).run Tryd.prog w = .ok (.int .u8 (D2 : Int)) w := fun w => pair_lo (X % 10000 / 100) D2 (by omega) _ (by omega) E2.out w
      have i3 : ∀ w, (Instr.index 9 (Value.string { data := #[48, 48, 48, 49, 48, 50, 48, 51, 48, 52, 48, 53, 48, 54, 48, 55, 48, 56, 48, 57, 49, 48, 49, 49, 49, 50, 49, 51, 49, 52, 49, 53, 49, 54, 49, 55, 49, 56, 49, 57, 50, 48, 50, 49, 50, 50, 50, 51, 50, 52, 50, 53, 50, 54, 50, 55, 50, 56, 50, 57, 51, 48, 51, 49, 51, 50, 51, 51, 51, 52, 51, 53, 51, 54, 51, 55, 51, 56, 51, 57, 52, 48, 52, 49, 52, 50, 52, 51, 52, 52, 52, 53, 52, 54, 52, 55, 52, 56, 52, 57, 53, 48, 53, 49, 53, 50, 53, 51, 53, 52, 53, 53, 53, 54, 53, 55, 53, 56, 53, 57, 54, 48, 54, 49, 54, 50, 54, 51, 54, 52, 54, 53, 54, 54, 54, 55, 54, 56, 54, 57, 55, 48, 55, 49, 55, 50, 55, 51, 55, 52, 55, 53, 55, 54, 55, 55, 55, 56, 55, 57, 56, 48, 56, 49, 56, 50, 56, 51, 56, 52, 56, 53, 56, 54, 56, 55, 56, 56, 56, 57, 57, 48, 57, 49, 57, 50, 57, 51, 57, 52, 57, 53, 57, 54, 57, 55, 57, 56, 57, 57] }) (.int .u32 ((X : Int) % 10000 / 100 * 2))).run Tryd.prog w = .ok (.int .u8 (D3 : Int)) w := fun w => pair_hi (X % 10000 / 100) D3 (by omega) _ (by omega) E3.out w
      obtain ⟨D4, E4⟩ : ∃ D, Hid (D = 48 + (X % 100000000 / 10000 % 100) % 10) := ⟨_, rfl⟩
      obtain ⟨D5, E5⟩ : ∃ D, Hid (D = 48 + (X % 100000000 / 10000 % 100) / 10) := ⟨_, rfl⟩
      have i4 : ∀ w, (Instr.index 9 (Value.string { data := #[48, 48, 48, 49, 48, 50, 48, 51, 48, 52, 48, 53, 48, 54, 48, 55, 48, 56, 48, 57, 49, 48, 49, 49, 49, 50, 49, 51, 49, 52, 49, 53, 49, 54, 49, 55, 49, 56, 49, 57, 50, 48, 50, 49, 50, 50, 50, 51, 50, 52, 50, 53, 50, 54, 50, 55, 50, 56, 50, 57, 51, 48, 51, 49, 51, 50, 51, 51, 51, 52, 51, 53, 51, 54, 51, 55, 51, 56, 51, 57, 52, 48, 52, 49, 52, 50, 52, 51, 52, 52, 52, 53, 52, 54, 52, 55, 52, 56, 52, 57, 53, 48, 53, 49, 53, 50, 53, 51, 53, 52, 53, 53, 53, 54, 53, 55, 53, 56, 53, 57, 54, 48, 54, 49, 54, 50, 54, 51, 54, 52, 54, 53, 54, 54, 54, 55, 54, 56, 54, 57, 55, 48, 55, 49, 55, 50, 55, 51, 55, 52, 55, 53, 55, 54, 55, 55, 55, 56, 55, 57, 56, 48, 56, 49, 56, 50, 56, 51, 56, 52, 56, 53, 56, 54, 56, 55, 56, 56, 56, 57, 57, 48, 57, 49, 57, 50, 57, 51, 57, 52, 57, 53, 57, 54, 57, 55, 57, 56, 57, 57] }) (.int .u32 ((X : Int) % 100000000 / 10000 % 100 * 2 + 1))).run Tryd.prog w = .ok (.int .u8 (D4 : Int)) w := fun w => pair_lo (X % 100000000 / 10000 % 100) D4 (by omega) _ (by omega) E4.out w
      have i5 : ∀ w, (Instr.index 9 (Value.string { data := #[48, 48, 48, 49, 48, 50, 48, 51, 48, 52, 48, 53, 48, 54, 48, 55, 48, 56, 48, 57, 49, 48, 49, 49, 49, 50, 49, 51, 49, 52, 49, 53, 49, 54, 49, 55, 49, 56, 49, 57, 50, 48, 50, 49, 50, 50, 50, 51, 50, 52, 50, 53, 50, 54, 50, 55, 50, 56, 50, 57, 51, 48, 51, 49, 51, 50, 51, 51, 51, 52, 51, 53, 51, 54, 51, 55, 51, 56, 51, 57, 52, 48, 52, 49, 52, 50, 52, 51, 52, 52, 52, 53, 52, 54, 52, 55, 52, 56, 52, 57, 53, 48, 53, 49, 53, 50, 53, 51, 53, 52, 53, 53, 53, 54, 53, 55, 53, 56, 53, 57, 54, 48, 54, 49, 54, 50, 54, 51, 54, 52, 54, 53, 54, 54, 54, 55, 54, 56, 54, 57, 55, 48, 55, 49, 55, 50, 55, 51, 55, 52, 55, 53, 55, 54, 55, 55, 55, 56, 55, 57, 56, 48, 56, 49, 56, 50, 56, 51, 56, 52, 56, 53, 56, 54, 56, 55, 56, 56, 56, 57, 57, 48, 57, 49, 57, 50, 57, 51, 57, 52, 57, 53, 57, 54, 57, 55, 57, 56, 57, 57] }) (.int .u32 ((X : Int) % 100000000 / 10000 % 100 * 2))).run Tryd.prog w = .ok (.int .u8 (D5 : Int)) w := fun w => pair_hi (X % 100000000 / 10000 % 100) D5 (by omega) _ (by omega) E5.out w
      obtain ⟨D6, E6⟩ : ∃ D, Hid (D = 48 + (X % 100000000 / 10000 / 100) % 10) := ⟨_, rfl⟩
      obtain ⟨D7, E7⟩ : ∃ D, Hid (D = 48 + (X % 100000000 / 10000 / 100) / 10) := ⟨_, rfl⟩
      have i6 : ∀ w, (Instr.index 9 (Value.string { data := #[48, 48, 48, 49, 48, 50, 48, 51, 48, 52, 48, 53, 48, 54, 48, 55, 48, 56, 48, 57, 49, 48, 49, 49, 49, 50, 49, 51, 49, 52, 49, 53, 49, 54, 49, 55, 49, 56, 49, 57, 50, 48, 50, 49, 50, 50, 50, 51, 50, 52, 50, 53, 50, 54, 50, 55, 50, 56, 50, 57, 51, 48, 51, 49, 51, 50, 51, 51, 51, 52, 51, 53, 51, 54, 51, 55, 51, 56, 51, 57, 52, 48, 52, 49, 52, 50, 52, 51, 52, 52, 52, 53, 52, 54, 52, 55, 52, 56, 52, 57, 53, 48, 53, 49, 53, 50, 53, 51, 53, 52, 53, 53, 53, 54, 53, 55, 53, 56, 53, 57, 54, 48, 54, 49, 54, 50, 54, 51, 54, 52, 54, 53, 54, 54, 54, 55, 54, 56, 54, 57, 55, 48, 55, 49, 55, 50, 55, 51, 55, 52, 55, 53, 55, 54, 55, 55, 55, 56, 55, 57, 56, 48, 56, 49, 56, 50, 56, 51, 56, 52, 56, 53, 56, 54, 56, 55, 56, 56, 56, 57, 57, 48, 57, 49, 57, 50, 57, 51, 57, 52, 57, 53, 57, 54, 57, 55, 57, 56, 57, 57] }) (.int .u32 ((X : Int) % 100000000 / 10000 / 100 * 2 + 1))).run Tryd.prog w = .ok (.int .u8 (D6 : Int)) w := fun w => pair_lo (X % 100000000 / 10000 / 100) D6 (by omega) _ (by omega) E6.out w
      have i7 : ∀ w, (Instr.index 9 (Value.string { data := #[48, 48, 48, 49, 48, 50, 48, 51, 48, 52, 48, 53, 48, 54, 48, 55, 48, 56, 48, 57, 49, 48, 49, 49, 49, 50, 49, 51, 49, 52, 49, 53, 49, 54, 49, 55, 49, 56, 49, 57, 50, 48, 50, 49, 50, 50, 50, 51, 50, 52, 50, 53, 50, 54, 50, 55, 50, 56, 50, 57, 51, 48, 51, 49, 51, 50, 51, 51, 51, 52, 51, 53, 51, 54, 51, 55, 51, 56, 51, 57, 52, 48, 52, 49, 52, 50, 52, 51, 52, 52, 52, 53, 52, 54, 52, 55, 52, 56, 52, 57, 53, 48, 53, 49, 53, 50, 53, 51, 53, 52, 53, 53, 53, 54, 53, 55, 53, 56, 53, 57, 54, 48, 54, 49, 54, 50, 54, 51, 54, 52, 54, 53, 54, 54, 54, 55, 54, 56, 54, 57, 55, 48, 55, 49, 55, 50, 55, 51, 55, 52, 55, 53, 55, 54, 55, 55, 55, 56, 55, 57, 56, 48, 56, 49, 56, 50, 56, 51, 56, 52, 56, 53, 56, 54, 56, 55, 56, 56, 56, 57, 57, 48, 57, 49, 57, 50, 57, 51, 57, 52, 57, 53, 57, 54, 57, 55, 57, 56, 57, 57] }) (.int .u32 ((X : Int) % 100000000 / 10000 / 100 * 2))).run Tryd.prog w = .ok (.int .u8 (D7 : Int)) w := fun w => pair_hi (X % 100000000 / 10000 / 100) D7 (by omega) _ (by omega) E7.out w
      obtain ⟨fk, FK⟩ : ∃ fk : Nat → Nat, Hid (fk = fun j => if M ≤ j ∧ j < n then dg u (n - 1 - j) else f j) := ⟨_, rfl⟩
      have hrow : RowB wr g N fk := by rw [FK.out]; exact hr.out
      have hbel := hb.out
      clear hr hb
      go_wp2_with fail
      have q1 := (hrow (M - 1) (by omega)).1
      have q2 := (hrow (M - 1) (by omega)).2
      have q3 := (hrow (M - 2) (by omega)).1
      have q4 := (hrow (M - 2) (by omega)).2
      refine region_mix [(false, 0), (false, 1), (false, 2), (false, 3), (false, 4), (false, 5), (false, 6), (false, 7), (false, 8), (false, 9), (false, 10), (false, 11), (true, 12), (false, 13)] (fun _ => True) (by kernel_rfl) (by kernel_rfl) trivial ?_
      simp only [planOps, List.map_cons, List.map_nil, List.getD_cons_zero, List.getD_cons_succ, List.length_cons, List.length_nil, List.drop_succ_cons, List.drop_zero]
      refine mix_seg (seg := [_, _, _, _, _, _, _, _, _, _, _, _]) rfl trivial ?_
      intro ι hι F hF
      repeat (first | (go_big_quiet_step (fail)))
      refine wpQuiet_nil ?_
      clear hF hι F
      refine mix_eff (fun K hK => ?_)
      go_wp2
      refine mix_on hK trivial ?_
      clear hK K
      refine mix_seg (seg := [_]) (rest := []) rfl trivial ?_
      intro ι hι F hF
      repeat (first | (go_big_quiet_step (fail)))
      refine wpQuiet_nil ?_
      clear hF hι F
      show wpList _ _ _ _ _ _
      go_wp2
      refine NoPanic.normal ?_
      generalize hw : ((wr.setCell ⟨g, M - 1, none⟩ (.int .u8 (D0 : Int))).setCell ⟨g, M - 2, none⟩ (.int .u8 (D1 : Int))).drew = w1
      have hrow' : RowB w1 g N (upd (upd fk (M - 1) D0) (M - 2) D1) := by rw [← hw]; exact (hrow.set (M - 1) D0 (by omega)).set (M - 2) D1 (by omega)
      have hbel' : Below g w w1 := by rw [← hw]; exact ((hbel.setCell (p := ⟨g, (M - 1), none⟩) (Nat.le_refl _) _).setCell (p := ⟨g, (M - 2), none⟩) (Nat.le_refl _) _).drew
      clear q1 q2 q3 q4 hw hrow hbel
      have hrow := hrow'
      have hbel := hbel'
      clear hrow' hbel'
      go_wp2_with fail
      have q1 := (hrow (M - 3) (by omega)).1
      have q2 := (hrow (M - 3) (by omega)).2
      have q3 := (hrow (M - 4) (by omega)).1
      have q4 := (hrow (M - 4) (by omega)).2
      refine region_mix [(false, 0), (false, 1), (false, 2), (false, 3), (false, 4), (false, 5), (false, 6), (false, 7), (false, 8), (false, 9), (false, 10), (false, 11), (true, 12), (false, 13)] (fun _ => True) (by kernel_rfl) (by kernel_rfl) trivial ?_
      simp only [planOps, List.map_cons, List.map_nil, List.getD_cons_zero, List.getD_cons_succ, List.length_cons, List.length_nil, List.drop_succ_cons, List.drop_zero]
      refine mix_seg (seg := [_, _, _, _, _, _, _, _, _, _, _, _]) rfl trivial ?_
      intro ι hι F hF
      repeat (first | (go_big_quiet_step (fail)))
      refine wpQuiet_nil ?_
      clear hF hι F
      refine mix_eff (fun K hK => ?_)
      go_wp2
      refine mix_on hK trivial ?_
      clear hK K
      refine mix_seg (seg := [_]) (rest := []) rfl trivial ?_
      intro ι hι F hF
      repeat (first | (go_big_quiet_step (fail)))
      refine wpQuiet_nil ?_
      clear hF hι F
      show wpList _ _ _ _ _ _
      go_wp2
      refine NoPanic.normal ?_
      generalize hw : ((w1.setCell ⟨g, M - 3, none⟩ (.int .u8 (D2 : Int))).setCell ⟨g, M - 4, none⟩ (.int .u8 (D3 : Int))).drew = w2
      have hrow' : RowB w2 g N (upd (upd (upd (upd fk (M - 1) D0) (M - 2) D1) (M - 3) D2) (M - 4) D3) := by rw [← hw]; exact (hrow.set (M - 3) D2 (by omega)).set (M - 4) D3 (by omega)
      have hbel' : Below g w w2 := by rw [← hw]; exact ((hbel.setCell (p := ⟨g, (M - 3), none⟩) (Nat.le_refl _) _).setCell (p := ⟨g, (M - 4), none⟩) (Nat.le_refl _) _).drew
      clear q1 q2 q3 q4 hw hrow hbel
      have hrow := hrow'
      have hbel := hbel'
      clear hrow' hbel'
      go_wp2_with fail
      have q1 := (hrow (M - 5) (by omega)).1
      have q2 := (hrow (M - 5) (by omega)).2
      have q3 := (hrow (M - 6) (by omega)).1
      have q4 := (hrow (M - 6) (by omega)).2
      refine region_mix [(false, 0), (false, 1), (false, 2), (false, 3), (false, 4), (false, 5), (false, 6), (false, 7), (false, 8), (false, 9), (false, 10), (false, 11), (true, 12), (false, 13)] (fun _ => True) (by kernel_rfl) (by kernel_rfl) trivial ?_
      simp only [planOps, List.map_cons, List.map_nil, List.getD_cons_zero, List.getD_cons_succ, List.length_cons, List.length_nil, List.drop_succ_cons, List.drop_zero]
      refine mix_seg (seg := [_, _, _, _, _, _, _, _, _, _, _, _]) rfl trivial ?_
      intro ι hι F hF
      repeat (first | (go_big_quiet_step (fail)))
      refine wpQuiet_nil ?_
      clear hF hι F
      refine mix_eff (fun K hK => ?_)
      go_wp2
      refine mix_on hK trivial ?_
      clear hK K
      refine mix_seg (seg := [_]) (rest := []) rfl trivial ?_
      intro ι hι F hF
      repeat (first | (go_big_quiet_step (fail)))
      refine wpQuiet_nil ?_
      clear hF hι F
      show wpList _ _ _ _ _ _
      go_wp2
      refine NoPanic.normal ?_
      generalize hw : ((w2.setCell ⟨g, M - 5, none⟩ (.int .u8 (D4 : Int))).setCell ⟨g, M - 6, none⟩ (.int .u8 (D5 : Int))).drew = w3
      have hrow' : RowB w3 g N (upd (upd (upd (upd (upd (upd fk (M - 1) D0) (M - 2) D1) (M - 3) D2) (M - 4) D3) (M - 5) D4) (M - 6) D5) := by rw [← hw]; exact (hrow.set (M - 5) D4 (by omega)).set (M - 6) D5 (by omega)
      have hbel' : Below g w w3 := by rw [← hw]; exact ((hbel.setCell (p := ⟨g, (M - 5), none⟩) (Nat.le_refl _) _).setCell (p := ⟨g, (M - 6), none⟩) (Nat.le_refl _) _).drew
      clear q1 q2 q3 q4 hw hrow hbel
      have hrow := hrow'
      have hbel := hbel'
      clear hrow' hbel'
      go_wp2_with fail
      have q1 := (hrow (M - 7) (by omega)).1
      have q2 := (hrow (M - 7) (by omega)).2
      have q3 := (hrow (M - 8) (by omega)).1
      have q4 := (hrow (M - 8) (by omega)).2
      refine region_mix [(false, 0), (false, 1), (false, 2), (false, 3), (false, 4), (false, 5), (false, 6), (false, 7), (false, 8), (false, 9), (false, 10), (false, 11), (true, 12), (false, 13)] (fun _ => True) (by kernel_rfl) (by kernel_rfl) trivial ?_
      simp only [planOps, List.map_cons, List.map_nil, List.getD_cons_zero, List.getD_cons_succ, List.length_cons, List.length_nil, List.drop_succ_cons, List.drop_zero]
      refine mix_seg (seg := [_, _, _, _, _, _, _, _, _, _, _, _]) rfl trivial ?_
      intro ι hι F hF
      repeat (first | (go_big_quiet_step (fail)))
      refine wpQuiet_nil ?_
      clear hF hι F
      refine mix_eff (fun K hK => ?_)
      go_wp2
      refine mix_on hK trivial ?_
      clear hK K
      refine mix_seg (seg := [_]) (rest := []) rfl trivial ?_
      intro ι hι F hF
      repeat (first | (go_big_quiet_step (fail)))
      refine wpQuiet_nil ?_
      clear hF hι F
      show wpList _ _ _ _ _ _
      go_wp2
      refine NoPanic.normal ?_
      generalize hw : ((w3.setCell ⟨g, M - 7, none⟩ (.int .u8 (D6 : Int))).setCell ⟨g, M - 8, none⟩ (.int .u8 (D7 : Int))).drew = w4
      have hrow' : RowB w4 g N (upd (upd (upd (upd (upd (upd (upd (upd fk (M - 1) D0) (M - 2) D1) (M - 3) D2) (M - 4) D3) (M - 5) D4) (M - 6) D5) (M - 7) D6) (M - 8) D7) := by rw [← hw]; exact (hrow.set (M - 7) D6 (by omega)).set (M - 8) D7 (by omega)
      have hbel' : Below g w w4 := by rw [← hw]; exact ((hbel.setCell (p := ⟨g, (M - 7), none⟩) (Nat.le_refl _) _).setCell (p := ⟨g, (M - 8), none⟩) (Nat.le_refl _) _).drew
      clear q1 q2 q3 q4 hw hrow hbel
      have hrow := hrow'
      have hbel := hbel'
      clear hrow' hbel'
      go_wp2_with fail
      go_roundw
      case rel =>
        have hM' := HM.out
        refine ⟨k + 1, by omega, by rw [show n - 8 * (k + 1) = M - 8 by omega]; go_num, ?_, Lib.hid ?_, Lib.hid hbel⟩
        · rw [show 8 * (k + 1) = 8 * k + 8 by omega, Nat.pow_add, ← Nat.div_div_eq_div_mul, HX.out]
          show _ = Value.int .u64 ((X / 100000000 : Nat) : Int)
          congr 1
        · rw [show n - 8 * (k + 1) = M - 8 by omega]
          refine hrow.congr fun j hj => ?_
          have hd : ∀ t, dg u (8 * k + t) = 48 + X / 10 ^ t % 10 := fun t => by unfold dg; rw [Nat.pow_add, ← Nat.div_div_eq_div_mul, HX.out]
          unfold upd
          by_cases h7 : j = M - 8
          · rw [if_pos h7, if_pos ⟨by omega, by omega⟩, show n - 1 - j = 8 * k + 7 by omega, hd 7, E7.out]
            simp only [Nat.reducePow]
            omega
          rw [if_neg h7]
          by_cases h6 : j = M - 7
          · rw [if_pos h6, if_pos ⟨by omega, by omega⟩, show n - 1 - j = 8 * k + 6 by omega, hd 6, E6.out]
            simp only [Nat.reducePow]
            omega
          rw [if_neg h6]
          by_cases h5 : j = M - 6
          · rw [if_pos h5, if_pos ⟨by omega, by omega⟩, show n - 1 - j = 8 * k + 5 by omega, hd 5, E5.out]
            simp only [Nat.reducePow]
            omega
          rw [if_neg h5]
          by_cases h4 : j = M - 5
          · rw [if_pos h4, if_pos ⟨by omega, by omega⟩, show n - 1 - j = 8 * k + 4 by omega, hd 4, E4.out]
            simp only [Nat.reducePow]
            omega
          rw [if_neg h4]
          by_cases h3 : j = M - 4
          · rw [if_pos h3, if_pos ⟨by omega, by omega⟩, show n - 1 - j = 8 * k + 3 by omega, hd 3, E3.out]
            simp only [Nat.reducePow]
            omega
          rw [if_neg h3]
          by_cases h2 : j = M - 3
          · rw [if_pos h2, if_pos ⟨by omega, by omega⟩, show n - 1 - j = 8 * k + 2 by omega, hd 2, E2.out]
            simp only [Nat.reducePow]
            omega
          rw [if_neg h2]
          by_cases h1 : j = M - 2
          · rw [if_pos h1, if_pos ⟨by omega, by omega⟩, show n - 1 - j = 8 * k + 1 by omega, hd 1, E1.out]
            simp only [Nat.reducePow]
            omega
          rw [if_neg h1]
          by_cases h0 : j = M - 1
          · rw [if_pos h0, if_pos ⟨by omega, by omega⟩, show n - 1 - j = 8 * k + 0 by omega, hd 0, E0.out]
            simp only [Nat.reducePow]
            omega
          rw [if_neg h0]
          rw [FK.out]
          show (if M ≤ j ∧ j < n then dg u (n - 1 - j) else f j) = _
          by_cases c : M ≤ j ∧ j < n
          · rw [if_pos c, if_pos ⟨by omega, c.2⟩]
          · rw [if_neg c, if_neg (by omega)]
      case measure => simp [intOf]; omega
    · have hd : decide (8 ≤ ((n - 8 * k : Nat) : Int)) = false := decide_eq_false (by omega)
      have hlt : u / 10 ^ (8 * k) < 10 ^ (n - 8 * k) := by
        rw [Nat.div_lt_iff_lt_mul (Nat.pow_pos (by decide)), ← Nat.pow_add, show n - 8 * k + 8 * k = n by omega]
        exact HU.out
      have hMn : n - 8 * k ≤ n := Nat.sub_le _ _
      generalize hX : u / 10 ^ (8 * k) = X at *
      generalize hM : n - 8 * k = M at *
      have HX := Lib.hid hX
      have HM := Lib.hid hM
      clear hX hM
      obtain ⟨fk, FK⟩ : ∃ fk : Nat → Nat, Hid (fk = fun j => if M ≤ j ∧ j < n then dg u (n - 1 - j) else f j) := ⟨_, rfl⟩
      have hrow : RowB wr g N fk := by rw [FK.out]; exact hr.out
      have hbel := hb.out
      clear hr hb
      have h8' : M = 0 ∨ M = 1 ∨ M = 2 ∨ M = 3 ∨ M = 4 ∨ M = 5 ∨ M = 6 ∨ M = 7 := by omega
      rcases h8' with rfl | rfl | rfl | rfl | rfl | rfl | rfl | rfl
      · have hX10 : X < 1 := hlt
        go_wp2_with fail
        go_end0
        have hM' := HM.out
        have hd : ∀ t, dg u (8 * k + t) = 48 + X / 10 ^ t % 10 := fun t => by unfold dg; rw [Nat.pow_add, ← Nat.div_div_eq_div_mul, HX.out]
        refine ⟨rfl, ?_, hbel⟩
        refine hrow.congr fun j hj => ?_
        rw [FK.out]
        show (if 0 ≤ j ∧ j < n then dg u (n - 1 - j) else f j) = _
        by_cases c : j < n
        · rw [if_pos c, if_pos ⟨by omega, c⟩]
        · rw [if_neg c, if_neg (by omega)]
      · have hX10 : X < 10 := hlt
        have z1 := (hrow 0 (by omega)).1
        have z2 := (hrow 0 (by omega)).2
        go_wp2_with fail
        go_end0
        have hM' := HM.out
        have hd : ∀ t, dg u (8 * k + t) = 48 + X / 10 ^ t % 10 := fun t => by unfold dg; rw [Nat.pow_add, ← Nat.div_div_eq_div_mul, HX.out]
        refine ⟨rfl, ?_, hbel.setCell (p := ⟨g, 0, none⟩) (Nat.le_refl _) _⟩
        have h2 := hrow.set 0 (48 + X) (by omega)
        rw [show ((48 + X : Nat) : Int) = 48 + (X : Int) by omega] at h2
        refine h2.congr fun j hj => ?_
        unfold upd
        by_cases h0 : j = 0
        · rw [if_pos h0, if_pos (by omega), show n - 1 - j = 8 * k + 0 by omega, hd 0]
          simp only [Nat.reducePow]
          omega
        rw [if_neg h0]
        rw [FK.out]
        show (if 1 ≤ j ∧ j < n then dg u (n - 1 - j) else f j) = _
        by_cases c : j < n
        · rw [if_pos c, if_pos ⟨by omega, c⟩]
        · rw [if_neg c, if_neg (by omega)]
      · have hX10 : X < 100 := hlt
        obtain ⟨D0, E0⟩ : ∃ D, Hid (D = 48 + (X % 100) % 10) := ⟨_, rfl⟩
        obtain ⟨D1, E1⟩ : ∃ D, Hid (D = 48 + (X % 100) / 10) := ⟨_, rfl⟩
        have i0 : ∀ w, (Instr.index 9 (Value.string { data := #[48, 48, 48, 49, 48, 50, 48, 51, 48, 52, 48, 53, 48, 54, 48, 55, 48, 56, 48, 57, 49, 48, 49, 49, 49, 50, 49, 51, 49, 52, 49, 53, 49, 54, 49, 55, 49, 56, 49, 57, 50, 48, 50, 49, 50, 50, 50, 51, 50, 52, 50, 53, 50, 54, 50, 55, 50, 56, 50, 57, 51, 48, 51, 49, 51, 50, 51, 51, 51, 52, 51, 53, 51, 54, 51, 55, 51, 56, 51, 57, 52, 48, 52, 49, 52, 50, 52, 51, 52, 52, 52, 53, 52, 54, 52, 55, 52, 56, 52, 57, 53, 48, 53, 49, 53, 50, 53, 51, 53, 52, 53, 53, 53, 54, 53, 55, 53, 56, 53, 57, 54, 48, 54, 49, 54, 50, 54, 51, 54, 52, 54, 53, 54, 54, 54, 55, 54, 56, 54, 57, 55, 48, 55, 49, 55, 50, 55, 51, 55, 52, 55, 53, 55, 54, 55, 55, 55, 56, 55, 57, 56, 48, 56, 49, 56, 50, 56, 51, 56, 52, 56, 53, 56, 54, 56, 55, 56, 56, 56, 57, 57, 48, 57, 49, 57, 50, 57, 51, 57, 52, 57, 53, 57, 54, 57, 55, 57, 56, 57, 57] }) (.int .u32 ((X : Int) % 100 * 2 + 1))).run Tryd.prog w = .ok (.int .u8 (D0 : Int)) w := fun w => pair_lo (X % 100) D0 (by omega) _ (by omega) E0.out w
        have i1 : ∀ w, (Instr.index 9 (Value.string { data := #[48, 48, 48, 49, 48, 50, 48, 51, 48, 52, 48, 53, 48, 54, 48, 55, 48, 56, 48, 57, 49, 48, 49, 49, 49, 50, 49, 51, 49, 52, 49, 53, 49, 54, 49, 55, 49, 56, 49, 57, 50, 48, 50, 49, 50, 50, 50, 51, 50, 52, 50, 53, 50, 54, 50, 55, 50, 56, 50, 57, 51, 48, 51, 49, 51, 50, 51, 51, 51, 52, 51, 53, 51, 54, 51, 55, 51, 56, 51, 57, 52, 48, 52, 49, 52, 50, 52, 51, 52, 52, 52, 53, 52, 54, 52, 55, 52, 56, 52, 57, 53, 48, 53, 49, 53, 50, 53, 51, 53, 52, 53, 53, 53, 54, 53, 55, 53, 56, 53, 57, 54, 48, 54, 49, 54, 50, 54, 51, 54, 52, 54, 53, 54, 54, 54, 55, 54, 56, 54, 57, 55, 48, 55, 49, 55, 50, 55, 51, 55, 52, 55, 53, 55, 54, 55, 55, 55, 56, 55, 57, 56, 48, 56, 49, 56, 50, 56, 51, 56, 52, 56, 53, 56, 54, 56, 55, 56, 56, 56, 57, 57, 48, 57, 49, 57, 50, 57, 51, 57, 52, 57, 53, 57, 54, 57, 55, 57, 56, 57, 57] }) (.int .u32 ((X : Int) % 100 * 2))).run Tryd.prog w = .ok (.int .u8 (D1 : Int)) w := fun w => pair_hi (X % 100) D1 (by omega) _ (by omega) E1.out w
        go_wp2_with fail
        have q1 := (hrow (1) (by omega)).1
        have q2 := (hrow (1) (by omega)).2
        have q3 := (hrow (0) (by omega)).1
        have q4 := (hrow (0) (by omega)).2
        refine region_mix [(false, 0), (false, 1), (false, 2), (false, 3), (false, 4), (false, 5), (false, 6), (false, 7), (false, 8), (false, 9), (false, 10), (false, 11), (true, 12), (false, 13)] (fun _ => True) (by kernel_rfl) (by kernel_rfl) trivial ?_
        simp only [planOps, List.map_cons, List.map_nil, List.getD_cons_zero, List.getD_cons_succ, List.length_cons, List.length_nil, List.drop_succ_cons, List.drop_zero]
        refine mix_seg (seg := [_, _, _, _, _, _, _, _, _, _, _, _]) rfl trivial ?_
        intro ι hι F hF
        repeat (first | (go_big_quiet_step (fail)))
        refine wpQuiet_nil ?_
        clear hF hι F
        refine mix_eff (fun K hK => ?_)
        go_wp2
        refine mix_on hK trivial ?_
        clear hK K
        refine mix_seg (seg := [_]) (rest := []) rfl trivial ?_
        intro ι hι F hF
        repeat (first | (go_big_quiet_step (fail)))
        refine wpQuiet_nil ?_
        clear hF hι F
        show wpList _ _ _ _ _ _
        go_wp2
        refine NoPanic.normal ?_
        generalize hw : ((wr.setCell ⟨g, 1, none⟩ (.int .u8 (D0 : Int))).setCell ⟨g, 0, none⟩ (.int .u8 (D1 : Int))).drew = w1
        have hrow' : RowB w1 g N (upd (upd fk (1) D0) (0) D1) := by rw [← hw]; exact (hrow.set (1) D0 (by omega)).set (0) D1 (by omega)
        have hbel' : Below g w w1 := by rw [← hw]; exact ((hbel.setCell (p := ⟨g, (1), none⟩) (Nat.le_refl _) _).setCell (p := ⟨g, (0), none⟩) (Nat.le_refl _) _).drew
        clear q1 q2 q3 q4 hw hrow hbel
        have hrow := hrow'
        have hbel := hbel'
        clear hrow' hbel'
        go_wp2_with fail
        go_end0
        have hM' := HM.out
        have hd : ∀ t, dg u (8 * k + t) = 48 + X / 10 ^ t % 10 := fun t => by unfold dg; rw [Nat.pow_add, ← Nat.div_div_eq_div_mul, HX.out]
        refine ⟨rfl, ?_, hbel⟩
        refine hrow.congr fun j hj => ?_
        unfold upd
        by_cases h0 : j = 0
        · rw [if_pos h0, if_pos (by omega), show n - 1 - j = 8 * k + 1 by omega, hd 1, E1.out]
          simp only [Nat.reducePow]
          omega
        rw [if_neg h0]
        by_cases h1 : j = 1
        · rw [if_pos h1, if_pos (by omega), show n - 1 - j = 8 * k + 0 by omega, hd 0, E0.out]
          simp only [Nat.reducePow]
          omega
        rw [if_neg h1]
        rw [FK.out]
        show (if 2 ≤ j ∧ j < n then dg u (n - 1 - j) else f j) = _
        by_cases c : j < n
        · rw [if_pos c, if_pos ⟨by omega, c⟩]
        · rw [if_neg c, if_neg (by omega)]
      · have hX10 : X < 1000 := hlt
        obtain ⟨D0, E0⟩ : ∃ D, Hid (D = 48 + (X % 100) % 10) := ⟨_, rfl⟩
        obtain ⟨D1, E1⟩ : ∃ D, Hid (D = 48 + (X % 100) / 10) := ⟨_, rfl⟩
        have i0 : ∀ w, (Instr.index 9 (Value.string { data := #[48, 48, 48, 49, 48, 50, 48, 51, 48, 52, 48, 53, 48, 54, 48, 55, 48, 56, 48, 57, 49, 48, 49, 49, 49, 50, 49, 51, 49, 52, 49, 53, 49, 54, 49, 55, 49, 56, 49, 57, 50, 48, 50, 49, 50, 50, 50, 51, 50, 52, 50, 53, 50, 54, 50, 55, 50, 56, 50, 57, 51, 48, 51, 49, 51, 50, 51, 51, 51, 52, 51, 53, 51, 54, 51, 55, 51, 56, 51, 57, 52, 48, 52, 49, 52, 50, 52, 51, 52, 52, 52, 53, 52, 54, 52, 55, 52, 56, 52, 57, 53, 48, 53, 49, 53, 50, 53, 51, 53, 52, 53, 53, 53, 54, 53, 55, 53, 56, 53, 57, 54, 48, 54, 49, 54, 50, 54, 51, 54, 52, 54, 53, 54, 54, 54, 55, 54, 56, 54, 57, 55, 48, 55, 49, 55, 50, 55, 51, 55, 52, 55, 53, 55, 54, 55, 55, 55, 56, 55, 57, 56, 48, 56, 49, 56, 50, 56, 51, 56, 52, 56, 53, 56, 54, 56, 55, 56, 56, 56, 57, 57, 48, 57, 49, 57, 50, 57, 51, 57, 52, 57, 53, 57, 54, 57, 55, 57, 56, 57, 57] }) (.int .u32 ((X : Int) % 100 * 2 + 1))).run Tryd.prog w = .ok (.int .u8 (D0 : Int)) w := fun w => pair_lo (X % 100) D0 (by omega) _ (by omega) E0.out w
        have i1 : ∀ w, (Instr.index 9 (Value.string { data := #[48, 48, 48, 49, 48, 50, 48, 51, 48, 52, 48, 53, 48, 54, 48, 55, 48, 56, 48, 57, 49, 48, 49, 49, 49, 50, 49, 51, 49, 52, 49, 53, 49, 54, 49, 55, 49, 56, 49, 57, 50, 48, 50, 49, 50, 50, 50, 51, 50, 52, 50, 53, 50, 54, 50, 55, 50, 56, 50, 57, 51, 48, 51, 49, 51, 50, 51, 51, 51, 52, 51, 53, 51, 54, 51, 55, 51, 56, 51, 57, 52, 48, 52, 49, 52, 50, 52, 51, 52, 52, 52, 53, 52, 54, 52, 55, 52, 56, 52, 57, 53, 48, 53, 49, 53, 50, 53, 51, 53, 52, 53, 53, 53, 54, 53, 55, 53, 56, 53, 57, 54, 48, 54, 49, 54, 50, 54, 51, 54, 52, 54, 53, 54, 54, 54, 55, 54, 56, 54, 57, 55, 48, 55, 49, 55, 50, 55, 51, 55, 52, 55, 53, 55, 54, 55, 55, 55, 56, 55, 57, 56, 48, 56, 49, 56, 50, 56, 51, 56, 52, 56, 53, 56, 54, 56, 55, 56, 56, 56, 57, 57, 48, 57, 49, 57, 50, 57, 51, 57, 52, 57, 53, 57, 54, 57, 55, 57, 56, 57, 57] }) (.int .u32 ((X : Int) % 100 * 2))).run Tryd.prog w = .ok (.int .u8 (D1 : Int)) w := fun w => pair_hi (X % 100) D1 (by omega) _ (by omega) E1.out w
        go_wp2_with fail
        have q1 := (hrow (2) (by omega)).1
        have q2 := (hrow (2) (by omega)).2
        have q3 := (hrow (1) (by omega)).1
        have q4 := (hrow (1) (by omega)).2
        refine region_mix [(false, 0), (false, 1), (false, 2), (false, 3), (false, 4), (false, 5), (false, 6), (false, 7), (false, 8), (false, 9), (false, 10), (false, 11), (true, 12), (false, 13)] (fun _ => True) (by kernel_rfl) (by kernel_rfl) trivial ?_
        simp only [planOps, List.map_cons, List.map_nil, List.getD_cons_zero, List.getD_cons_succ, List.length_cons, List.length_nil, List.drop_succ_cons, List.drop_zero]
        refine mix_seg (seg := [_, _, _, _, _, _, _, _, _, _, _, _]) rfl trivial ?_
        intro ι hι F hF
        repeat (first | (go_big_quiet_step (fail)))
        refine wpQuiet_nil ?_
        clear hF hι F
        refine mix_eff (fun K hK => ?_)
        go_wp2
        refine mix_on hK trivial ?_
        clear hK K
        refine mix_seg (seg := [_]) (rest := []) rfl trivial ?_
        intro ι hι F hF
        repeat (first | (go_big_quiet_step (fail)))
        refine wpQuiet_nil ?_
        clear hF hι F
        show wpList _ _ _ _ _ _
        go_wp2
        refine NoPanic.normal ?_
        generalize hw : ((wr.setCell ⟨g, 2, none⟩ (.int .u8 (D0 : Int))).setCell ⟨g, 1, none⟩ (.int .u8 (D1 : Int))).drew = w1
        have hrow' : RowB w1 g N (upd (upd fk (2) D0) (1) D1) := by rw [← hw]; exact (hrow.set (2) D0 (by omega)).set (1) D1 (by omega)
        have hbel' : Below g w w1 := by rw [← hw]; exact ((hbel.setCell (p := ⟨g, (2), none⟩) (Nat.le_refl _) _).setCell (p := ⟨g, (1), none⟩) (Nat.le_refl _) _).drew
        clear q1 q2 q3 q4 hw hrow hbel
        have hrow := hrow'
        have hbel := hbel'
        clear hrow' hbel'
        have z1 := (hrow 0 (by omega)).1
        have z2 := (hrow 0 (by omega)).2
        go_wp2_with fail
        go_end0
        have hM' := HM.out
        have hd : ∀ t, dg u (8 * k + t) = 48 + X / 10 ^ t % 10 := fun t => by unfold dg; rw [Nat.pow_add, ← Nat.div_div_eq_div_mul, HX.out]
        refine ⟨rfl, ?_, hbel.setCell (p := ⟨g, 0, none⟩) (Nat.le_refl _) _⟩
        have h2 := hrow.set 0 (48 + X / 100) (by omega)
        rw [show ((48 + X / 100 : Nat) : Int) = 48 + (X : Int) / 100 by omega] at h2
        refine h2.congr fun j hj => ?_
        unfold upd
        by_cases h0 : j = 0
        · rw [if_pos h0, if_pos (by omega), show n - 1 - j = 8 * k + 2 by omega, hd 2]
          simp only [Nat.reducePow]
          omega
        rw [if_neg h0]
        by_cases h1 : j = 1
        · rw [if_pos h1, if_pos (by omega), show n - 1 - j = 8 * k + 1 by omega, hd 1, E1.out]
          simp only [Nat.reducePow]
          omega
        rw [if_neg h1]
        by_cases h2 : j = 2
        · rw [if_pos h2, if_pos (by omega), show n - 1 - j = 8 * k + 0 by omega, hd 0, E0.out]
          simp only [Nat.reducePow]
          omega
        rw [if_neg h2]
        rw [FK.out]
        show (if 3 ≤ j ∧ j < n then dg u (n - 1 - j) else f j) = _
        by_cases c : j < n
        · rw [if_pos c, if_pos ⟨by omega, c⟩]
        · rw [if_neg c, if_neg (by omega)]
      · have hX10 : X < 10000 := hlt
        obtain ⟨D0, E0⟩ : ∃ D, Hid (D = 48 + (X % 100) % 10) := ⟨_, rfl⟩
        obtain ⟨D1, E1⟩ : ∃ D, Hid (D = 48 + (X % 100) / 10) := ⟨_, rfl⟩
        have i0 : ∀ w, (Instr.index 9 (Value.string { data := #[48, 48, 48, 49, 48, 50, 48, 51, 48, 52, 48, 53, 48, 54, 48, 55, 48, 56, 48, 57, 49, 48, 49, 49, 49, 50, 49, 51, 49, 52, 49, 53, 49, 54, 49, 55, 49, 56, 49, 57, 50, 48, 50, 49, 50, 50, 50, 51, 50, 52, 50, 53, 50, 54, 50, 55, 50, 56, 50, 57, 51, 48, 51, 49, 51, 50, 51, 51, 51, 52, 51, 53, 51, 54, 51, 55, 51, 56, 51, 57, 52, 48, 52, 49, 52, 50, 52, 51, 52, 52, 52, 53, 52, 54, 52, 55, 52, 56, 52, 57, 53, 48, 53, 49, 53, 50, 53, 51, 53, 52, 53, 53, 53, 54, 53, 55, 53, 56, 53, 57, 54, 48, 54, 49, 54, 50, 54, 51, 54, 52, 54, 53, 54, 54, 54, 55, 54, 56, 54, 57, 55, 48, 55, 49, 55, 50, 55, 51, 55, 52, 55, 53, 55, 54, 55, 55, 55, 56, 55, 57, 56, 48, 56, 49, 56, 50, 56, 51, 56, 52, 56, 53, 56, 54, 56, 55, 56, 56, 56, 57, 57, 48, 57, 49, 57, 50, 57, 51, 57, 52, 57, 53, 57, 54, 57, 55, 57, 56, 57, 57] }) (.int .u32 ((X : Int) % 100 * 2 + 1))).run Tryd.prog w = .ok (.int .u8 (D0 : Int)) w := fun w => pair_lo (X % 100) D0 (by omega) _ (by omega) E0.out w
        have i1 : ∀ w, (Instr.index 9 (Value.string { data := #[48, 48, 48, 49, 48, 50, 48, 51, 48, 52, 48, 53, 48, 54, 48, 55, 48, 56, 48, 57, 49, 48, 49, 49, 49, 50, 49, 51, 49, 52, 49, 53, 49, 54, 49, 55, 49, 56, 49, 57, 50, 48, 50, 49, 50, 50, 50, 51, 50, 52, 50, 53, 50, 54, 50, 55, 50, 56, 50, 57, 51, 48, 51, 49, 51, 50, 51, 51, 51, 52, 51, 53, 51, 54, 51, 55, 51, 56, 51, 57, 52, 48, 52, 49, 52, 50, 52, 51, 52, 52, 52, 53, 52, 54, 52, 55, 52, 56, 52, 57, 53, 48, 53, 49, 53, 50, 53, 51, 53, 52, 53, 53, 53, 54, 53, 55, 53, 56, 53, 57, 54, 48, 54, 49, 54, 50, 54, 51, 54, 52, 54, 53, 54, 54, 54, 55, 54, 56, 54, 57, 55, 48, 55, 49, 55, 50, 55, 51, 55, 52, 55, 53, 55, 54, 55, 55, 55, 56, 55, 57, 56, 48, 56, 49, 56, 50, 56, 51, 56, 52, 56, 53, 56, 54, 56, 55, 56, 56, 56, 57, 57, 48, 57, 49, 57, 50, 57, 51, 57, 52, 57, 53, 57, 54, 57, 55, 57, 56, 57, 57] }) (.int .u32 ((X : Int) % 100 * 2))).run Tryd.prog w = .ok (.int .u8 (D1 : Int)) w := fun w => pair_hi (X % 100) D1 (by omega) _ (by omega) E1.out w
        obtain ⟨D2, E2⟩ : ∃ D, Hid (D = 48 + (X % 10000 / 100) % 10) := ⟨_, rfl⟩
        obtain ⟨D3, E3⟩ : ∃ D, Hid (D = 48 + (X % 10000 / 100) / 10) := ⟨_, rfl⟩
        have i2 : ∀ w, (Instr.index 9 (Value.string { data := #[48, 48, 48, 49, 48, 50, 48, 51, 48, 52, 48, 53, 48, 54, 48, 55, 48, 56, 48, 57, 49, 48, 49, 49, 49, 50, 49, 51, 49, 52, 49, 53, 49, 54, 49, 55, 49, 56, 49, 57, 50, 48, 50, 49, 50, 50, 50, 51, 50, 52, 50, 53, 50, 54, 50, 55, 50, 56, 50, 57, 51, 48, 51, 49, 51, 50, 51, 51, 51, 52, 51, 53, 51, 54, 51, 55, 51, 56, 51, 57, 52, 48, 52, 49, 52, 50, 52, 51, 52, 52, 52, 53, 52, 54, 52, 55, 52, 56, 52, 57, 53, 48, 53, 49, 53, 50, 53, 51, 53, 52, 53, 53, 53, 54, 53, 55, 53, 56, 53, 57, 54, 48, 54, 49, 54, 50, 54, 51, 54, 52, 54, 53, 54, 54, 54, 55, 54, 56, 54, 57, 55, 48, 55, 49, 55, 50, 55, 51, 55, 52, 55, 53, 55, 54, 55, 55, 55, 56, 55, 57, 56, 48, 56, 49, 56, 50, 56, 51, 56, 52, 56, 53, 56, 54, 56, 55, 56, 56, 56, 57, 57, 48, 57, 49, 57, 50, 57, 51, 57, 52, 57, 53, 57, 54, 57, 55, 57, 56, 57, 57] }) (.int .u32 ((X : Int) % 10000 / 100 * 2 + 1))).run Tryd.prog w = .ok (.int .u8 (D2 : Int)) w := fun w => pair_lo (X % 10000 / 100) D2 (by omega) _ (by omega) E2.out w
        have i3 : ∀ w, (Instr.index 9 (Value.string { data := #[48, 48, 48, 49, 48, 50, 48, 51, 48, 52, 48, 53, 48, 54, 48, 55, 48, 56, 48, 57, 49, 48, 49, 49, 49, 50, 49, 51, 49, 52, 49, 53, 49, 54, 49, 55, 49, 56, 49, 57, 50, 48, 50, 49, 50, 50, 50, 51, 50, 52, 50, 53, 50, 54, 50, 55, 50, 56, 50, 57, 51, 48, 51, 49, 51, 50, 51, 51, 51, 52, 51, 53, 51, 54, 51, 55, 51, 56, 51, 57, 52, 48, 52, 49, 52, 50, 52, 51, 52, 52, 52, 53, 52, 54, 52, 55, 52, 56, 52, 57, 53, 48, 53, 49, 53, 50, 53, 51, 53, 52, 53, 53, 53, 54, 53, 55, 53, 56, 53, 57, 54, 48, 54, 49, 54, 50, 54, 51, 54, 52, 54, 53, 54, 54, 54, 55, 54, 56, 54, 57, 55, 48, 55, 49, 55, 50, 55, 51, 55, 52, 55, 53, 55, 54, 55, 55, 55, 56, 55, 57, 56, 48, 56, 49, 56, 50, 56, 51, 56, 52, 56, 53, 56, 54, 56, 55, 56, 56, 56, 57, 57, 48, 57, 49, 57, 50, 57, 51, 57, 52, 57, 53, 57, 54, 57, 55, 57, 56, 57, 57] }) (.int .u32 ((X : Int) % 10000 / 100 * 2))).run Tryd.prog w = .ok (.int .u8 (D3 : Int)) w := fun w => pair_hi (X % 10000 / 100) D3 (by omega) _ (by omega) E3.out w
        go_wp2_with fail
        have q1 := (hrow (3) (by omega)).1
        have q2 := (hrow (3) (by omega)).2
        have q3 := (hrow (2) (by omega)).1
        have q4 := (hrow (2) (by omega)).2
        refine region_mix [(false, 0), (false, 1), (false, 2), (false, 3), (false, 4), (false, 5), (false, 6), (false, 7), (false, 8), (false, 9), (false, 10), (false, 11), (true, 12), (false, 13)] (fun _ => True) (by kernel_rfl) (by kernel_rfl) trivial ?_
        simp only [planOps, List.map_cons, List.map_nil, List.getD_cons_zero, List.getD_cons_succ, List.length_cons, List.length_nil, List.drop_succ_cons, List.drop_zero]
        refine mix_seg (seg := [_, _, _, _, _, _, _, _, _, _, _, _]) rfl trivial ?_
        intro ι hι F hF
        repeat (first | (go_big_quiet_step (fail)))
        refine wpQuiet_nil ?_
        clear hF hι F
        refine mix_eff (fun K hK => ?_)
        go_wp2
        refine mix_on hK trivial ?_
        clear hK K
        refine mix_seg (seg := [_]) (rest := []) rfl trivial ?_
        intro ι hι F hF
        repeat (first | (go_big_quiet_step (fail)))
        refine wpQuiet_nil ?_
        clear hF hι F
        show wpList _ _ _ _ _ _
        go_wp2
        refine NoPanic.normal ?_
        generalize hw : ((wr.setCell ⟨g, 3, none⟩ (.int .u8 (D0 : Int))).setCell ⟨g, 2, none⟩ (.int .u8 (D1 : Int))).drew = w1
        have hrow' : RowB w1 g N (upd (upd fk (3) D0) (2) D1) := by rw [← hw]; exact (hrow.set (3) D0 (by omega)).set (2) D1 (by omega)
        have hbel' : Below g w w1 := by rw [← hw]; exact ((hbel.setCell (p := ⟨g, (3), none⟩) (Nat.le_refl _) _).setCell (p := ⟨g, (2), none⟩) (Nat.le_refl _) _).drew
        clear q1 q2 q3 q4 hw hrow hbel
        have hrow := hrow'
        have hbel := hbel'
        clear hrow' hbel'
        go_wp2_with fail
        have q1 := (hrow (1) (by omega)).1
        have q2 := (hrow (1) (by omega)).2
        have q3 := (hrow (0) (by omega)).1
        have q4 := (hrow (0) (by omega)).2
        refine region_mix [(false, 0), (false, 1), (false, 2), (false, 3), (false, 4), (false, 5), (false, 6), (false, 7), (false, 8), (false, 9), (false, 10), (false, 11), (true, 12), (false, 13)] (fun _ => True) (by kernel_rfl) (by kernel_rfl) trivial ?_
        simp only [planOps, List.map_cons, List.map_nil, List.getD_cons_zero, List.getD_cons_succ, List.length_cons, List.length_nil, List.drop_succ_cons, List.drop_zero]
        refine mix_seg (seg := [_, _, _, _, _, _, _, _, _, _, _, _]) rfl trivial ?_
        intro ι hι F hF
        repeat (first | (go_big_quiet_step (fail)))
        refine wpQuiet_nil ?_
        clear hF hι F
        refine mix_eff (fun K hK => ?_)
        go_wp2
        refine mix_on hK trivial ?_
        clear hK K
        refine mix_seg (seg := [_]) (rest := []) rfl trivial ?_
        intro ι hι F hF
        repeat (first | (go_big_quiet_step (fail)))
        refine wpQuiet_nil ?_
        clear hF hι F
        show wpList _ _ _ _ _ _
        go_wp2
        refine NoPanic.normal ?_
        generalize hw : ((w1.setCell ⟨g, 1, none⟩ (.int .u8 (D2 : Int))).setCell ⟨g, 0, none⟩ (.int .u8 (D3 : Int))).drew = w2
        have hrow' : RowB w2 g N (upd (upd (upd (upd fk 3 D0) 2 D1) (1) D2) (0) D3) := by rw [← hw]; exact (hrow.set (1) D2 (by omega)).set (0) D3 (by omega)
        have hbel' : Below g w w2 := by rw [← hw]; exact ((hbel.setCell (p := ⟨g, (1), none⟩) (Nat.le_refl _) _).setCell (p := ⟨g, (0), none⟩) (Nat.le_refl _) _).drew
        clear q1 q2 q3 q4 hw hrow hbel
        have hrow := hrow'
        have hbel := hbel'
        clear hrow' hbel'
        go_wp2_with fail
        go_end0
        have hM' := HM.out
        have hd : ∀ t, dg u (8 * k + t) = 48 + X / 10 ^ t % 10 := fun t => by unfold dg; rw [Nat.pow_add, ← Nat.div_div_eq_div_mul, HX.out]
        refine ⟨rfl, ?_, hbel⟩
        refine hrow.congr fun j hj => ?_
        unfold upd
        by_cases h0 : j = 0
        · rw [if_pos h0, if_pos (by omega), show n - 1 - j = 8 * k + 3 by omega, hd 3, E3.out]
          simp only [Nat.reducePow]
          omega
        rw [if_neg h0]
        by_cases h1 : j = 1
        · rw [if_pos h1, if_pos (by omega), show n - 1 - j = 8 * k + 2 by omega, hd 2, E2.out]
          simp only [Nat.reducePow]
          omega
        rw [if_neg h1]
        by_cases h2 : j = 2
        · rw [if_pos h2, if_pos (by omega), show n - 1 - j = 8 * k + 1 by omega, hd 1, E1.out]
          simp only [Nat.reducePow]
          omega
        rw [if_neg h2]
        by_cases h3 : j = 3
        · rw [if_pos h3, if_pos (by omega), show n - 1 - j = 8 * k + 0 by omega, hd 0, E0.out]
          simp only [Nat.reducePow]
          omega
        rw [if_neg h3]
        rw [FK.out]
        show (if 4 ≤ j ∧ j < n then dg u (n - 1 - j) else f j) = _
        by_cases c : j < n
        · rw [if_pos c, if_pos ⟨by omega, c⟩]
        · rw [if_neg c, if_neg (by omega)]
      · have hX10 : X < 100000 := hlt
        obtain ⟨D0, E0⟩ : ∃ D, Hid (D = 48 + (X % 100) % 10) := ⟨_, rfl⟩
        obtain ⟨D1, E1⟩ : ∃ D, Hid (D = 48 + (X % 100) / 10) := ⟨_, rfl⟩
        have i0 : ∀ w, (Instr.index 9 (Value.string { data := #[48, 48, 48, 49, 48, 50, 48, 51, 48, 52, 48, 53, 48, 54, 48, 55, 48, 56, 48, 57, 49, 48, 49, 49, 49, 50, 49, 51, 49, 52, 49, 53, 49, 54, 49, 55, 49, 56, 49, 57, 50, 48, 50, 49, 50, 50, 50, 51, 50, 52, 50, 53, 50, 54, 50, 55, 50, 56, 50, 57, 51, 48, 51, 49, 51, 50, 51, 51, 51, 52, 51, 53, 51, 54, 51, 55, 51, 56, 51, 57, 52, 48, 52, 49, 52, 50, 52, 51, 52, 52, 52, 53, 52, 54, 52, 55, 52, 56, 52, 57, 53, 48, 53, 49, 53, 50, 53, 51, 53, 52, 53, 53, 53, 54, 53, 55, 53, 56, 53, 57, 54, 48, 54, 49, 54, 50, 54, 51, 54, 52, 54, 53, 54, 54, 54, 55, 54, 56, 54, 57, 55, 48, 55, 49, 55, 50, 55, 51, 55, 52, 55, 53, 55, 54, 55, 55, 55, 56, 55, 57, 56, 48, 56, 49, 56, 50, 56, 51, 56, 52, 56, 53, 56, 54, 56, 55, 56, 56, 56, 57, 57, 48, 57, 49, 57, 50, 57, 51, 57, 52, 57, 53, 57, 54, 57, 55, 57, 56, 57, 57] }) (.int .u32 ((X : Int) % 100 * 2 + 1))).run Tryd.prog w = .ok (.int .u8 (D0 : Int)) w := fun w => pair_lo (X % 100) D0 (by omega) _ (by omega) E0.out w
        have i1 : ∀ w, (Instr.index 9 (Value.string { data := #[48, 48, 48, 49, 48, 50, 48, 51, 48, 52, 48, 53, 48, 54, 48, 55, 48, 56, 48, 57, 49, 48, 49, 49, 49, 50, 49, 51, 49, 52, 49, 53, 49, 54, 49, 55, 49, 56, 49, 57, 50, 48, 50, 49, 50, 50, 50, 51, 50, 52, 50, 53, 50, 54, 50, 55, 50, 56, 50, 57, 51, 48, 51, 49, 51, 50, 51, 51, 51, 52, 51, 53, 51, 54, 51, 55, 51, 56, 51, 57, 52, 48, 52, 49, 52, 50, 52, 51, 52, 52, 52, 53, 52, 54, 52, 55, 52, 56, 52, 57, 53, 48, 53, 49, 53, 50, 53, 51, 53, 52, 53, 53, 53, 54, 53, 55, 53, 56, 53, 57, 54, 48, 54, 49, 54, 50, 54, 51, 54, 52, 54, 53, 54, 54, 54, 55, 54, 56, 54, 57, 55, 48, 55, 49, 55, 50, 55, 51, 55, 52, 55, 53, 55, 54, 55, 55, 55, 56, 55, 57, 56, 48, 56, 49, 56, 50, 56, 51, 56, 52, 56, 53, 56, 54, 56, 55, 56, 56, 56, 57, 57, 48, 57, 49, 57, 50, 57, 51, 57, 52, 57, 53, 57, 54, 57, 55, 57, 56, 57, 57] }) (.int .u32 ((X : Int) % 100 * 2))).run Tryd.prog w = .ok (.int .u8 (D1 : Int)) w := fun w => pair_hi (X % 100) D1 (by omega) _ (by omega) E1.out w
        obtain ⟨D2, E2⟩ : ∃ D, Hid (D = 48 + (X % 10000 / 100) % 10) := ⟨_, rfl⟩
        obtain ⟨D3, E3⟩ : ∃ D, Hid (D = 48 + (X % 10000 / 100) / 10) := ⟨_, rfl⟩
        have i2 : ∀ w, (Instr.index 9 (Value.string { data := #[48, 48, 48, 49, 48, 50, 48, 51, 48, 52, 48, 53, 48, 54, 48, 55, 48, 56, 48, 57, 49, 48, 49, 49, 49, 50, 49, 51, 49, 52, 49, 53, 49, 54, 49, 55, 49, 56, 49, 57, 50, 48, 50, 49, 50, 50, 50, 51, 50, 52, 50, 53, 50, 54, 50, 55, 50, 56, 50, 57, 51, 48, 51, 49, 51, 50, 51, 51, 51, 52, 51, 53, 51, 54, 51, 55, 51, 56, 51, 57, 52, 48, 52, 49, 52, 50, 52, 51, 52, 52, 52, 53, 52, 54, 52, 55, 52, 56, 52, 57, 53, 48, 53, 49, 53, 50, 53, 51, 53, 52, 53, 53, 53, 54, 53, 55, 53, 56, 53, 57, 54, 48, 54, 49, 54, 50, 54, 51, 54, 52, 54, 53, 54, 54, 54, 55, 54, 56, 54, 57, 55, 48, 55, 49, 55, 50, 55, 51, 55, 52, 55, 53, 55, 54, 55, 55, 55, 56, 55, 57, 56, 48, 56, 49, 56, 50, 56, 51, 56, 52, 56, 53, 56, 54, 56, 55, 56, 56, 56, 57, 57, 48, 57, 49, 57, 50, 57, 51, 57, 52, 57, 53, 57, 54, 57, 55, 57, 56, 57, 57] }) (.int .u32 ((X : Int) % 10000 / 100 * 2 + 1))).run Tryd.prog w = .ok (.int .u8 (D2 : Int)) w := fun w => pair_lo (X % 10000 / 100) D2 (by omega) _ (by omega) E2.out w
        have i3 : ∀ w, (Instr.index 9 (Value.string { data := #[48, 48, 48, 49, 48, 50, 48, 51, 48, 52, 48, 53, 48, 54, 48, 55, 48, 56, 48, 57, 49, 48, 49, 49, 49, 50, 49, 51, 49, 52, 49, 53, 49, 54, 49, 55, 49, 56, 49, 57, 50, 48, 50, 49, 50, 50, 50, 51, 50, 52, 50, 53, 50, 54, 50, 55, 50, 56, 50, 57, 51, 48, 51, 49, 51, 50, 51, 51, 51, 52, 51, 53, 51, 54, 51, 55, 51, 56, 51, 57, 52, 48, 52, 49, 52, 50, 52, 51, 52, 52, 52, 53, 52, 54, 52, 55, 52, 56, 52, 57, 53, 48, 53, 49, 53, 50, 53, 51, 53, 52, 53, 53, 53, 54, 53, 55, 53, 56, 53, 57, 54, 48, 54, 49, 54, 50, 54, 51, 54, 52, 54, 53, 54, 54, 54, 55, 54, 56, 54, 57, 55, 48, 55, 49, 55, 50, 55, 51, 55, 52, 55, 53, 55, 54, 55, 55, 55, 56, 55, 57, 56, 48, 56, 49, 56, 50, 56, 51, 56, 52, 56, 53, 56, 54, 56, 55, 56, 56, 56, 57, 57, 48, 57, 49, 57, 50, 57, 51, 57, 52, 57, 53, 57, 54, 57, 55, 57, 56, 57, 57] }) (.int .u32 ((X : Int) % 10000 / 100 * 2))).run Tryd.prog w = .ok (.int .u8 (D3 : Int)) w := fun w => pair_hi (X % 10000 / 100) D3 (by omega) _ (by omega) E3.out w
        go_wp2_with fail
        have q1 := (hrow (4) (by omega)).1
        have q2 := (hrow (4) (by omega)).2
        have q3 := (hrow (3) (by omega)).1
        have q4 := (hrow (3) (by omega)).2
        refine region_mix [(false, 0), (false, 1), (false, 2), (false, 3), (false, 4), (false, 5), (false, 6), (false, 7), (false, 8), (false, 9), (false, 10), (false, 11), (true, 12), (false, 13)] (fun _ => True) (by kernel_rfl) (by kernel_rfl) trivial ?_
        simp only [planOps, List.map_cons, List.map_nil, List.getD_cons_zero, List.getD_cons_succ, List.length_cons, List.length_nil, List.drop_succ_cons, List.drop_zero]
        refine mix_seg (seg := [_, _, _, _, _, _, _, _, _, _, _, _]) rfl trivial ?_
        intro ι hι F hF
        repeat (first | (go_big_quiet_step (fail)))
        refine wpQuiet_nil ?_
        clear hF hι F
        refine mix_eff (fun K hK => ?_)
        go_wp2
        refine mix_on hK trivial ?_
        clear hK K
        refine mix_seg (seg := [_]) (rest := []) rfl trivial ?_
        intro ι hι F hF
        repeat (first | (go_big_quiet_step (fail)))
        refine wpQuiet_nil ?_
        clear hF hι F
        show wpList _ _ _ _ _ _
        go_wp2
        refine NoPanic.normal ?_
        generalize hw : ((wr.setCell ⟨g, 4, none⟩ (.int .u8 (D0 : Int))).setCell ⟨g, 3, none⟩ (.int .u8 (D1 : Int))).drew = w1
        have hrow' : RowB w1 g N (upd (upd fk (4) D0) (3) D1) := by rw [← hw]; exact (hrow.set (4) D0 (by omega)).set (3) D1 (by omega)
        have hbel' : Below g w w1 := by rw [← hw]; exact ((hbel.setCell (p := ⟨g, (4), none⟩) (Nat.le_refl _) _).setCell (p := ⟨g, (3), none⟩) (Nat.le_refl _) _).drew
        clear q1 q2 q3 q4 hw hrow hbel
        have hrow := hrow'
        have hbel := hbel'
        clear hrow' hbel'
        go_wp2_with fail
        have q1 := (hrow (2) (by omega)).1
        have q2 := (hrow (2) (by omega)).2
        have q3 := (hrow (1) (by omega)).1
        have q4 := (hrow (1) (by omega)).2
        refine region_mix [(false, 0), (false, 1), (false, 2), (false, 3), (false, 4), (false, 5), (false, 6), (false, 7), (false, 8), (false, 9), (false, 10), (false, 11), (true, 12), (false, 13)] (fun _ => True) (by kernel_rfl) (by kernel_rfl) trivial ?_
        simp only [planOps, List.map_cons, List.map_nil, List.getD_cons_zero, List.getD_cons_succ, List.length_cons, List.length_nil, List.drop_succ_cons, List.drop_zero]
        refine mix_seg (seg := [_, _, _, _, _, _, _, _, _, _, _, _]) rfl trivial ?_
        intro ι hι F hF
        repeat (first | (go_big_quiet_step (fail)))
        refine wpQuiet_nil ?_
        clear hF hι F
        refine mix_eff (fun K hK => ?_)
        go_wp2
        refine mix_on hK trivial ?_
        clear hK K
        refine mix_seg (seg := [_]) (rest := []) rfl trivial ?_
        intro ι hι F hF
        repeat (first | (go_big_quiet_step (fail)))
        refine wpQuiet_nil ?_
        clear hF hι F
        show wpList _ _ _ _ _ _
        go_wp2
        refine NoPanic.normal ?_
        generalize hw : ((w1.setCell ⟨g, 2, none⟩ (.int .u8 (D2 : Int))).setCell ⟨g, 1, none⟩ (.int .u8 (D3 : Int))).drew = w2
        have hrow' : RowB w2 g N (upd (upd (upd (upd fk 4 D0) 3 D1) (2) D2) (1) D3) := by rw [← hw]; exact (hrow.set (2) D2 (by omega)).set (1) D3 (by omega)
        have hbel' : Below g w w2 := by rw [← hw]; exact ((hbel.setCell (p := ⟨g, (2), none⟩) (Nat.le_refl _) _).setCell (p := ⟨g, (1), none⟩) (Nat.le_refl _) _).drew
        clear q1 q2 q3 q4 hw hrow hbel
        have hrow := hrow'
        have hbel := hbel'
        clear hrow' hbel'
        have z1 := (hrow 0 (by omega)).1
        have z2 := (hrow 0 (by omega)).2
        go_wp2_with fail
        go_end0
        have hM' := HM.out
        have hd : ∀ t, dg u (8 * k + t) = 48 + X / 10 ^ t % 10 := fun t => by unfold dg; rw [Nat.pow_add, ← Nat.div_div_eq_div_mul, HX.out]
        refine ⟨rfl, ?_, hbel.setCell (p := ⟨g, 0, none⟩) (Nat.le_refl _) _⟩
        have h2 := hrow.set 0 (48 + X / 10000) (by omega)
        rw [show ((48 + X / 10000 : Nat) : Int) = 48 + (X : Int) / 10000 by omega] at h2
        refine h2.congr fun j hj => ?_
        unfold upd
        by_cases h0 : j = 0
        · rw [if_pos h0, if_pos (by omega), show n - 1 - j = 8 * k + 4 by omega, hd 4]
          simp only [Nat.reducePow]
          omega
        rw [if_neg h0]
        by_cases h1 : j = 1
        · rw [if_pos h1, if_pos (by omega), show n - 1 - j = 8 * k + 3 by omega, hd 3, E3.out]
          simp only [Nat.reducePow]
          omega
        rw [if_neg h1]
        by_cases h2 : j = 2
        · rw [if_pos h2, if_pos (by omega), show n - 1 - j = 8 * k + 2 by omega, hd 2, E2.out]
          simp only [Nat.reducePow]
          omega
        rw [if_neg h2]
        by_cases h3 : j = 3
        · rw [if_pos h3, if_pos (by omega), show n - 1 - j = 8 * k + 1 by omega, hd 1, E1.out]
          simp only [Nat.reducePow]
          omega
        rw [if_neg h3]
        by_cases h4 : j = 4
        · rw [if_pos h4, if_pos (by omega), show n - 1 - j = 8 * k + 0 by omega, hd 0, E0.out]
          simp only [Nat.reducePow]
          omega
        rw [if_neg h4]
        rw [FK.out]
        show (if 5 ≤ j ∧ j < n then dg u (n - 1 - j) else f j) = _
        by_cases c : j < n
        · rw [if_pos c, if_pos ⟨by omega, c⟩]
        · rw [if_neg c, if_neg (by omega)]
      · have hX10 : X < 1000000 := hlt
        obtain ⟨D0, E0⟩ : ∃ D, Hid (D = 48 + (X % 100) % 10) := ⟨_, rfl⟩
        obtain ⟨D1, E1⟩ : ∃ D, Hid (D = 48 + (X % 100) / 10) := ⟨_, rfl⟩
        have i0 : ∀ w, (Instr.index 9 (Value.string { data := #[48, 48, 48, 49, 48, 50, 48, 51, 48, 52, 48, 53, 48, 54, 48, 55, 48, 56, 48, 57, 49, 48, 49, 49, 49, 50, 49, 51, 49, 52, 49, 53, 49, 54, 49, 55, 49, 56, 49, 57, 50, 48, 50, 49, 50, 50, 50, 51, 50, 52, 50, 53, 50, 54, 50, 55, 50, 56, 50, 57, 51, 48, 51, 49, 51, 50, 51, 51, 51, 52, 51, 53, 51, 54, 51, 55, 51, 56, 51, 57, 52, 48, 52, 49, 52, 50, 52, 51, 52, 52, 52, 53, 52, 54, 52, 55, 52, 56, 52, 57, 53, 48, 53, 49, 53, 50, 53, 51, 53, 52, 53, 53, 53, 54, 53, 55, 53, 56, 53, 57, 54, 48, 54, 49, 54, 50, 54, 51, 54, 52, 54, 53, 54, 54, 54, 55, 54, 56, 54, 57, 55, 48, 55, 49, 55, 50, 55, 51, 55, 52, 55, 53, 55, 54, 55, 55, 55, 56, 55, 57, 56, 48, 56, 49, 56, 50, 56, 51, 56, 52, 56, 53, 56, 54, 56, 55, 56, 56, 56, 57, 57, 48, 57, 49, 57, 50, 57, 51, 57, 52, 57, 53, 57, 54, 57, 55, 57, 56, 57, 57] }) (.int .u32 ((X : Int) % 100 * 2 + 1))).run Tryd.prog w = .ok (.int .u8 (D0 : Int)) w := fun w => pair_lo (X % 100) D0 (by omega) _ (by omega) E0.out w
        have i1 : ∀ w, (Instr.index 9 (Value.string { data := #[48, 48, 48, 49, 48, 50, 48, 51, 48, 52, 48, 53, 48, 54, 48, 55, 48, 56, 48, 57, 49, 48, 49, 49, 49, 50, 49, 51, 49, 52, 49, 53, 49, 54, 49, 55, 49, 56, 49, 57, 50, 48, 50, 49, 50, 50, 50, 51, 50, 52, 50, 53, 50, 54, 50, 55, 50, 56, 50, 57, 51, 48, 51, 49, 51, 50, 51, 51, 51, 52, 51, 53, 51, 54, 51, 55, 51, 56, 51, 57, 52, 48, 52, 49, 52, 50, 52, 51, 52, 52, 52, 53, 52, 54, 52, 55, 52, 56, 52, 57, 53, 48, 53, 49, 53, 50, 53, 51, 53, 52, 53, 53, 53, 54, 53, 55, 53, 56, 53, 57, 54, 48, 54, 49, 54, 50, 54, 51, 54, 52, 54, 53, 54, 54, 54, 55, 54, 56, 54, 57, 55, 48, 55, 49, 55, 50, 55, 51, 55, 52, 55, 53, 55, 54, 55, 55, 55, 56, 55, 57, 56, 48, 56, 49, 56, 50, 56, 51, 56, 52, 56, 53, 56, 54, 56, 55, 56, 56, 56, 57, 57, 48, 57, 49, 57, 50, 57, 51, 57, 52, 57, 53, 57, 54, 57, 55, 57, 56, 57, 57] }) (.int .u32 ((X : Int) % 100 * 2))).run Tryd.prog w = .ok (.int .u8 (D1 : Int)) w := fun w => pair_hi (X % 100) D1 (by omega) _ (by omega) E1.out w
        obtain ⟨D2, E2⟩ : ∃ D, Hid (D = 48 + (X % 10000 / 100) % 10) := ⟨_, rfl⟩
        obtain ⟨D3, E3⟩ : ∃ D, Hid (D = 48 + (X % 10000 / 100) / 10) := ⟨_, rfl⟩
        have i2 : ∀ w, (Instr.index 9 (Value.string { data := #[48, 48, 48, 49, 48, 50, 48, 51, 48, 52, 48, 53, 48, 54, 48, 55, 48, 56, 48, 57, 49, 48, 49, 49, 49, 50, 49, 51, 49, 52, 49, 53, 49, 54, 49, 55, 49, 56, 49, 57, 50, 48, 50, 49, 50, 50, 50, 51, 50, 52, 50, 53, 50, 54, 50, 55, 50, 56, 50, 57, 51, 48, 51, 49, 51, 50, 51, 51, 51, 52, 51, 53, 51, 54, 51, 55, 51, 56, 51, 57, 52, 48, 52, 49, 52, 50, 52, 51, 52, 52, 52, 53, 52, 54, 52, 55, 52, 56, 52, 57, 53, 48, 53, 49, 53, 50, 53, 51, 53, 52, 53, 53, 53, 54, 53, 55, 53, 56, 53, 57, 54, 48, 54, 49, 54, 50, 54, 51, 54, 52, 54, 53, 54, 54, 54, 55, 54, 56, 54, 57, 55, 48, 55, 49, 55, 50, 55, 51, 55, 52, 55, 53, 55, 54, 55, 55, 55, 56, 55, 57, 56, 48, 56, 49, 56, 50, 56, 51, 56, 52, 56, 53, 56, 54, 56, 55, 56, 56, 56, 57, 57, 48, 57, 49, 57, 50, 57, 51, 57, 52, 57, 53, 57, 54, 57, 55, 57, 56, 57, 57] }) (.int .u32 ((X : Int) % 10000 / 100 * 2 + 1))).run Tryd.prog w = .ok (.int .u8 (D2 : Int)) w := fun w => pair_lo (X % 10000 / 100) D2 (by omega) _ (by omega) E2.out w
        have i3 : ∀ w, (Instr.index 9 (Value.string { data := #[48, 48, 48, 49, 48, 50, 48, 51, 48, 52, 48, 53, 48, 54, 48, 55, 48, 56, 48, 57, 49, 48, 49, 49, 49, 50, 49, 51, 49, 52, 49, 53, 49, 54, 49, 55, 49, 56, 49, 57, 50, 48, 50, 49, 50, 50, 50, 51, 50, 52, 50, 53, 50, 54, 50, 55, 50, 56, 50, 57, 51, 48, 51, 49, 51, 50, 51, 51, 51, 52, 51, 53, 51, 54, 51, 55, 51, 56, 51, 57, 52, 48, 52, 49, 52, 50, 52, 51, 52, 52, 52, 53, 52, 54, 52, 55, 52, 56, 52, 57, 53, 48, 53, 49, 53, 50, 53, 51, 53, 52, 53, 53, 53, 54, 53, 55, 53, 56, 53, 57, 54, 48, 54, 49, 54, 50, 54, 51, 54, 52, 54, 53, 54, 54, 54, 55, 54, 56, 54, 57, 55, 48, 55, 49, 55, 50, 55, 51, 55, 52, 55, 53, 55, 54, 55, 55, 55, 56, 55, 57, 56, 48, 56, 49, 56, 50, 56, 51, 56, 52, 56, 53, 56, 54, 56, 55, 56, 56, 56, 57, 57, 48, 57, 49, 57, 50, 57, 51, 57, 52, 57, 53, 57, 54, 57, 55, 57, 56, 57, 57] }) (.int .u32 ((X : Int) % 10000 / 100 * 2))).run Tryd.prog w = .ok (.int .u8 (D3 : Int)) w := fun w => pair_hi (X % 10000 / 100) D3 (by omega) _ (by omega) E3.out w
        obtain ⟨D4, E4⟩ : ∃ D, Hid (D = 48 + (X / 10000 % 100) % 10) := ⟨_, rfl⟩
        obtain ⟨D5, E5⟩ : ∃ D, Hid (D = 48 + (X / 10000 % 100) / 10) := ⟨_, rfl⟩
        have i4 : ∀ w, (Instr.index 9 (Value.string { data := #[48, 48, 48, 49, 48, 50, 48, 51, 48, 52, 48, 53, 48, 54, 48, 55, 48, 56, 48, 57, 49, 48, 49, 49, 49, 50, 49, 51, 49, 52, 49, 53, 49, 54, 49, 55, 49, 56, 49, 57, 50, 48, 50, 49, 50, 50, 50, 51, 50, 52, 50, 53, 50, 54, 50, 55, 50, 56, 50, 57, 51, 48, 51, 49, 51, 50, 51, 51, 51, 52, 51, 53, 51, 54, 51, 55, 51, 56, 51, 57, 52, 48, 52, 49, 52, 50, 52, 51, 52, 52, 52, 53, 52, 54, 52, 55, 52, 56, 52, 57, 53, 48, 53, 49, 53, 50, 53, 51, 53, 52, 53, 53, 53, 54, 53, 55, 53, 56, 53, 57, 54, 48, 54, 49, 54, 50, 54, 51, 54, 52, 54, 53, 54, 54, 54, 55, 54, 56, 54, 57, 55, 48, 55, 49, 55, 50, 55, 51, 55, 52, 55, 53, 55, 54, 55, 55, 55, 56, 55, 57, 56, 48, 56, 49, 56, 50, 56, 51, 56, 52, 56, 53, 56, 54, 56, 55, 56, 56, 56, 57, 57, 48, 57, 49, 57, 50, 57, 51, 57, 52, 57, 53, 57, 54, 57, 55, 57, 56, 57, 57] }) (.int .u32 ((X : Int) / 10000 % 100 * 2 + 1))).run Tryd.prog w = .ok (.int .u8 (D4 : Int)) w := fun w => pair_lo (X / 10000 % 100) D4 (by omega) _ (by omega) E4.out w
        have i5 : ∀ w, (Instr.index 9 (Value.string { data := #[48, 48, 48, 49, 48, 50, 48, 51, 48, 52, 48, 53, 48, 54, 48, 55, 48, 56, 48, 57, 49, 48, 49, 49, 49, 50, 49, 51, 49, 52, 49, 53, 49, 54, 49, 55, 49, 56, 49, 57, 50, 48, 50, 49, 50, 50, 50, 51, 50, 52, 50, 53, 50, 54, 50, 55, 50, 56, 50, 57, 51, 48, 51, 49, 51, 50, 51, 51, 51, 52, 51, 53, 51, 54, 51, 55, 51, 56, 51, 57, 52, 48, 52, 49, 52, 50, 52, 51, 52, 52, 52, 53, 52, 54, 52, 55, 52, 56, 52, 57, 53, 48, 53, 49, 53, 50, 53, 51, 53, 52, 53, 53, 53, 54, 53, 55, 53, 56, 53, 57, 54, 48, 54, 49, 54, 50, 54, 51, 54, 52, 54, 53, 54, 54, 54, 55, 54, 56, 54, 57, 55, 48, 55, 49, 55, 50, 55, 51, 55, 52, 55, 53, 55, 54, 55, 55, 55, 56, 55, 57, 56, 48, 56, 49, 56, 50, 56, 51, 56, 52, 56, 53, 56, 54, 56, 55, 56, 56, 56, 57, 57, 48, 57, 49, 57, 50, 57, 51, 57, 52, 57, 53, 57, 54, 57, 55, 57, 56, 57, 57] }) (.int .u32 ((X : Int) / 10000 % 100 * 2))).run Tryd.prog w = .ok (.int .u8 (D5 : Int)) w := fun w => pair_hi (X / 10000 % 100) D5 (by omega) _ (by omega) E5.out w
        go_wp2_with fail
        have q1 := (hrow (5) (by omega)).1
        have q2 := (hrow (5) (by omega)).2
        have q3 := (hrow (4) (by omega)).1
        have q4 := (hrow (4) (by omega)).2
        refine region_mix [(false, 0), (false, 1), (false, 2), (false, 3), (false, 4), (false, 5), (false, 6), (false, 7), (false, 8), (false, 9), (false, 10), (false, 11), (true, 12), (false, 13)] (fun _ => True) (by kernel_rfl) (by kernel_rfl) trivial ?_
        simp only [planOps, List.map_cons, List.map_nil, List.getD_cons_zero, List.getD_cons_succ, List.length_cons, List.length_nil, List.drop_succ_cons, List.drop_zero]
        refine mix_seg (seg := [_, _, _, _, _, _, _, _, _, _, _, _]) rfl trivial ?_
        intro ι hι F hF
        repeat (first | (go_big_quiet_step (fail)))
        refine wpQuiet_nil ?_
        clear hF hι F
        refine mix_eff (fun K hK => ?_)
        go_wp2
        refine mix_on hK trivial ?_
        clear hK K
        refine mix_seg (seg := [_]) (rest := []) rfl trivial ?_
        intro ι hι F hF
        repeat (first | (go_big_quiet_step (fail)))
        refine wpQuiet_nil ?_
        clear hF hι F
        show wpList _ _ _ _ _ _
        go_wp2
        refine NoPanic.normal ?_
        generalize hw : ((wr.setCell ⟨g, 5, none⟩ (.int .u8 (D0 : Int))).setCell ⟨g, 4, none⟩ (.int .u8 (D1 : Int))).drew = w1
        have hrow' : RowB w1 g N (upd (upd fk (5) D0) (4) D1) := by rw [← hw]; exact (hrow.set (5) D0 (by omega)).set (4) D1 (by omega)
        have hbel' : Below g w w1 := by rw [← hw]; exact ((hbel.setCell (p := ⟨g, (5), none⟩) (Nat.le_refl _) _).setCell (p := ⟨g, (4), none⟩) (Nat.le_refl _) _).drew
        clear q1 q2 q3 q4 hw hrow hbel
        have hrow := hrow'
        have hbel := hbel'
        clear hrow' hbel'
        go_wp2_with fail
        have q1 := (hrow (3) (by omega)).1
        have q2 := (hrow (3) (by omega)).2
        have q3 := (hrow (2) (by omega)).1
        have q4 := (hrow (2) (by omega)).2
        refine region_mix [(false, 0), (false, 1), (false, 2), (false, 3), (false, 4), (false, 5), (false, 6), (false, 7), (false, 8), (false, 9), (false, 10), (false, 11), (true, 12), (false, 13)] (fun _ => True) (by kernel_rfl) (by kernel_rfl) trivial ?_
        simp only [planOps, List.map_cons, List.map_nil, List.getD_cons_zero, List.getD_cons_succ, List.length_cons, List.length_nil, List.drop_succ_cons, List.drop_zero]
        refine mix_seg (seg := [_, _, _, _, _, _, _, _, _, _, _, _]) rfl trivial ?_
        intro ι hι F hF
        repeat (first | (go_big_quiet_step (fail)))
        refine wpQuiet_nil ?_
        clear hF hι F
        refine mix_eff (fun K hK => ?_)
        go_wp2
        refine mix_on hK trivial ?_
        clear hK K
        refine mix_seg (seg := [_]) (rest := []) rfl trivial ?_
        intro ι hι F hF
        repeat (first | (go_big_quiet_step (fail)))
        refine wpQuiet_nil ?_
        clear hF hι F
        show wpList _ _ _ _ _ _
        go_wp2
        refine NoPanic.normal ?_
        generalize hw : ((w1.setCell ⟨g, 3, none⟩ (.int .u8 (D2 : Int))).setCell ⟨g, 2, none⟩ (.int .u8 (D3 : Int))).drew = w2
        have hrow' : RowB w2 g N (upd (upd (upd (upd fk 5 D0) 4 D1) (3) D2) (2) D3) := by rw [← hw]; exact (hrow.set (3) D2 (by omega)).set (2) D3 (by omega)
        have hbel' : Below g w w2 := by rw [← hw]; exact ((hbel.setCell (p := ⟨g, (3), none⟩) (Nat.le_refl _) _).setCell (p := ⟨g, (2), none⟩) (Nat.le_refl _) _).drew
        clear q1 q2 q3 q4 hw hrow hbel
        have hrow := hrow'
        have hbel := hbel'
        clear hrow' hbel'
        go_wp2_with fail
        have q1 := (hrow (1) (by omega)).1
        have q2 := (hrow (1) (by omega)).2
        have q3 := (hrow (0) (by omega)).1
        have q4 := (hrow (0) (by omega)).2
        refine region_mix [(false, 0), (false, 1), (false, 2), (false, 3), (false, 4), (false, 5), (false, 6), (false, 7), (false, 8), (false, 9), (false, 10), (false, 11), (true, 12), (false, 13)] (fun _ => True) (by kernel_rfl) (by kernel_rfl) trivial ?_
        simp only [planOps, List.map_cons, List.map_nil, List.getD_cons_zero, List.getD_cons_succ, List.length_cons, List.length_nil, List.drop_succ_cons, List.drop_zero]
        refine mix_seg (seg := [_, _, _, _, _, _, _, _, _, _, _, _]) rfl trivial ?_
        intro ι hι F hF
        repeat (first | (go_big_quiet_step (fail)))
        refine wpQuiet_nil ?_
        clear hF hι F
        refine mix_eff (fun K hK => ?_)
        go_wp2
        refine mix_on hK trivial ?_
        clear hK K
        refine mix_seg (seg := [_]) (rest := []) rfl trivial ?_
        intro ι hι F hF
        repeat (first | (go_big_quiet_step (fail)))
        refine wpQuiet_nil ?_
        clear hF hι F
        show wpList _ _ _ _ _ _
        go_wp2
        refine NoPanic.normal ?_
        generalize hw : ((w2.setCell ⟨g, 1, none⟩ (.int .u8 (D4 : Int))).setCell ⟨g, 0, none⟩ (.int .u8 (D5 : Int))).drew = w3
        have hrow' : RowB w3 g N (upd (upd (upd (upd (upd (upd fk 5 D0) 4 D1) 3 D2) 2 D3) (1) D4) (0) D5) := by rw [← hw]; exact (hrow.set (1) D4 (by omega)).set (0) D5 (by omega)
        have hbel' : Below g w w3 := by rw [← hw]; exact ((hbel.setCell (p := ⟨g, (1), none⟩) (Nat.le_refl _) _).setCell (p := ⟨g, (0), none⟩) (Nat.le_refl _) _).drew
        clear q1 q2 q3 q4 hw hrow hbel
        have hrow := hrow'
        have hbel := hbel'
        clear hrow' hbel'
        go_wp2_with fail
        go_end0
        have hM' := HM.out
        have hd : ∀ t, dg u (8 * k + t) = 48 + X / 10 ^ t % 10 := fun t => by unfold dg; rw [Nat.pow_add, ← Nat.div_div_eq_div_mul, HX.out]
        refine ⟨rfl, ?_, hbel⟩
        refine hrow.congr fun j hj => ?_
        unfold upd
        by_cases h0 : j = 0
        · rw [if_pos h0, if_pos (by omega), show n - 1 - j = 8 * k + 5 by omega, hd 5, E5.out]
          simp only [Nat.reducePow]
          omega
        rw [if_neg h0]
        by_cases h1 : j = 1
        · rw [if_pos h1, if_pos (by omega), show n - 1 - j = 8 * k + 4 by omega, hd 4, E4.out]
          simp only [Nat.reducePow]
          omega
        rw [if_neg h1]
        by_cases h2 : j = 2
        · rw [if_pos h2, if_pos (by omega), show n - 1 - j = 8 * k + 3 by omega, hd 3, E3.out]
          simp only [Nat.reducePow]
          omega
        rw [if_neg h2]
        by_cases h3 : j = 3
        · rw [if_pos h3, if_pos (by omega), show n - 1 - j = 8 * k + 2 by omega, hd 2, E2.out]
          simp only [Nat.reducePow]
          omega
        rw [if_neg h3]
        by_cases h4 : j = 4
        · rw [if_pos h4, if_pos (by omega), show n - 1 - j = 8 * k + 1 by omega, hd 1, E1.out]
          simp only [Nat.reducePow]
          omega
        rw [if_neg h4]
        by_cases h5 : j = 5
        · rw [if_pos h5, if_pos (by omega), show n - 1 - j = 8 * k + 0 by omega, hd 0, E0.out]
          simp only [Nat.reducePow]
          omega
        rw [if_neg h5]
        rw [FK.out]
        show (if 6 ≤ j ∧ j < n then dg u (n - 1 - j) else f j) = _
        by_cases c : j < n
        · rw [if_pos c, if_pos ⟨by omega, c⟩]
        · rw [if_neg c, if_neg (by omega)]
      · have hX10 : X < 10000000 := hlt
        obtain ⟨D0, E0⟩ : ∃ D, Hid (D = 48 + (X % 100) % 10) := ⟨_, rfl⟩
        obtain ⟨D1, E1⟩ : ∃ D, Hid (D = 48 + (X % 100) / 10) := ⟨_, rfl⟩
        have i0 : ∀ w, (Instr.index 9 (Value.string { data := #[48, 48, 48, 49, 48, 50, 48, 51, 48, 52, 48, 53, 48, 54, 48, 55, 48, 56, 48, 57, 49, 48, 49, 49, 49, 50, 49, 51, 49, 52, 49, 53, 49, 54, 49, 55, 49, 56, 49, 57, 50, 48, 50, 49, 50, 50, 50, 51, 50, 52, 50, 53, 50, 54, 50, 55, 50, 56, 50, 57, 51, 48, 51, 49, 51, 50, 51, 51, 51, 52, 51, 53, 51, 54, 51, 55, 51, 56, 51, 57, 52, 48, 52, 49, 52, 50, 52, 51, 52, 52, 52, 53, 52, 54, 52, 55, 52, 56, 52, 57, 53, 48, 53, 49, 53, 50, 53, 51, 53, 52, 53, 53, 53, 54, 53, 55, 53, 56, 53, 57, 54, 48, 54, 49, 54, 50, 54, 51, 54, 52, 54, 53, 54, 54, 54, 55, 54, 56, 54, 57, 55, 48, 55, 49, 55, 50, 55, 51, 55, 52, 55, 53, 55, 54, 55, 55, 55, 56, 55, 57, 56, 48, 56, 49, 56, 50, 56, 51, 56, 52, 56, 53, 56, 54, 56, 55, 56, 56, 56, 57, 57, 48, 57, 49, 57, 50, 57, 51, 57, 52, 57, 53, 57, 54, 57, 55, 57, 56, 57, 57] }) (.int .u32 ((X : Int) % 100 * 2 + 1))).run Tryd.prog w = .ok (.int .u8 (D0 : Int)) w := fun w => pair_lo (X % 100) D0 (by omega) _ (by omega) E0.out w
        have i1 : ∀ w, (Instr.index 9 (Value.string { data := #[48, 48, 48, 49, 48, 50, 48, 51, 48, 52, 48, 53, 48, 54, 48, 55, 48, 56, 48, 57, 49, 48, 49, 49, 49, 50, 49, 51, 49, 52, 49, 53, 49, 54, 49, 55, 49, 56, 49, 57, 50, 48, 50, 49, 50, 50, 50, 51, 50, 52, 50, 53, 50, 54, 50, 55, 50, 56, 50, 57, 51, 48, 51, 49, 51, 50, 51, 51, 51, 52, 51, 53, 51, 54, 51, 55, 51, 56, 51, 57, 52, 48, 52, 49, 52, 50, 52, 51, 52, 52, 52, 53, 52, 54, 52, 55, 52, 56, 52, 57, 53, 48, 53, 49, 53, 50, 53, 51, 53, 52, 53, 53, 53, 54, 53, 55, 53, 56, 53, 57, 54, 48, 54, 49, 54, 50, 54, 51, 54, 52, 54, 53, 54, 54, 54, 55, 54, 56, 54, 57, 55, 48, 55, 49, 55, 50, 55, 51, 55, 52, 55, 53, 55, 54, 55, 55, 55, 56, 55, 57, 56, 48, 56, 49, 56, 50, 56, 51, 56, 52, 56, 53, 56, 54, 56, 55, 56, 56, 56, 57, 57, 48, 57, 49, 57, 50, 57, 51, 57, 52, 57, 53, 57, 54, 57, 55, 57, 56, 57, 57] }) (.int .u32 ((X : Int) % 100 * 2))).run Tryd.prog w = .ok (.int .u8 (D1 : Int)) w := fun w => pair_hi (X % 100) D1 (by omega) _ (by omega) E1.out w
        obtain ⟨D2, E2⟩ : ∃ D, Hid (D = 48 + (X % 10000 / 100) % 10) := ⟨_, rfl⟩
        obtain ⟨D3, E3⟩ : ∃ D, Hid (D = 48 + (X % 10000 / 100) / 10) := ⟨_, rfl⟩
        have i2 : ∀ w, (Instr.index 9 (Value.string { data := #[48, 48, 48, 49, 48, 50, 48, 51, 48, 52, 48, 53, 48, 54, 48, 55, 48, 56, 48, 57, 49, 48, 49, 49, 49, 50, 49, 51, 49, 52, 49, 53, 49, 54, 49, 55, 49, 56, 49, 57, 50, 48, 50, 49, 50, 50, 50, 51, 50, 52, 50, 53, 50, 54, 50, 55, 50, 56, 50, 57, 51, 48, 51, 49, 51, 50, 51, 51, 51, 52, 51, 53, 51, 54, 51, 55, 51, 56, 51, 57, 52, 48, 52, 49, 52, 50, 52, 51, 52, 52, 52, 53, 52, 54, 52, 55, 52, 56, 52, 57, 53, 48, 53, 49, 53, 50, 53, 51, 53, 52, 53, 53, 53, 54, 53, 55, 53, 56, 53, 57, 54, 48, 54, 49, 54, 50, 54, 51, 54, 52, 54, 53, 54, 54, 54, 55, 54, 56, 54, 57, 55, 48, 55, 49, 55, 50, 55, 51, 55, 52, 55, 53, 55, 54, 55, 55, 55, 56, 55, 57, 56, 48, 56, 49, 56, 50, 56, 51, 56, 52, 56, 53, 56, 54, 56, 55, 56, 56, 56, 57, 57, 48, 57, 49, 57, 50, 57, 51, 57, 52, 57, 53, 57, 54, 57, 55, 57, 56, 57, 57] }) (.int .u32 ((X : Int) % 10000 / 100 * 2 + 1))).run Tryd.prog w = .ok (.int .u8 (D2 : Int)) w := fun w => pair_lo (X % 10000 / 100) D2 (by omega) _ (by omega) E2.out w
        have i3 : ∀ w, (Instr.index 9 (Value.string { data := #[48, 48, 48, 49, 48, 50, 48, 51, 48, 52, 48, 53, 48, 54, 48, 55, 48, 56, 48, 57, 49, 48, 49, 49, 49, 50, 49, 51, 49, 52, 49, 53, 49, 54, 49, 55, 49, 56, 49, 57, 50, 48, 50, 49, 50, 50, 50, 51, 50, 52, 50, 53, 50, 54, 50, 55, 50, 56, 50, 57, 51, 48, 51, 49, 51, 50, 51, 51, 51, 52, 51, 53, 51, 54, 51, 55, 51, 56, 51, 57, 52, 48, 52, 49, 52, 50, 52, 51, 52, 52, 52, 53, 52, 54, 52, 55, 52, 56, 52, 57, 53, 48, 53, 49, 53, 50, 53, 51, 53, 52, 53, 53, 53, 54, 53, 55, 53, 56, 53, 57, 54, 48, 54, 49, 54, 50, 54, 51, 54, 52, 54, 53, 54, 54, 54, 55, 54, 56, 54, 57, 55, 48, 55, 49, 55, 50, 55, 51, 55, 52, 55, 53, 55, 54, 55, 55, 55, 56, 55, 57, 56, 48, 56, 49, 56, 50, 56, 51, 56, 52, 56, 53, 56, 54, 56, 55, 56, 56, 56, 57, 57, 48, 57, 49, 57, 50, 57, 51, 57, 52, 57, 53, 57, 54, 57, 55, 57, 56, 57, 57] }) (.int .u32 ((X : Int) % 10000 / 100 * 2))).run Tryd.prog w = .ok (.int .u8 (D3 : Int)) w := fun w => pair_hi (X % 10000 / 100) D3 (by omega) _ (by omega) E3.out w
        obtain ⟨D4, E4⟩ : ∃ D, Hid (D = 48 + (X / 10000 % 100) % 10) := ⟨_, rfl⟩
        obtain ⟨D5, E5⟩ : ∃ D, Hid (D = 48 + (X / 10000 % 100) / 10) := ⟨_, rfl⟩
        have i4 : ∀ w, (Instr.index 9 (Value.string { data := #[48, 48, 48, 49, 48, 50, 48, 51, 48, 52, 48, 53, 48, 54, 48, 55, 48, 56, 48, 57, 49, 48, 49, 49, 49, 50, 49, 51, 49, 52, 49, 53, 49, 54, 49, 55, 49, 56, 49, 57, 50, 48, 50, 49, 50, 50, 50, 51, 50, 52, 50, 53, 50, 54, 50, 55, 50, 56, 50, 57, 51, 48, 51, 49, 51, 50, 51, 51, 51, 52, 51, 53, 51, 54, 51, 55, 51, 56, 51, 57, 52, 48, 52, 49, 52, 50, 52, 51, 52, 52, 52, 53, 52, 54, 52, 55, 52, 56, 52, 57, 53, 48, 53, 49, 53, 50, 53, 51, 53, 52, 53, 53, 53, 54, 53, 55, 53, 56, 53, 57, 54, 48, 54, 49, 54, 50, 54, 51, 54, 52, 54, 53, 54, 54, 54, 55, 54, 56, 54, 57, 55, 48, 55, 49, 55, 50, 55, 51, 55, 52, 55, 53, 55, 54, 55, 55, 55, 56, 55, 57, 56, 48, 56, 49, 56, 50, 56, 51, 56, 52, 56, 53, 56, 54, 56, 55, 56, 56, 56, 57, 57, 48, 57, 49, 57, 50, 57, 51, 57, 52, 57, 53, 57, 54, 57, 55, 57, 56, 57, 57] }) (.int .u32 ((X : Int) / 10000 % 100 * 2 + 1))).run Tryd.prog w = .ok (.int .u8 (D4 : Int)) w := fun w => pair_lo (X / 10000 % 100) D4 (by omega) _ (by omega) E4.out w
        have i5 : ∀ w, (Instr.index 9 (Value.string { data := #[48, 48, 48, 49, 48, 50, 48, 51, 48, 52, 48, 53, 48, 54, 48, 55, 48, 56, 48, 57, 49, 48, 49, 49, 49, 50, 49, 51, 49, 52, 49, 53, 49, 54, 49, 55, 49, 56, 49, 57, 50, 48, 50, 49, 50, 50, 50, 51, 50, 52, 50, 53, 50, 54, 50, 55, 50, 56, 50, 57, 51, 48, 51, 49, 51, 50, 51, 51, 51, 52, 51, 53, 51, 54, 51, 55, 51, 56, 51, 57, 52, 48, 52, 49, 52, 50, 52, 51, 52, 52, 52, 53, 52, 54, 52, 55, 52, 56, 52, 57, 53, 48, 53, 49, 53, 50, 53, 51, 53, 52, 53, 53, 53, 54, 53, 55, 53, 56, 53, 57, 54, 48, 54, 49, 54, 50, 54, 51, 54, 52, 54, 53, 54, 54, 54, 55, 54, 56, 54, 57, 55, 48, 55, 49, 55, 50, 55, 51, 55, 52, 55, 53, 55, 54, 55, 55, 55, 56, 55, 57, 56, 48, 56, 49, 56, 50, 56, 51, 56, 52, 56, 53, 56, 54, 56, 55, 56, 56, 56, 57, 57, 48, 57, 49, 57, 50, 57, 51, 57, 52, 57, 53, 57, 54, 57, 55, 57, 56, 57, 57] }) (.int .u32 ((X : Int) / 10000 % 100 * 2))).run Tryd.prog w = .ok (.int .u8 (D5 : Int)) w := fun w => pair_hi (X / 10000 % 100) D5 (by omega) _ (by omega) E5.out w
        go_wp2_with fail
        have q1 := (hrow (6) (by omega)).1
        have q2 := (hrow (6) (by omega)).2
        have q3 := (hrow (5) (by omega)).1
        have q4 := (hrow (5) (by omega)).2
        refine region_mix [(false, 0), (false, 1), (false, 2), (false, 3), (false, 4), (false, 5), (false, 6), (false, 7), (false, 8), (false, 9), (false, 10), (false, 11), (true, 12), (false, 13)] (fun _ => True) (by kernel_rfl) (by kernel_rfl) trivial ?_
        simp only [planOps, List.map_cons, List.map_nil, List.getD_cons_zero, List.getD_cons_succ, List.length_cons, List.length_nil, List.drop_succ_cons, List.drop_zero]
        refine mix_seg (seg := [_, _, _, _, _, _, _, _, _, _, _, _]) rfl trivial ?_
        intro ι hι F hF
        repeat (first | (go_big_quiet_step (fail)))
        refine wpQuiet_nil ?_
        clear hF hι F
        refine mix_eff (fun K hK => ?_)
        go_wp2
        refine mix_on hK trivial ?_
        clear hK K
        refine mix_seg (seg := [_]) (rest := []) rfl trivial ?_
        intro ι hι F hF
        repeat (first | (go_big_quiet_step (fail)))
        refine wpQuiet_nil ?_
        clear hF hι F
        show wpList _ _ _ _ _ _
        go_wp2
        refine NoPanic.normal ?_
        generalize hw : ((wr.setCell ⟨g, 6, none⟩ (.int .u8 (D0 : Int))).setCell ⟨g, 5, none⟩ (.int .u8 (D1 : Int))).drew = w1
        have hrow' : RowB w1 g N (upd (upd fk (6) D0) (5) D1) := by rw [← hw]; exact (hrow.set (6) D0 (by omega)).set (5) D1 (by omega)
        have hbel' : Below g w w1 := by rw [← hw]; exact ((hbel.setCell (p := ⟨g, (6), none⟩) (Nat.le_refl _) _).setCell (p := ⟨g, (5), none⟩) (Nat.le_refl _) _).drew
        clear q1 q2 q3 q4 hw hrow hbel
        have hrow := hrow'
        have hbel := hbel'
        clear hrow' hbel'
        go_wp2_with fail
        have q1 := (hrow (4) (by omega)).1
        have q2 := (hrow (4) (by omega)).2
        have q3 := (hrow (3) (by omega)).1
        have q4 := (hrow (3) (by omega)).2
        refine region_mix [(false, 0), (false, 1), (false, 2), (false, 3), (false, 4), (false, 5), (false, 6), (false, 7), (false, 8), (false, 9), (false, 10), (false, 11), (true, 12), (false, 13)] (fun _ => True) (by kernel_rfl) (by kernel_rfl) trivial ?_
        simp only [planOps, List.map_cons, List.map_nil, List.getD_cons_zero, List.getD_cons_succ, List.length_cons, List.length_nil, List.drop_succ_cons, List.drop_zero]
        refine mix_seg (seg := [_, _, _, _, _, _, _, _, _, _, _, _]) rfl trivial ?_
        intro ι hι F hF
        repeat (first | (go_big_quiet_step (fail)))
        refine wpQuiet_nil ?_
        clear hF hι F
        refine mix_eff (fun K hK => ?_)
        go_wp2
        refine mix_on hK trivial ?_
        clear hK K
        refine mix_seg (seg := [_]) (rest := []) rfl trivial ?_
        intro ι hι F hF
        repeat (first | (go_big_quiet_step (fail)))
        refine wpQuiet_nil ?_
        clear hF hι F
        show wpList _ _ _ _ _ _
        go_wp2
        refine NoPanic.normal ?_
        generalize hw : ((w1.setCell ⟨g, 4, none⟩ (.int .u8 (D2 : Int))).setCell ⟨g, 3, none⟩ (.int .u8 (D3 : Int))).drew = w2
        have hrow' : RowB w2 g N (upd (upd (upd (upd fk 6 D0) 5 D1) (4) D2) (3) D3) := by rw [← hw]; exact (hrow.set (4) D2 (by omega)).set (3) D3 (by omega)
        have hbel' : Below g w w2 := by rw [← hw]; exact ((hbel.setCell (p := ⟨g, (4), none⟩) (Nat.le_refl _) _).setCell (p := ⟨g, (3), none⟩) (Nat.le_refl _) _).drew
        clear q1 q2 q3 q4 hw hrow hbel
        have hrow := hrow'
        have hbel := hbel'
        clear hrow' hbel'
        go_wp2_with fail
        have q1 := (hrow (2) (by omega)).1
        have q2 := (hrow (2) (by omega)).2
        have q3 := (hrow (1) (by omega)).1
        have q4 := (hrow (1) (by omega)).2
        refine region_mix [(false, 0), (false, 1), (false, 2), (false, 3), (false, 4), (false, 5), (false, 6), (false, 7), (false, 8), (false, 9), (false, 10), (false, 11), (true, 12), (false, 13)] (fun _ => True) (by kernel_rfl) (by kernel_rfl) trivial ?_
        simp only [planOps, List.map_cons, List.map_nil, List.getD_cons_zero, List.getD_cons_succ, List.length_cons, List.length_nil, List.drop_succ_cons, List.drop_zero]
        refine mix_seg (seg := [_, _, _, _, _, _, _, _, _, _, _, _]) rfl trivial ?_
        intro ι hι F hF
        repeat (first | (go_big_quiet_step (fail)))
        refine wpQuiet_nil ?_
        clear hF hι F
        refine mix_eff (fun K hK => ?_)
        go_wp2
        refine mix_on hK trivial ?_
        clear hK K
        refine mix_seg (seg := [_]) (rest := []) rfl trivial ?_
        intro ι hι F hF
        repeat (first | (go_big_quiet_step (fail)))
        refine wpQuiet_nil ?_
        clear hF hι F
        show wpList _ _ _ _ _ _
        go_wp2
        refine NoPanic.normal ?_
        generalize hw : ((w2.setCell ⟨g, 2, none⟩ (.int .u8 (D4 : Int))).setCell ⟨g, 1, none⟩ (.int .u8 (D5 : Int))).drew = w3
        have hrow' : RowB w3 g N (upd (upd (upd (upd (upd (upd fk 6 D0) 5 D1) 4 D2) 3 D3) (2) D4) (1) D5) := by rw [← hw]; exact (hrow.set (2) D4 (by omega)).set (1) D5 (by omega)
        have hbel' : Below g w w3 := by rw [← hw]; exact ((hbel.setCell (p := ⟨g, (2), none⟩) (Nat.le_refl _) _).setCell (p := ⟨g, (1), none⟩) (Nat.le_refl _) _).drew
        clear q1 q2 q3 q4 hw hrow hbel
        have hrow := hrow'
        have hbel := hbel'
        clear hrow' hbel'
        have z1 := (hrow 0 (by omega)).1
        have z2 := (hrow 0 (by omega)).2
        go_wp2_with fail
        go_end0
        have hM' := HM.out
        have hd : ∀ t, dg u (8 * k + t) = 48 + X / 10 ^ t % 10 := fun t => by unfold dg; rw [Nat.pow_add, ← Nat.div_div_eq_div_mul, HX.out]
        refine ⟨rfl, ?_, hbel.setCell (p := ⟨g, 0, none⟩) (Nat.le_refl _) _⟩
        have h2 := hrow.set 0 (48 + X / 10000 / 100) (by omega)
        rw [show ((48 + X / 10000 / 100 : Nat) : Int) = 48 + (X : Int) / 10000 / 100 by omega] at h2
        refine h2.congr fun j hj => ?_
        unfold upd
        by_cases h0 : j = 0
        · rw [if_pos h0, if_pos (by omega), show n - 1 - j = 8 * k + 6 by omega, hd 6]
          simp only [Nat.reducePow]
          omega
        rw [if_neg h0]
        by_cases h1 : j = 1
        · rw [if_pos h1, if_pos (by omega), show n - 1 - j = 8 * k + 5 by omega, hd 5, E5.out]
          simp only [Nat.reducePow]
          omega
        rw [if_neg h1]
        by_cases h2 : j = 2
        · rw [if_pos h2, if_pos (by omega), show n - 1 - j = 8 * k + 4 by omega, hd 4, E4.out]
          simp only [Nat.reducePow]
          omega
        rw [if_neg h2]
        by_cases h3 : j = 3
        · rw [if_pos h3, if_pos (by omega), show n - 1 - j = 8 * k + 3 by omega, hd 3, E3.out]
          simp only [Nat.reducePow]
          omega
        rw [if_neg h3]
        by_cases h4 : j = 4
        · rw [if_pos h4, if_pos (by omega), show n - 1 - j = 8 * k + 2 by omega, hd 2, E2.out]
          simp only [Nat.reducePow]
          omega
        rw [if_neg h4]
        by_cases h5 : j = 5
        · rw [if_pos h5, if_pos (by omega), show n - 1 - j = 8 * k + 1 by omega, hd 1, E1.out]
          simp only [Nat.reducePow]
          omega
        rw [if_neg h5]
        by_cases h6 : j = 6
        · rw [if_pos h6, if_pos (by omega), show n - 1 - j = 8 * k + 0 by omega, hd 0, E0.out]
          simp only [Nat.reducePow]
          omega
        rw [if_neg h6]
        rw [FK.out]
        show (if 7 ≤ j ∧ j < n then dg u (n - 1 - j) else f j) = _
        by_cases c : j < n
        · rw [if_pos c, if_pos ⟨by omega, c⟩]
        · rw [if_neg c, if_neg (by omega)]
end Go.Proofs.YtkodhaapllmdhaaDoor
