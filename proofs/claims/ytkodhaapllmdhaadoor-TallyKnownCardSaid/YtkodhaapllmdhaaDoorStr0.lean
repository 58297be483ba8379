/- strconv's small functions on numbers: what they answer, as plain arithmetic. -/
import Derived.Test.YtkodhaapllmdhaaDoorTal0
import Derived.Test.YtkodhaapllmdhaaDoorStrL
import GoSem.PinnedTables
import Derived.Lib.BitFns
namespace Go.Proofs.YtkodhaapllmdhaaDoor
open Go.RowKit
/-- the row of powers of ten: the upper and the lower word -/
def pwHi (i : Nat) : Nat := (Go.Pinned.pow10Rows.getD i (0, 0)).1
def pwLo (i : Nat) : Nat := (Go.Pinned.pow10Rows.getD i (0, 0)).2
/-- what the listed tables of strconv hold -/
structure Tabs (W : World) : Prop where
  hi : ∀ i, i < 696 → W.cell? ⟨3, i * 2, none⟩ = some (.int .u64 (pwHi i : Int))
  lo : ∀ i, i < 696 → W.cell? ⟨3, i * 2 + 1, none⟩ = some (.int .u64 (pwLo i : Int))
  u : ∀ i, i < 20 → W.cell? ⟨2, i, none⟩ = some (.int .u64 ((10 ^ i : Nat) : Int))
theorem Tabs.below {W W' : World} (h : Tabs W) (hb : Below W.heap.size W W') : Tabs W' :=
  ⟨fun i hi => (hb.cell (World.block_lt_of_cell? _ _ (h.hi i hi))).trans (h.hi i hi), fun i hi => (hb.cell (World.block_lt_of_cell? _ _ (h.lo i hi))).trans (h.lo i hi), fun i hi => (hb.cell (World.block_lt_of_cell? _ _ (h.u i hi))).trans (h.u i hi)⟩
theorem pw_bound : Go.Pinned.pow10Rows.all (fun x => decide (x.1 < 2 ^ 64) && decide (x.2 < 2 ^ 64)) = true := by decide +kernel
theorem pw_lt (i : Nat) : pwHi i < 2 ^ 64 ∧ pwLo i < 2 ^ 64 := by
  have h := List.all_eq_true.1 pw_bound
  unfold pwHi pwLo
  rw [List.getD_eq_getElem?_getD]
  cases hx : Go.Pinned.pow10Rows[i]? with
  | none => exact ⟨by decide, by decide⟩
  | some x =>
    have := h x (List.mem_of_getElem? hx)
    simpa using this
theorem mul64_is (x y : Nat) (hx : x < 2 ^ 64) (hy : y < 2 ^ 64) (w : World) :
    Calls Tryd.prog 97 #[.int .u64 (x : Int), .int .u64 (y : Int)] w fun e w' => e = .returned (.tuple #[.int .u64 ((x * y / 2 ^ 64 : Nat) : Int), .int .u64 ((x * y % 2 ^ 64 : Nat) : Int)]) ∧ w = w' :=
  (Any.bits_Mul64 Tryd.mul64L x y hx hy w).mono fun _ _ ⟨he, hw⟩ => ⟨he, hw.symm⟩
theorem len64_is (x : Nat) (hx : x < 2 ^ 64) (w : World) :
    Calls Tryd.prog 53 #[.int .u64 (x : Int)] w fun e w' => e = .returned (.int .i64 (Lib.bitLen x : Int)) ∧ w = w' :=
  (Any.bits_Len64 Tryd.len64L x w (by omega) (by omega)).mono fun _ _ ⟨he, hw⟩ => ⟨he, hw.symm⟩
theorem log10_is (x : Int) (h1 : -5000 ≤ x) (h2 : x ≤ 5000) (w : World) :
    Calls Tryd.prog 62 #[.int .i64 x] w fun e w' => e = .returned (.int .i64 (x * 78913 / 262144)) ∧ w = w' := by
  have w1 : wrap64 (x * 78913) = x * 78913 := by unfold wrap64; omega
  have w2 : wrap64 (x * 78913 / 262144) = x * 78913 / 262144 := by unfold wrap64; omega
  go_enter Tryd.func62, Tryd.ntmps62
  go_wp2_with fail
  go_ret
  exact ⟨rfl, rfl⟩
theorem log2_is (x : Int) (h1 : -5000 ≤ x) (h2 : x ≤ 5000) (w : World) :
    Calls Tryd.prog 78 #[.int .i64 x] w fun e w' => e = .returned (.int .i64 (x * 108853 / 32768)) ∧ w = w' := by
  have w1 : wrap64 (x * 108853) = x * 108853 := by unfold wrap64; omega
  have w2 : wrap64 (x * 108853 / 32768) = x * 108853 / 32768 := by unfold wrap64; omega
  go_enter Tryd.func78, Tryd.ntmps78
  go_wp2_with fail
  go_ret
  exact ⟨rfl, rfl⟩
theorem skewed_is (x : Int) (h1 : -5000 ≤ x) (h2 : x ≤ 5000) (w : World) :
    Calls Tryd.prog 76 #[.int .i64 x] w fun e w' => e = .returned (.int .i64 ((x * 631305 - 261663) / 2097152)) ∧ w = w' := by
  have w1 : wrap64 (x * 631305) = x * 631305 := by unfold wrap64; omega
  have w2 : wrap64 (x * 631305 - 261663) = x * 631305 - 261663 := by unfold wrap64; omega
  have w3 : wrap64 ((x * 631305 - 261663) / 2097152) = (x * 631305 - 261663) / 2097152 := by unfold wrap64; omega
  go_enter Tryd.func76, Tryd.ntmps76
  go_wp2_with fail
  go_ret
  exact ⟨rfl, rfl⟩
theorem bool2_int (b : Bool) (w : World) :
    Calls Tryd.prog 85 #[.bool b] w fun e w' => e = .returned (.int .i64 (b.toNat : Int)) ∧ w = w' := by
  cases b
  · go_enter Tryd.func85, Tryd.ntmps85
    go_wp2_with fail
    go_ret
    exact ⟨rfl, rfl⟩
  · go_enter Tryd.func85, Tryd.ntmps85
    go_wp2_with fail
    go_ret
    exact ⟨rfl, rfl⟩
theorem bool2_u64 (b : Bool) (w : World) :
    Calls Tryd.prog 98 #[.bool b] w fun e w' => e = .returned (.int .u64 (b.toNat : Int)) ∧ w = w' := by
  cases b
  · go_enter Tryd.func98, Tryd.ntmps98
    go_wp2_with fail
    go_ret
    exact ⟨rfl, rfl⟩
  · go_enter Tryd.func98, Tryd.ntmps98
    go_wp2_with fail
    go_ret
    exact ⟨rfl, rfl⟩
theorem nudge_is (u v : Nat) (d : Int) (hv : IntKind.u64.wrap ((u : Int) + IntKind.u64.wrap d) = (v : Int)) (w : World) :
    Calls Tryd.prog 80 #[.int .u64 (u : Int), .int .i64 d] w fun e w' => e = .returned (.int .u64 (v : Int)) ∧ w = w' := by
  have HV := Lib.hid hv
  clear hv
  go_enter Tryd.func80, Tryd.ntmps80
  go_wp2_with fail
  go_ret
  exact ⟨by rw [← HV.out]; rfl, rfl⟩
theorem ceil_is (u : Nat) (hu : u < 2 ^ 64 - 3) (w : World) :
    Calls Tryd.prog 81 #[.int .u64 (u : Int)] w fun e w' => e = .returned (.int .u64 (((u + 3) / 4 : Nat) : Int)) ∧ w = w' := by
  go_enter Tryd.func81, Tryd.ntmps81
  go_wp2_with fail
  go_ret
  exact ⟨by congr 2, rfl⟩
theorem floor_is (u : Nat) (hu : u < 2 ^ 64) (w : World) :
    Calls Tryd.prog 82 #[.int .u64 (u : Int)] w fun e w' => e = .returned (.int .u64 ((u / 4 : Nat) : Int)) ∧ w = w' := by
  go_enter Tryd.func82, Tryd.ntmps82
  go_wp2_with fail
  go_ret
  exact ⟨by congr 2, rfl⟩
theorem round_is (u : Nat) (hu : u < 2 ^ 64 - 3) (w : World) :
    Calls Tryd.prog 83 #[.int .u64 (u : Int)] w fun e w' => e = .returned (.int .u64 (((u + 1 + u / 4 % 2) / 4 : Nat) : Int)) ∧ w = w' := by
  have hb : bits .and .u64 ((u : Int) / 4) 1 = ((u / 4 % 2 : Nat) : Int) := by
    rw [show ((u : Int) / 4) = ((u / 4 : Nat) : Int) by omega]
    have := u64_and ((u / 4 : Nat) : Int) 1 (by omega) (by omega) (by omega) (by omega)
    rw [this, Int.toNat_natCast]
    exact congrArg Int.ofNat (Nat.and_two_pow_sub_one_eq_mod (u / 4) 1)
  have hr : (u + 1 + u / 4 % 2) / 4 = (u + 1 + u / 4 % 2) / 4 := rfl
  generalize hq : u / 4 % 2 = q at *
  have hq2 : q < 2 := by omega
  clear hq hr
  go_enter Tryd.func83, Tryd.ntmps83
  go_wp2_with fail
  go_ret
  exact ⟨by congr 2, rfl⟩
end Go.Proofs.YtkodhaapllmdhaaDoor
