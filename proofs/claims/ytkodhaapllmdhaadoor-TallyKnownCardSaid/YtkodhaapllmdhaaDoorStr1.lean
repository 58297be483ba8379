/- prescale and uscale. -/
import Derived.Test.YtkodhaapllmdhaaDoorStr0
import Derived.Test.YtkodhaapllmdhaaDoorMix
namespace Go.Proofs.YtkodhaapllmdhaaDoor
open Go.RowKit
theorem prescale_is (B : Nat) (e p lp : Int) (i : Nat) (w : World) (hT : Tabs w) (a0 a1 a2 : Value) (hB : w.heap[B]? = some (.cells #[a0, a1, a2] 100 (0, 0))) (hi : p + 348 = (i : Int)) (hi2 : i < 696) (he1 : -5000 ≤ e) (he2 : e ≤ 5000) (hl1 : -5000 ≤ lp) (hl2 : lp ≤ 5000)
    (hBu : B ≠ 3) :
    Calls Tryd.prog 77 #[.pointer (some ⟨B, 0, none⟩), .int .i64 e, .int .i64 p, .int .i64 lp] w fun r w' => r = .returned (.tuple #[]) ∧ w' = ((w.setCell ⟨B, 0, none⟩ (.int .u64 (pwHi i : Int))).setCell ⟨B, 1, none⟩ (.int .u64 (pwLo i : Int))).setCell ⟨B, 2, none⟩ (.int .i64 (-(e + lp + 3))) := by
  have h1 := hT.hi i hi2
  have h2 := hT.lo i hi2
  have hp : p = (i : Int) - 348 := by omega
  subst hp
  have c0 : w.cell? ⟨B, 0, none⟩ = some a0 := cell_of_row w B 0 _ _ _ hB
  have c1 : w.cell? ⟨B, 1, none⟩ = some a1 := cell_of_row w B 1 _ _ _ hB
  have c2 : w.cell? ⟨B, 2, none⟩ = some a2 := cell_of_row w B 2 _ _ _ hB
  have f0 : w.frozen? ⟨B, 0, none⟩ = false := frozen_of_row w B 0 _ _ hB
  have f1 : w.frozen? ⟨B, 1, none⟩ = false := frozen_of_row w B 1 _ _ hB
  have f2 : w.frozen? ⟨B, 2, none⟩ = false := frozen_of_row w B 2 _ _ hB
  have hne : ¬ 3 = B := fun h => hBu h.symm
  have w1 : wrap64 ((i : Int) - 348 - -348) = (i : Int) := by unfold wrap64; omega
  have w2 : wrap64 (e + lp) = e + lp := by unfold wrap64; omega
  have w3 : wrap64 (e + lp + 3) = e + lp + 3 := by unfold wrap64; omega
  have w4 : wrap64 (-(e + lp + 3)) = -(e + lp + 3) := by unfold wrap64; omega
  have hd : decide ((i : Int) < 696) = true := decide_eq_true (by omega)
  clear hT hB hi
  generalize pwHi i = H at *
  generalize pwLo i = L at *
  go_enter Tryd.func77, Tryd.ntmps77
  go_wp2_with fail
  go_end0
  exact ⟨rfl, rfl⟩
/-- what uscale answers -/
def usc (x hi lo s : Nat) : Nat :=
  if x * hi / 2 ^ 64 / 2 ^ s * 2 ^ s % 2 ^ 64 = x * hi / 2 ^ 64 then
    ((x * hi / 2 ^ 64 + 2 ^ 64 - (decide (x * hi % 2 ^ 64 < x * lo / 2 ^ 64)).toNat) % 2 ^ 64 / 2 ^ s) ||| (decide (1 < (x * hi % 2 ^ 64 + 2 ^ 64 - x * lo / 2 ^ 64) % 2 ^ 64)).toNat
  else (x * hi / 2 ^ 64 / 2 ^ s) ||| 1
theorem shl_back (h s : Nat) : IntKind.u64.wrap ((h : Int) / 2 ^ s * 2 ^ s) = ((h / 2 ^ s * 2 ^ s % 2 ^ 64 : Nat) : Int) := by
  have e : (2 : Int) ^ s = ((2 ^ s : Nat) : Int) := by rw [Int.natCast_pow]; rfl
  rw [IntKind.wrap_u64, e, ← Int.natCast_ediv, ← Int.natCast_mul]
  generalize h / 2 ^ s * 2 ^ s = y
  omega
set_option maxHeartbeats 1600000 in
theorem uscale_is (B x hi lo s : Nat) (w : World) (hB : w.heap[B]? = some (.cells #[.int .u64 (hi : Int), .int .u64 (lo : Int), .int .i64 (s : Int)] 100 (0, 0))) (hx : x < 2 ^ 64) (hh : hi < 2 ^ 64) (hl : lo < 2 ^ 64) (hs : s < 64) :
    Calls Tryd.prog 79 #[.int .u64 (x : Int), .pointer (some ⟨B, 0, none⟩)] w fun r w' => r = .returned (.int .u64 (usc x hi lo s : Int)) ∧ Below w.heap.size w w' := by
  have c0 : w.cell? ⟨B, 0, none⟩ = some (.int .u64 (hi : Int)) := cell_of_row w B 0 _ _ _ hB
  have c1 : w.cell? ⟨B, 1, none⟩ = some (.int .u64 (lo : Int)) := cell_of_row w B 1 _ _ _ hB
  have c2 : w.cell? ⟨B, 2, none⟩ = some (.int .i64 (s : Int)) := cell_of_row w B 2 _ _ _ hB
  have m1 := fun w => mul64_is x hi hx hh w
  have m2 := fun w => mul64_is x lo hx hl w
  have hand : bits .and .i64 (s : Int) 63 = (s : Int) := by
    have : ∀ s : Nat, s < 64 → bits .and .i64 (s : Int) 63 = (s : Int) := by decide +kernel
    exact this s hs
  have hh1 : x * hi / 2 ^ 64 < 2 ^ 64 := by
    have := Nat.mul_lt_mul'' hx hh
    omega
  have hm1 : x * hi % 2 ^ 64 < 2 ^ 64 := Nat.mod_lt _ (by decide)
  have hh2 : x * lo / 2 ^ 64 < 2 ^ 64 := by
    have := Nat.mul_lt_mul'' hx hl
    omega
  unfold usc
  generalize x * hi / 2 ^ 64 = h at *
  generalize x * hi % 2 ^ 64 = mid at *
  generalize x * lo / 2 ^ 64 = mid2 at *
  generalize x * lo % 2 ^ 64 = lw at *
  have M1 := Lib.hid m1
  have M2 := Lib.hid m2
  clear m1 m2 hB hx hh hl
  have hsb := shl_back h s
  have hq : h / 2 ^ s < 2 ^ 64 := Nat.lt_of_le_of_lt (Nat.div_le_self _ _) hh1
  have hqi : ((h : Int) / 2 ^ s) = ((h / 2 ^ s : Nat) : Int) := by rw [Int.natCast_ediv, Int.natCast_pow]; rfl
  by_cases hc : h / 2 ^ s * 2 ^ s % 2 ^ 64 = h
  · rw [if_pos hc]
    have d1 : (IntKind.u64.wrap ((h : Int) / 2 ^ s * 2 ^ s) != (h : Int)) = false := by rw [hsb, hc, bne_eq_false_iff_eq]
    have B1 := fun w => bool2_u64 (decide (mid < mid2)) w
    have w1 : IntKind.u64.wrap ((h : Int) - ((decide (mid < mid2)).toNat : Int)) = (((h + 2 ^ 64 - (decide (mid < mid2)).toNat) % 2 ^ 64 : Nat) : Int) := by
      have : (decide (mid < mid2)).toNat ≤ 1 := Bool.toNat_le _
      rw [IntKind.wrap_u64]; omega
    have w2 : IntKind.u64.wrap ((mid : Int) - (mid2 : Int)) = (((mid + 2 ^ 64 - mid2) % 2 ^ 64 : Nat) : Int) := by
      rw [IntKind.wrap_u64]; omega
    have hh3 : (h + 2 ^ 64 - (decide (mid < mid2)).toNat) % 2 ^ 64 < 2 ^ 64 := Nat.mod_lt _ (by decide)
    generalize (h + 2 ^ 64 - (decide (mid < mid2)).toNat) % 2 ^ 64 = h' at *
    generalize (mid + 2 ^ 64 - mid2) % 2 ^ 64 = dm at *
    generalize hd1 : decide (mid < mid2) = b1 at *
    generalize hb1 : b1.toNat = n1 at *
    have HB1 := Lib.hid B1
    clear B1 hb1
    have hqi' : ((h' : Int) / 2 ^ s) = ((h' / 2 ^ s : Nat) : Int) := by rw [Int.natCast_ediv, Int.natCast_pow]; rfl
    have hq' : h' / 2 ^ s < 2 ^ 64 := Nat.lt_of_le_of_lt (Nat.div_le_self _ _) hh3
    have hr : bits .or .u64 ((h' : Int) / 2 ^ s) ((decide (1 < dm)).toNat : Int) = ((h' / 2 ^ s ||| (decide (1 < dm)).toNat : Nat) : Int) := by
      rw [hqi']
      have : (decide (1 < dm)).toNat ≤ 1 := Bool.toNat_le _
      exact u64_or_nat (h' / 2 ^ s) _ (by omega) (by omega)
    have B2 := fun w => bool2_u64 (decide (1 < dm)) w
    generalize hd2 : decide (1 < dm) = b2 at *
    have hd2i : decide ((1 : Int) < (dm : Int)) = b2 := by rw [← hd2]; exact decide_eq_decide.2 (by omega)
    have HR := Lib.hid hr
    have HB2 := Lib.hid B2
    clear hr hsb hqi hq hc hqi' hq' B2
    go_enter Tryd.func79, Tryd.ntmps79
    go_wp2_with fail
    refine (M1.out _).mono ?_
    rintro e w' ⟨rfl, rfl⟩
    go_wp2_with fail
    refine (M2.out _).mono ?_
    rintro e w' ⟨rfl, rfl⟩
    go_wp2_with fail
    refine (HB1.out _).mono ?_
    rintro e w' ⟨rfl, rfl⟩
    go_wp2_with fail
    refine region_fam (by kernel_rfl) (by kernel_rfl) ?_
    intro ι hι F' hF hX
    repeat (go_big_quiet_step (first
        | (go_at_call 98; exact fam_call hF hX ((HB2.out _).mono fun _ _ ⟨he, hw⟩ => ⟨he, hw ▸ Below.refl _ _⟩))))
    refine wpQuiet_nil ?_
    rintro _ ⟨n, rfl⟩
    have HB := hF n
    generalize F' n = W2 at *
    clear hF hX n F' hι
    go_wp2_with fail
    go_ret
    exact ⟨by rw [← HR.out]; rfl, HB⟩
  · rw [if_neg hc]
    have d1 : (IntKind.u64.wrap ((h : Int) / 2 ^ s * 2 ^ s) != (h : Int)) = true := by rw [hsb, bne_iff_ne]; exact fun e => hc (by exact_mod_cast e)
    have hr : bits .or .u64 ((h : Int) / 2 ^ s) 1 = ((h / 2 ^ s ||| 1 : Nat) : Int) := by
      rw [hqi]
      exact u64_or_nat (h / 2 ^ s) 1 (by omega) (by decide)
    have HR := Lib.hid hr
    clear hr hsb hqi hq hc
    go_enter Tryd.func79, Tryd.ntmps79
    go_wp2_with fail
    refine (M1.out _).mono ?_
    rintro e w' ⟨rfl, rfl⟩
    go_wp2_with fail
    go_ret
    exact ⟨by rw [← HR.out]; rfl, Below.refl _ _⟩
end Go.Proofs.YtkodhaapllmdhaaDoor
