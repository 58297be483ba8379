import Derived.Test.YtlbaecjmfgahgaaDoorOct0
import Derived.Test.YtlbaecjmfgahgaaDoorPop
import Derived.Deep.QuietTactic
import Derived.BigQuiet
import Derived.Shelf.Spec.TrailingZeros
namespace Go.Proofs.YtlbaecjmfgahgaaDoor
open Go.RowKit Sets
theorem band_c (x M : Nat) (hx : x < 18446744073709551616) (hM : M < 18446744073709551616) (a m : Int) (ha : a = x) (hm : m = M) : bits .and .u64 a m = ((x &&& M : Nat) : Int) := by
  rw [ha, hm, bits_and_u64_nat _ _ hx hM]
theorem bs_lt (f : Nat → Nat) (h : ∀ b, b < 256 → f b < 256) : ∀ n x, bs f n x < 256 ^ n
  | 0, _ => by simp [bs]
  | n + 1, x => by
    have := bs_lt f h n (x / 256)
    have := h (x % 256) (by omega)
    simp only [bs]; rw [Nat.pow_succ]; omega
theorem r1 (x : Nat) (hx : x < 18446744073709551616) : IntKind.u64.wrap (bits .and .u64 ((x : Int) / 2) 6148914691236517205 + bits .and .u64 (x : Int) 6148914691236517205) = (bs g1 8 x : Int) := by
  rw [band_c (x / 2) 6148914691236517205 (by omega) (by decide) ((x : Int) / 2) 6148914691236517205 (by omega) (by decide), band_c x 6148914691236517205 hx (by decide) x 6148914691236517205 rfl (by decide), IntKind.wrap_u64, ← step1]
  have := bs_lt g1 g1_lt 8 x
  rw [← step1] at this
  omega
theorem r2 (x : Nat) : IntKind.u64.wrap (bits .and .u64 ((bs g1 8 x : Int) / 4) 3689348814741910323 + bits .and .u64 (bs g1 8 x : Int) 3689348814741910323) = (bs (fun b => g2 (g1 b)) 8 x : Int) := by
  have h1 := bs_lt g1 g1_lt 8 x
  have h2 := bs_lt (fun b => g2 (g1 b)) g2_lt 8 x
  rw [← bs_bs g2 g1 g1_lt, ← step2] at *
  generalize bs g1 8 x = y at *
  rw [band_c (y / 4) 3689348814741910323 (by omega) (by decide) ((y : Int) / 4) 3689348814741910323 (by omega) (by decide), band_c y 3689348814741910323 (by omega) (by decide) y 3689348814741910323 rfl (by decide), IntKind.wrap_u64]
  omega
theorem bs_lin (F B A c : Nat) (h1 : B * 255 ≤ A) (h2 : F ≤ c) : (F + 256 * B) * 255 ≤ 256 * A + 255 * c := by
  rw [Nat.add_mul, Nat.mul_assoc, Nat.add_comm (256 * A), Nat.mul_comm F]
  exact Nat.add_le_add (Nat.mul_le_mul_left 255 h2) (Nat.mul_le_mul_left 256 h1)
theorem bs_le (f : Nat → Nat) (c : Nat) (hc : ∀ b, b < 256 → f b ≤ c) : ∀ n x, bs f n x * 255 ≤ c * (256 ^ n - 1)
  | 0, _ => by simp [bs]
  | n + 1, x => by
    have h1 := bs_le f c hc n (x / 256)
    have h2 := hc (x % 256) (by omega)
    simp only [bs]
    have h3 : 0 < 256 ^ n := Nat.pow_pos (by decide)
    rw [Nat.pow_succ]
    have e : c * (256 ^ n * 256 - 1) = 256 * (c * (256 ^ n - 1)) + 255 * c := by
      obtain ⟨m, hm⟩ : ∃ m, 256 ^ n = m + 1 := ⟨256 ^ n - 1, by omega⟩
      rw [hm, show (m + 1) * 256 - 1 = 256 * m + 255 from by omega, Nat.mul_add, show m + 1 - 1 = m from by omega, Nat.mul_left_comm]
      omega
    rw [e]
    exact bs_lin _ _ _ _ h1 h2
theorem bs_le8 (f : Nat → Nat) (c : Nat) (hc : ∀ b, b < 256 → f b ≤ c) (x : Nat) : bs f 8 x * 255 ≤ c * 18446744073709551615 := bs_le f c hc 8 x
theorem g21_le : ∀ b, b < 256 → g2 (g1 b) ≤ 68 := by decide +kernel
theorem r3 (x : Nat) : bits .and .u64 (IntKind.u64.wrap ((bs (fun b => g2 (g1 b)) 8 x : Int) / 16 + (bs (fun b => g2 (g1 b)) 8 x : Int))) 1085102592571150095 = (bs (pc 8) 8 x : Int) := by
  have h2 := bs_lt (fun b => g2 (g1 b)) g2_lt 8 x
  have h3 := step3 8 x
  rw [← and_rep 15 (by decide), rep15] at h3
  have h4 := bs_le8 _ 68 g21_le x
  generalize bs (fun b => g2 (g1 b)) 8 x = y at *
  have e : IntKind.u64.wrap ((y : Int) / 16 + (y : Int)) = ((y / 16 + y : Nat) : Int) := by rw [IntKind.wrap_u64]; omega
  rw [band_c (y / 16 + y) 1085102592571150095 (by omega) (by decide) _ _ e (by decide), h3]
theorem w127 (a : Nat) : wrap64 (a : Int) % 128 = ((a % 128 : Nat) : Int) := by
  unfold wrap64
  omega
end Go.Proofs.YtlbaecjmfgahgaaDoor
