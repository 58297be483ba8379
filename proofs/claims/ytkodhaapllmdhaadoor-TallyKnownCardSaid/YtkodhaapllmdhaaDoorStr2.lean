/- shortFloat of a double that is no power of two and no subnormal. -/
import Derived.Test.YtkodhaapllmdhaaDoorStr1
import Derived.Sort.Row
namespace Go.Proofs.YtkodhaapllmdhaaDoor
open Go.RowKit
theorem scaler_set (w : World) (B : Nat) (a0 a1 a2 u0 u1 u2 : Value) (t : TypeId) (fr : Nat × Nat) (h : w.heap[B]? = some (.cells #[a0, a1, a2] t fr)) :
    (((w.setCell ⟨B, 0, none⟩ u0).setCell ⟨B, 1, none⟩ u1).setCell ⟨B, 2, none⟩ u2).heap[B]? = some (.cells #[u0, u1, u2] t fr) := by
  have set_at : ∀ (w : World) (k : Nat) (u : Value) (cs : Array Value), w.heap[B]? = some (.cells cs t fr) → (w.setCell ⟨B, k, none⟩ u).heap[B]? = some (.cells (cs.setIfInBounds k u) t fr) := by
    intro w k u cs h
    rw [Go.Sort.setCell_eq]
    show (w.heap.modify B _)[B]? = _
    rw [Array.getElem?_modify, if_pos rfl, h]
    rfl
  exact set_at _ 2 u2 _ (set_at _ 1 u1 _ (set_at _ 0 u0 _ h))
theorem scaler_below {A : Nat} {w0 w : World} (h : Below A w0 w) (B : Nat) (hA : A ≤ B) (u0 u1 u2 : Value) : Below A w0 (((w.setCell ⟨B, 0, none⟩ u0).setCell ⟨B, 1, none⟩ u1).setCell ⟨B, 2, none⟩ u2) :=
  ((h.setCell (p := ⟨B, 0, none⟩) hA u0).setCell (p := ⟨B, 1, none⟩) hA u1).setCell (p := ⟨B, 2, none⟩) hA u2
/-- the digits that are told of what lies between lo and hi, and how far they are scaled -/
def sfD (dmin dmax um : Nat) (p : Int) : Nat × Int :=
  if dmin ≤ dmax / 10 * 10 then (dmax / 10, -(p - 1)) else if dmin < dmax then ((um + 1 + um / 4 % 2) / 4, -p) else (dmin, -p)
theorem and_one_i64 (x : Nat) (_ : x < 2 ^ 62) : bits .and .i64 (x : Int) 1 = ((x % 2 : Nat) : Int) := by
  have key : (BitVec.ofInt 64 (x : Int) &&& BitVec.ofInt 64 1).toNat = x % 2 := by
    have hm : (BitVec.ofInt 64 1).toNat = 2 ^ 1 - 1 := by decide
    rw [BitVec.toNat_and, BitVec.toNat_ofInt, hm, Nat.and_two_pow_sub_one_eq_mod]
    omega
  show IntKind.i64.wrap ((BitVec.ofInt 64 (x : Int) &&& BitVec.ofInt 64 1).toNat : Nat) = _
  rw [key, IntKind.wrap_i64]
  omega
set_option maxHeartbeats 3200000 in
theorem short_norm (m od i s umin umax um dmin dmax : Nat) (e p lp : Int) (w : World) (hT : Tabs w) (hm1 : 2 ^ 63 < m) (hm2 : m + 1024 < 2 ^ 64) (he1 : -1085 ≤ e) (he2 : e ≤ 1000) (hod : m / 2048 % 2 = od)
    (hp : -((e + 11) * 78913 / 262144) = p) (hlp : p * 108853 / 32768 = lp) (hi : p + 348 = (i : Int)) (hi2 : i < 696) (hs : -(e + lp + 3) = (s : Int)) (hs2 : s < 64)
    (h1 : usc (m - 1024) (pwHi i) (pwLo i) s = umin) (h2 : usc (m + 1024) (pwHi i) (pwLo i) s = umax) (h3 : usc m (pwHi i) (pwLo i) s = um) (b1 : umin < 2 ^ 63) (b2 : umax < 2 ^ 63) (b3 : um < 2 ^ 63) (b4 : od ≤ umax) (hdmin : (umin + od + 3) / 4 = dmin) (hdmax : (umax - od) / 4 = dmax) :
    Calls Tryd.prog 67 #[.int .u64 (m : Int), .int .i64 e] w fun r w' => r = .returned (.tuple #[.int .u64 ((sfD dmin dmax um p).1 : Int), .int .i64 (sfD dmin dmax um p).2]) ∧ Below w.heap.size w w' := by
  have hp1 : -5000 ≤ p ∧ p ≤ 5000 := by omega
  have hlp1 : -5000 ≤ lp ∧ lp ≤ 5000 := by omega
  obtain ⟨hi1, lo1⟩ := pw_lt i
  have L10 := fun w => log10_is (e + 11) (by omega) (by omega) w
  rw [show (e + 11) * 78913 / 262144 = -p by omega] at L10
  have L2 := fun w => log2_is p hp1.1 hp1.2 w
  rw [hlp] at L2
  have PS := fun B W hW a0 a1 a2 hB hne => prescale_is B e p lp i W hW a0 a1 a2 hB hi hi2 (by omega) (by omega) hlp1.1 hlp1.2 hne
  rw [hs] at PS
  have U1 := fun B W hB => uscale_is B (m - 1024) (pwHi i) (pwLo i) s W hB (by omega) hi1 lo1 hs2
  have U2 := fun B W hB => uscale_is B (m + 1024) (pwHi i) (pwLo i) s W hB (by omega) hi1 lo1 hs2
  have U3 := fun B W hB => uscale_is B m (pwHi i) (pwLo i) s W hB (by omega) hi1 lo1 hs2
  rw [h1] at U1
  rw [h2] at U2
  rw [h3] at U3
  have e1 : ((m - 1024 : Nat) : Int) = (m : Int) - 1024 := by omega
  have e2 : ((m + 1024 : Nat) : Int) = (m : Int) + 1024 := by omega
  rw [e1] at U1
  rw [e2] at U2
  have w1 : wrap64 (e + 11) = e + 11 := by unfold wrap64; omega
  have ho : bits .and .i64 ((m : Int) / 2048) 1 = (od : Int) := by
    rw [show ((m : Int) / 2048) = ((m / 2048 : Nat) : Int) by omega, ← hod]
    exact and_one_i64 (m / 2048) (by omega)
  have hod1 : od < 2 := by omega
  have w3 : IntKind.u64.wrap ((m : Int) - 1024) = (m : Int) - 1024 := by rw [IntKind.wrap_u64]; omega
  have w4 : IntKind.u64.wrap ((m : Int) + 1024) = (m : Int) + 1024 := by rw [IntKind.wrap_u64]; omega
  have d1 : ((m : Int) == 9223372036854775808) = false := by rw [beq_eq_false_iff_ne]; omega
  have d2 : decide (-1085 ≤ e) = true := decide_eq_true he1
  have HT := Lib.hid hT
  have H10 := Lib.hid L10
  have H2 := Lib.hid L2
  have HP := Lib.hid PS
  have HU1 := Lib.hid U1
  have HU2 := Lib.hid U2
  have HU3 := Lib.hid U3
  clear hT L10 L2 PS U1 U2 U3 h1 h2 h3 hi hi2 hs hs2 hlp hp e1 e2 hi1 lo1
  go_enter Tryd.func67, Tryd.ntmps67
  go_wp2_with fail
  refine (H10.out _).mono ?_
  rintro r w' ⟨rfl, rfl⟩
  go_wp2_with fail
  refine (H2.out _).mono ?_
  rintro r w' ⟨rfl, rfl⟩
  have hB0 : Below w.heap.size w (w.alloc (.cells #[.int .u64 0, .int .u64 0, .int .i64 0] 100)) := (Below.refl _ w).alloc (Nat.le_refl _) _
  have hr0 : (w.alloc (.cells #[.int .u64 0, .int .u64 0, .int .i64 0] 100)).heap[w.heap.size]? = some (.cells #[.int .u64 0, .int .u64 0, .int .i64 0] 100 (0, 0)) := by
    show (w.heap.push _)[w.heap.size]? = _
    simp
  have hT0 := HT.out.below hB0
  have hg3 : w.heap.size ≠ 3 := by
    have := World.block_lt_of_cell? _ _ (HT.out.hi 0 (by decide))
    simp only at this
    omega
  generalize w.alloc (.cells #[.int .u64 0, .int .u64 0, .int .i64 0] 100) = W0 at *
  go_wp2_with fail
  refine (HP.out _ _ hT0 _ _ _ hr0 hg3).mono ?_
  rintro r W1 ⟨rfl, hW1⟩
  have hr1 := scaler_set W0 w.heap.size _ _ _ (.int .u64 (pwHi i : Int)) (.int .u64 (pwLo i : Int)) (.int .i64 (s : Int)) _ _ hr0
  have hB1 := scaler_below hB0 w.heap.size (Nat.le_refl _) (.int .u64 (pwHi i : Int)) (.int .u64 (pwLo i : Int)) (.int .i64 (s : Int))
  rw [← hW1] at hr1 hB1
  have hl1 : w.heap.size < W1.heap.size := (Array.getElem?_eq_some_iff.1 hr1).1
  clear hW1 hT0 hr0 hB0 HP H2 H10 W0
  go_wp2_with fail
  refine (HU1.out _ _ hr1).mono ?_
  rintro r W2 ⟨rfl, hb2⟩
  have hr2 := (hb2.block _ hl1).trans hr1
  have hB2 := hB1.trans (hb2.mono (Nat.le_of_lt hl1))
  have hl2 : w.heap.size < W2.heap.size := (Array.getElem?_eq_some_iff.1 hr2).1
  clear hb2 hr1 hB1 hl1 W1 HU1
  go_wp2_with fail
  refine (nudge_is umin (umin + od) (od : Int) (by rw [IntKind.wrap_u64, IntKind.wrap_u64]; omega) _).mono ?_
  rintro r w' ⟨rfl, rfl⟩
  go_wp2_with fail
  refine (ceil_is (umin + od) (by omega) _).mono ?_
  rintro r w' ⟨rfl, rfl⟩
  rw [hdmin]
  go_wp2_with fail
  refine (HU2.out _ _ hr2).mono ?_
  rintro r W3 ⟨rfl, hb3⟩
  have hr3 := (hb3.block _ hl2).trans hr2
  have hB3 := hB2.trans (hb3.mono (Nat.le_of_lt hl2))
  have hl3 : w.heap.size < W3.heap.size := (Array.getElem?_eq_some_iff.1 hr3).1
  clear hb3 hr2 hB2 hl2 W2 HU2
  go_wp2_with fail
  refine (nudge_is umax (umax - od) (-(od : Int)) (by rw [IntKind.wrap_u64, IntKind.wrap_u64]; omega) _).mono ?_
  rintro r w' ⟨rfl, rfl⟩
  go_wp2_with fail
  refine (floor_is (umax - od) (by omega) _).mono ?_
  rintro r w' ⟨rfl, rfl⟩
  rw [hdmax]
  have hq : dmax < 2 ^ 62 := by omega
  have hq2 : dmin < 2 ^ 62 := by omega
  have w5 : wrap64 (p - 1) = p - 1 := by unfold wrap64; omega
  have w6 : wrap64 (-(p - 1)) = -(p - 1) := by unfold wrap64; omega
  have w7 : wrap64 (-p) = -p := by unfold wrap64; omega
  have t1 : ((dmax : Int)).tdiv 10 = ((dmax / 10 : Nat) : Int) := by rw [Int.tdiv_eq_ediv_of_nonneg (by omega)]; omega
  have hv : sfD dmin dmax um p = (if dmin ≤ dmax / 10 * 10 then (dmax / 10, -(p - 1)) else if dmin < dmax then ((um + 1 + um / 4 % 2) / 4, -p) else (dmin, -p)) := rfl
  have hq3 : dmax / 10 < 2 ^ 60 := by omega
  generalize dmax / 10 = q at *
  have t2 : IntKind.u64.wrap ((q : Int) * 10) = (q : Int) * 10 := by rw [IntKind.wrap_u64]; omega
  by_cases c1 : dmin ≤ q * 10
  · have hd1 : decide ((dmin : Int) ≤ (q : Int) * 10) = true := decide_eq_true (by omega)
    rw [if_pos c1] at hv
    have HV := Lib.hid hv
    clear hv c1
    go_wp2_with fail
    go_ret2
    exact ⟨by rw [HV.out]; rfl, hB3⟩
  · have hd1 : decide ((dmin : Int) ≤ (q : Int) * 10) = false := decide_eq_false (by omega)
    rw [if_neg c1] at hv
    by_cases c2 : dmin < dmax
    · have hd2 : decide (dmin < dmax) = true := decide_eq_true c2
      rw [if_pos c2] at hv
      have HV := Lib.hid hv
      clear hv c1 c2
      go_wp2_with fail
      refine (HU3.out _ _ hr3).mono ?_
      rintro r W4 ⟨rfl, hb4⟩
      have hB4 := hB3.trans (hb4.mono (Nat.le_of_lt hl3))
      clear hb4 hr3 hB3 hl3 W3 HU3
      go_wp2_with fail
      refine (round_is um (by omega) _).mono ?_
      rintro r w' ⟨rfl, rfl⟩
      generalize hrd : (um + 1 + um / 4 % 2) / 4 = rd at *
      have HR := Lib.hid hrd
      clear hrd
      go_wp2_with fail
      go_ret2
      exact ⟨by rw [HV.out]; rfl, hB4⟩
    · have hd2 : decide (dmin < dmax) = false := decide_eq_false c2
      rw [if_neg c2] at hv
      have HV := Lib.hid hv
      clear hv c1 c2
      go_wp2_with fail
      go_ret2
      exact ⟨by rw [HV.out]; rfl, hB3⟩
end Go.Proofs.YtkodhaapllmdhaaDoor
