/- TallyTotal. -/
import Derived.Test.YtkodhaapllmdhaaDoorTal6
namespace Go.Proofs.YtkodhaapllmdhaaDoor
open Go.RowKit Rk Go.Sort
theorem u64_eq (a b : Nat) : ((a : Int) == (b : Int)) = decide (a = b) := by
  by_cases h : a = b
  · subst h; simp
  · rw [decide_eq_false h, beq_eq_false_iff_ne]; omega
/-- Compare, whatever its answer is called -/
theorem compare_as (a b : Nat) (r : Int) (ha : a < 2 ^ 64) (hb : b < 2 ^ 64) (hr : cf a b = r) (w : World) :
    Calls Tryd.prog 13 #[.float .f64 a, .float .f64 b] w fun e w' => e = .returned (.int .i64 r) ∧ w = w' := by subst hr; exact compare_any a b ha hb w
theorem cf_le (a b : Nat) : cf a b ≤ 0 ↔ rk a ≤ rk b := by
  unfold cf; split
  · omega
  · split <;> omega
theorem cf_pos (a b : Nat) : 0 < cf a b ↔ rk b < rk a := by
  unfold cf; split
  · omega
  · split <;> omega
theorem inf_top (a : Nat) (ha : a < 2 ^ 64) : rk a ≤ rk 9218868437227405312 := by
  cases n : nanB a
  · rw [rk_num n, show rk 9218868437227405312 = 2 ^ 63 + 1 + 2047 * 2 ^ 52 by decide +kernel]
    simp only [nanB, decide_eq_false_iff_not] at n
    split <;> omega
  · rw [rk_nan n]; omega
theorem inf_foot (a : Nat) (n : nanB a = false) : rk 18442240474082181120 ≤ rk a := by
  rw [rk_num n, show rk 18442240474082181120 = 2 ^ 63 - 2047 * 2 ^ 52 by decide +kernel]
  simp only [nanB, decide_eq_false_iff_not] at n
  split <;> omega
theorem lt_cf (a b : Nat) (ha : a < 2 ^ 64) (hb : b < 2 ^ 64) (h : (FloatKind.f64.format.order a b == some .lt) = true) : cf a b = -1 := by
  have h' := (lt_is a b ha hb).symm.trans h
  simp only [Bool.and_eq_true, Bool.not_eq_true', decide_eq_true_eq] at h'
  obtain ⟨⟨na, nb⟩, hn⟩ := h'
  have hz : ¬ (a % 2 ^ 63 = 0 ∧ b % 2 ^ 63 = 0) := by
    rintro ⟨h1, h2⟩
    rw [num_zero h1, num_zero h2] at hn
    omega
  unfold cf
  rw [if_pos ((num_lt_rk a b ha hb na nb hz).1 hn)]
set_option maxHeartbeats 3200000 in
set_option maxRecDepth 100000 in
theorem total_any (a b c : Nat) (w : World) (ha : a < 2 ^ 64) (hb : b < 2 ^ 64) (hc : c < 2 ^ 64) (hT : Tabs w) :
    Calls Tryd.prog 7 #[.float .f64 a, .float .f64 b, .float .f64 c] w fun e w' => e = .returned (.bool true) ∧ Below w.heap.size w w' := by
  have hxr : cf a b = -1 ∨ cf a b = 0 ∨ cf a b = 1 := cf_range a b
  have HT := Lib.hid hT
  have HA := Lib.hid ha
  have HB := Lib.hid hb
  have HC := Lib.hid hc
  clear hT ha hb hc
  go_enter Tryd.func7, Tryd.ntmps7
  go_upto_region 1 with fail
  go_cut [39] from 8 (fun v wr => wr = w ∧ v = .bool false)
  case first =>
    have key : ∀ x : Int, Hid (cf a b = x) → Hid (cf b a = -x) := fun x hx => by
      have := hx.out
      exact Lib.hid (by rw [cf_swap, this])
    have C0 := Lib.hid (cf_self a)
    rcases hxr with h | h | h
    · have X := Lib.hid h
      have Y := key (-1) X
      clear h key
      go_wp2_with fail
      refine (compare_as a b (-1) HA.out HB.out X.out _).mono ?_
      rintro e w' ⟨rfl, rfl⟩
      go_wp2_with fail
      refine (compare_as b a (1) HB.out HA.out Y.out _).mono ?_
      rintro e w' ⟨rfl, rfl⟩
      go_wp2_with fail
      refine (compare_as a a 0 HA.out HA.out C0.out _).mono ?_
      rintro e w' ⟨rfl, rfl⟩
      go_wp2_with fail
      refine (compare_as a b (-1) HA.out HB.out X.out _).mono ?_
      rintro e w' ⟨rfl, rfl⟩
      have hy := cf_le b c
      have hz := cf_le a c
      have hx := (cf_le a b).1 (by have := X.out; omega)
      by_cases c1 : cf b c ≤ 0
      · have hz0 : cf a c ≤ 0 := hz.2 (by have := hy.1 c1; omega)
        have YC := Lib.hid (rfl : cf b c = cf b c)
        obtain ⟨y, Y2⟩ : ∃ y, Hid (cf b c = y) := ⟨_, rfl⟩
        obtain ⟨z, Z2⟩ : ∃ z, Hid (cf a c = z) := ⟨_, rfl⟩
        have e1 : decide (y ≤ 0) = true := decide_eq_true (by rw [← Y2.out]; exact c1)
        have e2 : decide (0 < z) = false := decide_eq_false (by rw [← Z2.out]; omega)
        clear hy hz hx c1 hz0 YC
        go_wp2_with fail
        refine (compare_as b c y HB.out HC.out Y2.out _).mono ?_
        rintro e w' ⟨rfl, rfl⟩
        go_wp2_with fail
        refine (compare_as a c z HA.out HC.out Z2.out _).mono ?_
        rintro e w' ⟨rfl, rfl⟩
        go_wp2_with fail
        go_meet
        case rel => exact ⟨rfl, rfl⟩
      · obtain ⟨y, Y2⟩ : ∃ y, Hid (cf b c = y) := ⟨_, rfl⟩
        have e1 : decide (y ≤ 0) = false := decide_eq_false (by rw [← Y2.out]; exact c1)
        clear hy hz hx c1
        go_wp2_with fail
        refine (compare_as b c y HB.out HC.out Y2.out _).mono ?_
        rintro e w' ⟨rfl, rfl⟩
        go_wp2_with fail
        go_meet
        case rel => exact ⟨rfl, rfl⟩
    · have X := Lib.hid h
      have Y := key (0) X
      clear h key
      go_wp2_with fail
      refine (compare_as a b (0) HA.out HB.out X.out _).mono ?_
      rintro e w' ⟨rfl, rfl⟩
      go_wp2_with fail
      refine (compare_as b a (0) HB.out HA.out Y.out _).mono ?_
      rintro e w' ⟨rfl, rfl⟩
      go_wp2_with fail
      refine (compare_as a a 0 HA.out HA.out C0.out _).mono ?_
      rintro e w' ⟨rfl, rfl⟩
      go_wp2_with fail
      refine (compare_as a b (0) HA.out HB.out X.out _).mono ?_
      rintro e w' ⟨rfl, rfl⟩
      have hy := cf_le b c
      have hz := cf_le a c
      have hx := (cf_le a b).1 (by have := X.out; omega)
      by_cases c1 : cf b c ≤ 0
      · have hz0 : cf a c ≤ 0 := hz.2 (by have := hy.1 c1; omega)
        have YC := Lib.hid (rfl : cf b c = cf b c)
        obtain ⟨y, Y2⟩ : ∃ y, Hid (cf b c = y) := ⟨_, rfl⟩
        obtain ⟨z, Z2⟩ : ∃ z, Hid (cf a c = z) := ⟨_, rfl⟩
        have e1 : decide (y ≤ 0) = true := decide_eq_true (by rw [← Y2.out]; exact c1)
        have e2 : decide (0 < z) = false := decide_eq_false (by rw [← Z2.out]; omega)
        clear hy hz hx c1 hz0 YC
        go_wp2_with fail
        refine (compare_as b c y HB.out HC.out Y2.out _).mono ?_
        rintro e w' ⟨rfl, rfl⟩
        go_wp2_with fail
        refine (compare_as a c z HA.out HC.out Z2.out _).mono ?_
        rintro e w' ⟨rfl, rfl⟩
        go_wp2_with fail
        go_meet
        case rel => exact ⟨rfl, rfl⟩
      · obtain ⟨y, Y2⟩ : ∃ y, Hid (cf b c = y) := ⟨_, rfl⟩
        have e1 : decide (y ≤ 0) = false := decide_eq_false (by rw [← Y2.out]; exact c1)
        clear hy hz hx c1
        go_wp2_with fail
        refine (compare_as b c y HB.out HC.out Y2.out _).mono ?_
        rintro e w' ⟨rfl, rfl⟩
        go_wp2_with fail
        go_meet
        case rel => exact ⟨rfl, rfl⟩
    · have X := Lib.hid h
      have Y := key (1) X
      clear h key
      go_wp2_with fail
      refine (compare_as a b (1) HA.out HB.out X.out _).mono ?_
      rintro e w' ⟨rfl, rfl⟩
      go_wp2_with fail
      refine (compare_as b a (-1) HB.out HA.out Y.out _).mono ?_
      rintro e w' ⟨rfl, rfl⟩
      go_wp2_with fail
      refine (compare_as a a 0 HA.out HA.out C0.out _).mono ?_
      rintro e w' ⟨rfl, rfl⟩
      go_wp2_with fail
      refine (compare_as a b (1) HA.out HB.out X.out _).mono ?_
      rintro e w' ⟨rfl, rfl⟩
      go_wp2_with fail
      go_meet
      case rel => exact ⟨rfl, rfl⟩
  case rest =>
    obtain ⟨rfl, rfl⟩ := hcut
    clear hxr
    go_upto_region 3 with fail
    go_cut [71] from 8 (fun v wr => wr = wc ∧ v = .bool false)
    case first =>
      obtain ⟨u, U⟩ : ∃ u, Hid (cf cano a = u) := ⟨_, rfl⟩
      obtain ⟨v, V⟩ : ∃ v, Hid (cf a 9218868437227405312 = v) := ⟨_, rfl⟩
      obtain ⟨z, Z⟩ : ∃ z, Hid (cf a 18442240474082181120 = z) := ⟨_, rfl⟩
      have hu : decide (0 < u) = false := decide_eq_false (by rw [← U.out, cf_pos, show rk cano = 0 by decide +kernel]; omega)
      have hv : decide (0 < v) = false := decide_eq_false (by rw [← V.out, cf_pos]; have := inf_top a HA.out; omega)
      have hne := ne_self a HA.out
      have heq : (FloatKind.f64.format.order a a == some .eq) = !nanB a := by
        have : (FloatKind.f64.format.order a a == some .eq) = !(FloatKind.f64.format.order a a != some .eq) := by unfold bne; rw [Bool.not_not]
        rw [this]; exact congrArg (!·) hne
      have hzz : nanB a = false → decide (z < 0) = false := fun n => decide_eq_false (by
        rw [← Z.out]
        have := inf_foot a n
        have := cf_pos 18442240474082181120 a
        have := cf_swap 18442240474082181120 a
        omega)
      clear hne
      have HL : (FloatKind.f64.format.order a b == some .lt) = true → Hid (cf a b = -1) := fun h => Lib.hid (lt_cf a b HA.out HB.out h)
      generalize hL : (FloatKind.f64.format.order a b == some .lt) = L at *
      cases L
      · clear HL
        cases n : nanB a
        · have hzz' := hzz n
          rw [n, Bool.not_false] at heq
          clear hzz n
          go_wp2_with fail
          refine (nan_is _).mono ?_
          rintro e w' ⟨rfl, rfl⟩
          go_wp2_with fail
          refine (compare_as cano a u (by decide) HA.out U.out _).mono ?_
          rintro e w' ⟨rfl, rfl⟩
          go_wp2_with fail
          refine (inf_pos _).mono ?_
          rintro e w' ⟨rfl, rfl⟩
          go_wp2_with fail
          refine (compare_as a 9218868437227405312 v HA.out (by decide) V.out _).mono ?_
          rintro e w' ⟨rfl, rfl⟩
          go_wp2_with fail
          refine (inf_neg _).mono ?_
          rintro e w' ⟨rfl, rfl⟩
          go_wp2_with fail
          refine (compare_as a 18442240474082181120 z HA.out (by decide) Z.out _).mono ?_
          rintro e w' ⟨rfl, rfl⟩
          go_wp2_with fail
          go_meet
          case rel => exact ⟨rfl, rfl⟩
        · rw [n, Bool.not_true] at heq
          clear hzz n
          go_wp2_with fail
          refine (nan_is _).mono ?_
          rintro e w' ⟨rfl, rfl⟩
          go_wp2_with fail
          refine (compare_as cano a u (by decide) HA.out U.out _).mono ?_
          rintro e w' ⟨rfl, rfl⟩
          go_wp2_with fail
          refine (inf_pos _).mono ?_
          rintro e w' ⟨rfl, rfl⟩
          go_wp2_with fail
          refine (compare_as a 9218868437227405312 v HA.out (by decide) V.out _).mono ?_
          rintro e w' ⟨rfl, rfl⟩
          go_wp2_with fail
          go_meet
          case rel => exact ⟨rfl, rfl⟩
      · have X := HL rfl
        clear HL
        cases n : nanB a
        · have hzz' := hzz n
          rw [n, Bool.not_false] at heq
          clear hzz n
          go_wp2_with fail
          refine (compare_as a b (-1) HA.out HB.out X.out _).mono ?_
          rintro e w' ⟨rfl, rfl⟩
          go_wp2_with fail
          refine (nan_is _).mono ?_
          rintro e w' ⟨rfl, rfl⟩
          go_wp2_with fail
          refine (compare_as cano a u (by decide) HA.out U.out _).mono ?_
          rintro e w' ⟨rfl, rfl⟩
          go_wp2_with fail
          refine (inf_pos _).mono ?_
          rintro e w' ⟨rfl, rfl⟩
          go_wp2_with fail
          refine (compare_as a 9218868437227405312 v HA.out (by decide) V.out _).mono ?_
          rintro e w' ⟨rfl, rfl⟩
          go_wp2_with fail
          refine (inf_neg _).mono ?_
          rintro e w' ⟨rfl, rfl⟩
          go_wp2_with fail
          refine (compare_as a 18442240474082181120 z HA.out (by decide) Z.out _).mono ?_
          rintro e w' ⟨rfl, rfl⟩
          go_wp2_with fail
          go_meet
          case rel => exact ⟨rfl, rfl⟩
        · rw [n, Bool.not_true] at heq
          clear hzz n
          go_wp2_with fail
          refine (compare_as a b (-1) HA.out HB.out X.out _).mono ?_
          rintro e w' ⟨rfl, rfl⟩
          go_wp2_with fail
          refine (nan_is _).mono ?_
          rintro e w' ⟨rfl, rfl⟩
          go_wp2_with fail
          refine (compare_as cano a u (by decide) HA.out U.out _).mono ?_
          rintro e w' ⟨rfl, rfl⟩
          go_wp2_with fail
          refine (inf_pos _).mono ?_
          rintro e w' ⟨rfl, rfl⟩
          go_wp2_with fail
          refine (compare_as a 9218868437227405312 v HA.out (by decide) V.out _).mono ?_
          rintro e w' ⟨rfl, rfl⟩
          go_wp2_with fail
          go_meet
          case rel => exact ⟨rfl, rfl⟩
    case rest =>
      obtain ⟨rfl, rfl⟩ := hcut
      go_upto_region 5 with fail
      go_cut [7] from 8 (fun v wr => wr = wc ∧ v = .bool (decide (rk a = rk b)))
      case first =>
        have fa := bits_of a
        have fb := bits_of b
        have na := ne_self a HA.out
        have nb := ne_self b HB.out
        have na' : (FloatKind.f64.format.order a a != some .eq) = nanB a := na
        have nb' : (FloatKind.f64.format.order b b != some .eq) = nanB b := nb
        clear na nb
        by_cases hab : a = b
        · have e : ((a : Int) == (b : Int)) = true := by rw [hab]; simp
          have hr : decide (rk a = rk b) = true := by rw [hab]; simp
          have HR := Lib.hid hr
          clear hab na' nb' hr
          go_wp2_with fail
          go_meet
          case rel => exact ⟨rfl, by rw [HR.out]⟩
        · have e : ((a : Int) == (b : Int)) = false := by rw [beq_eq_false_iff_ne]; omega
          have hr : decide (rk a = rk b) = (nanB a && nanB b) := by
            cases x : nanB a <;> cases y : nanB b
            · exact decide_eq_false (fun h => by rcases rk_inj HA.out HB.out h with h | ⟨h, -⟩; · exact hab h
                                                 rw [x] at h; cases h)
            · rw [rk_nan y]; exact decide_eq_false (by have := rk_pos x; omega)
            · rw [rk_nan x]; exact decide_eq_false (by have := rk_pos y; omega)
            · rw [rk_nan x, rk_nan y]; rfl
          have HR := Lib.hid hr
          clear hab hr
          cases x : nanB a
          · rw [x] at na'
            have HX := Lib.hid x
            clear x nb'
            go_wp2_with fail
            go_meet
            case rel => exact ⟨rfl, by rw [HR.out, HX.out]; rfl⟩
          · rw [x] at na'
            have HX := Lib.hid x
            clear x
            cases y : nanB b
            · rw [y] at nb'
              have HY := Lib.hid y
              clear y
              go_wp2_with fail
              go_meet
              case rel => exact ⟨rfl, by rw [HR.out, HX.out, HY.out]; rfl⟩
            · rw [y] at nb'
              have HY := Lib.hid y
              clear y
              go_wp2_with fail
              go_meet
              case rel => exact ⟨rfl, by rw [HR.out, HX.out, HY.out]; rfl⟩
      case rest =>
        obtain ⟨rfl, rfl⟩ := hcut
        have hz := cf_zero a b
        obtain ⟨x, X⟩ : ∃ x, Hid (cf a b = x) := ⟨_, rfl⟩
        rw [X.out] at hz
        generalize decide (rk a = rk b) = s at *
        have hss : (s == s) = true := by simp
        go_wp2_with fail
        refine (compare_as a b x HA.out HB.out X.out _).mono ?_
        rintro e w' ⟨rfl, rfl⟩
        go_wp2_with fail
        refine (awake_any _ HT.out).mono ?_
        rintro e w' ⟨rfl, hB⟩
        go_wp2_with fail
        go_ret
        exact ⟨rfl, hB⟩
end Go.Proofs.YtkodhaapllmdhaaDoor
