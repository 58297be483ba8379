/- tree.addTimes; Contains over bytes. -/
import Derived.Test.YtpchahlnnbgpkaaDoorTreE
import Derived.Test.YtpchahlnnbgpkaaDoorTreQ
namespace Go.Proofs.YtpchahlnnbgpkaaDoor
open Go.RowKit Sets Tr
def dS (m : Nat) : ByteArray := ⟨#[(48 + m).toUInt8]⟩
set_option maxHeartbeats 800000 in
set_option maxRecDepth 100000 in
theorem small_any (m : Nat) (hm : m < 10) (w : World) : Calls Tryd.prog 61 #[.int .i64 m] w fun e w' => e = .returned (.string (dS m)) ∧ w = w' := by
  have : m = 0 ∨ m = 1 ∨ m = 2 ∨ m = 3 ∨ m = 4 ∨ m = 5 ∨ m = 6 ∨ m = 7 ∨ m = 8 ∨ m = 9 := by omega
  rcases this with rfl | rfl | rfl | rfl | rfl | rfl | rfl | rfl | rfl | rfl
  all_goals
    go_enter Tryd.func61, Tryd.ntmps61
    go_wp2_with fail
    go_ret
    exact ⟨rfl, rfl⟩
set_option maxHeartbeats 1600000 in
set_option maxRecDepth 100000 in
theorem appendUint_any (B : Nat) (v : Value) (D : List Nat) (m : Nat) (hm : m < 10) (w : World) (hO : Out B w v D) (hD : D.length ≤ 1000000000) (hB : B ≤ w.heap.size) :
    Calls Tryd.prog 59 #[v, .int .u64 m, .int .i64 10] w (OutAp B w v (D ++ [48 + m])) := by
  have HS := Lib.hid (small_any m hm w)
  have HO := Lib.hid hO
  have hd : decide ((m : Int) < 100) = true := decide_eq_true (by omega)
  clear hO
  go_enter Tryd.func59, Tryd.ntmps59
  go_wp2_with (first
    | (go_at_call 61; refine HS.out.mono ?_; rintro e w' ⟨rfl, rfl⟩)
    | (refine wpList_outS rfl _ _ rfl B v D [48 + m] (dS m) rfl rfl (by intro x hx; simp at hx; omega) rfl HO.out (by simp; omega) hB ?_; intro v2 w2 hO2 hB2 hA2; have HO2 := Lib.hid hO2; have HA2 := Lib.hid hA2; clear hO2 hA2))
  go_ret
  exact ⟨_, rfl, HO2.out, hB2, HA2.out⟩
set_option maxHeartbeats 1600000 in
set_option maxRecDepth 100000 in
theorem appendInt_any (B : Nat) (v : Value) (D : List Nat) (m : Nat) (hm : m < 10) (w : World) (hO : Out B w v D) (hD : D.length ≤ 1000000000) (hB : B ≤ w.heap.size) :
    Calls Tryd.prog 46 #[v, .int .i64 m, .int .i64 10] w (OutAp B w v (D ++ [48 + m])) := by
  have HU := Lib.hid (appendUint_any B v D m hm w hO hD hB)
  have HI : Hid (Calls Tryd.prog 54 #[v, .int .i64 m, .int .i64 10] w (OutAp B w v (D ++ [48 + m]))) := Lib.hid (by
    have hd : decide ((m : Int) < 0) = false := decide_eq_false (by omega)
    clear hO
    go_enter Tryd.func54, Tryd.ntmps54
    go_wp2_with fail
    refine HU.out.mono ?_
    rintro e w2 ⟨v2, rfl, hO2, hB2, hA2⟩
    have HO2 := Lib.hid hO2
    clear hO2
    go_wp2_with fail
    go_ret
    exact ⟨_, rfl, HO2.out, hB2, hA2⟩)
  clear hO
  go_enter Tryd.func46, Tryd.ntmps46
  go_wp2_with fail
  refine HI.out.mono ?_
  rintro e w2 ⟨v2, rfl, hO2, hB2, hA2⟩
  have HO2 := Lib.hid hO2
  clear hO2
  go_wp2_with fail
  go_ret
  exact ⟨_, rfl, HO2.out, hB2, hA2⟩
set_option maxHeartbeats 6400000 in
set_option maxRecDepth 100000 in
theorem addTimes_any (B : Nat) (v : Value) (D : List Nat) (m n : Int) (hc : countable m n = true) (w : World) (hO : Out B w v D) (hD : D.length ≤ 500000000) (hB : B ≤ w.heap.size) :
    Calls Tryd.prog 35 #[v, .int .i64 m, .int .i64 n] w (OutAp B w v (D ++ tm m n)) := by
  have HO := Lib.hid hO
  clear hO
  have hcc := hc
  unfold countable at hcc
  clear hc
  go_enter Tryd.func35, Tryd.ntmps35
  by_cases h1 : n = -1
  · rw [if_pos h1] at hcc
    have hm := of_decide_eq_true hcc
    subst h1
    clear hcc
    rcases hm with rfl | rfl
    · go_wp2_with (refine wpList_out rfl _ _ rfl B v D [42] _ rfl rfl HO.out rfl (by simp; omega) hB ?_; intro v2 w2 hO2 hB2 hA2; have HO2 := Lib.hid hO2; have HB2 := Lib.hid hB2; have HA2 := Lib.hid hA2; clear hO2 hB2 hA2)
      go_ret
      exact ⟨_, rfl, HO2.out, HB2.out, HA2.out⟩
    · go_wp2_with (refine wpList_out rfl _ _ rfl B v D [43] _ rfl rfl HO.out rfl (by simp; omega) hB ?_; intro v2 w2 hO2 hB2 hA2; have HO2 := Lib.hid hO2; have HB2 := Lib.hid hB2; have HA2 := Lib.hid hA2; clear hO2 hB2 hA2)
      go_ret
      exact ⟨_, rfl, HO2.out, HB2.out, HA2.out⟩
  · rw [if_neg h1] at hcc
    obtain ⟨h2, h3, h4⟩ := of_decide_eq_true hcc
    clear hcc
    obtain ⟨a, rfl⟩ : ∃ a : Nat, m = (a : Int) := ⟨m.toNat, by omega⟩
    obtain ⟨b, rfl⟩ : ∃ b : Nat, n = (b : Int) := ⟨n.toNat, by omega⟩
    have g1 : ((b : Int) == -1) = false := by rw [beq_eq_false_iff_ne]; omega
    by_cases h5 : a = 0 ∧ b = 1
    · obtain ⟨rfl, rfl⟩ := h5
      go_wp2_with (refine wpList_out rfl _ _ rfl B v D [63] _ rfl rfl HO.out rfl (by simp; omega) hB ?_; intro v2 w2 hO2 hB2 hA2; have HO2 := Lib.hid hO2; have HB2 := Lib.hid hB2; have HA2 := Lib.hid hA2; clear hO2 hB2 hA2)
      go_ret
      exact ⟨_, rfl, HO2.out, HB2.out, HA2.out⟩
    · have htm : tm (a : Int) (b : Int) = 123 :: (48 + a) :: ((if b ≠ a then [44, 48 + b] else []) ++ [125]) := by
        unfold tm
        rw [if_neg h1, if_neg (by omega)]
        unfold dig
        simp only [Int.toNat_natCast]
        by_cases hab : b = a
        · rw [if_neg (by omega), if_neg (by omega)]
        · rw [if_pos (by omega), if_pos hab]
      have HT := Lib.hid htm
      have hg : ((a : Int) == 0 && (b : Int) == 1) = false := by
        rw [Bool.and_eq_false_iff]
        by_cases ha : a = 0
        · exact .inr (by rw [beq_eq_false_iff_ne]; omega)
        · exact .inl (by rw [beq_eq_false_iff_ne]; omega)
      have ha9 : a < 10 := by omega
      have hb9 : b < 10 := by omega
      clear htm h1 h2 h3 h4
      by_cases ha : a = 0
      · have gb : ((b : Int) == 1) = false := by rw [beq_eq_false_iff_ne]; omega
        subst ha
        clear h5 hg
        go_wp2_with (refine wpList_out rfl _ _ rfl B v D [123] _ rfl rfl HO.out rfl (by simp; omega) hB ?_; intro v2 w2 hO2 hB2 hA2; have HO2 := Lib.hid hO2; have HB2 := Lib.hid hB2; have HA2 := Lib.hid hA2; clear hO2 hB2 hA2)
        refine (appendInt_any B v2 _ 0 ha9 w2 HO2.out (by simp; omega) (Nat.le_trans hB HB2.out.size)).mono ?_
        rintro e w3 ⟨v3, rfl, hO3, hB3, hA3⟩
        have HO3 := Lib.hid hO3
        have HB3 := Lib.hid (HB2.out.trans hB3)
        have HA3 := Lib.hid (HA2.out.trans hA3)
        clear hO3 hB3 hA3
        by_cases hab : b = 0
        · have gab : ((b : Int) != (0 : Int)) = false := by rw [bne_eq_false_iff_eq]; omega
          have e1 := HT.out
          rw [if_neg (by omega)] at e1
          have HT1 := Lib.hid e1
          clear e1 hab
          go_wp2_with (refine wpList_out rfl _ _ rfl B v3 _ [125] _ rfl rfl HO3.out rfl (by simp; omega) (Nat.le_trans hB HB3.out.size) ?_; intro v4 w4 hO4 hB4 hA4; have HO4 := Lib.hid hO4; have HB4 := Lib.hid (HB3.out.trans hB4); have HA4 := Lib.hid (HA3.out.trans hA4); clear hO4 hB4 hA4)
          go_ret
          refine ⟨_, rfl, ?_, HB4.out, HA4.out⟩
          rw [HT1.out]
          have := HO4.out
          simp only [List.append_assoc, List.cons_append, List.nil_append] at this ⊢
          exact this
        · have gab : ((b : Int) != (0 : Int)) = true := by rw [bne_iff_ne]; omega
          have e1 := HT.out
          rw [if_pos (by omega)] at e1
          have HT1 := Lib.hid e1
          clear e1 hab
          go_wp2_with (refine wpList_out rfl _ _ rfl B v3 _ [44] _ rfl rfl HO3.out rfl (by simp; omega) (Nat.le_trans hB HB3.out.size) ?_; intro v4 w4 hO4 hB4 hA4; have HO4 := Lib.hid hO4; have HB4 := Lib.hid (HB3.out.trans hB4); have HA4 := Lib.hid (HA3.out.trans hA4); clear hO4 hB4 hA4)
          refine (appendInt_any B v4 _ b hb9 w4 HO4.out (by simp; omega) (Nat.le_trans hB HB4.out.size)).mono ?_
          rintro e w5 ⟨v5, rfl, hO5, hB5, hA5⟩
          have HO5 := Lib.hid hO5
          have HB5 := Lib.hid (HB4.out.trans hB5)
          have HA5 := Lib.hid (HA4.out.trans hA5)
          clear hO5 hB5 hA5
          go_wp2_with (refine wpList_out rfl _ _ rfl B v5 _ [125] _ rfl rfl HO5.out rfl (by simp; omega) (Nat.le_trans hB HB5.out.size) ?_; intro v6 w6 hO6 hB6 hA6; have HO6 := Lib.hid hO6; have HB6 := Lib.hid (HB5.out.trans hB6); have HA6 := Lib.hid (HA5.out.trans hA6); clear hO6 hB6 hA6)
          go_ret
          refine ⟨_, rfl, ?_, HB6.out, HA6.out⟩
          rw [HT1.out]
          have := HO6.out
          simp only [List.append_assoc, List.cons_append, List.nil_append] at this ⊢
          exact this
      · have ga : ((a : Int) == 0) = false := by rw [beq_eq_false_iff_ne]; omega
        clear ha
        clear h5 hg
        go_wp2_with (refine wpList_out rfl _ _ rfl B v D [123] _ rfl rfl HO.out rfl (by simp; omega) hB ?_; intro v2 w2 hO2 hB2 hA2; have HO2 := Lib.hid hO2; have HB2 := Lib.hid hB2; have HA2 := Lib.hid hA2; clear hO2 hB2 hA2)
        refine (appendInt_any B v2 _ a ha9 w2 HO2.out (by simp; omega) (Nat.le_trans hB HB2.out.size)).mono ?_
        rintro e w3 ⟨v3, rfl, hO3, hB3, hA3⟩
        have HO3 := Lib.hid hO3
        have HB3 := Lib.hid (HB2.out.trans hB3)
        have HA3 := Lib.hid (HA2.out.trans hA3)
        clear hO3 hB3 hA3
        by_cases hab : b = a
        · have gab : ((b : Int) != (a : Int)) = false := by rw [bne_eq_false_iff_eq]; omega
          have e1 := HT.out
          rw [if_neg (by omega)] at e1
          have HT1 := Lib.hid e1
          clear e1 hab
          go_wp2_with (refine wpList_out rfl _ _ rfl B v3 _ [125] _ rfl rfl HO3.out rfl (by simp; omega) (Nat.le_trans hB HB3.out.size) ?_; intro v4 w4 hO4 hB4 hA4; have HO4 := Lib.hid hO4; have HB4 := Lib.hid (HB3.out.trans hB4); have HA4 := Lib.hid (HA3.out.trans hA4); clear hO4 hB4 hA4)
          go_ret
          refine ⟨_, rfl, ?_, HB4.out, HA4.out⟩
          rw [HT1.out]
          have := HO4.out
          simp only [List.append_assoc, List.cons_append, List.nil_append] at this ⊢
          exact this
        · have gab : ((b : Int) != (a : Int)) = true := by rw [bne_iff_ne]; omega
          have e1 := HT.out
          rw [if_pos (by omega)] at e1
          have HT1 := Lib.hid e1
          clear e1 hab
          go_wp2_with (refine wpList_out rfl _ _ rfl B v3 _ [44] _ rfl rfl HO3.out rfl (by simp; omega) (Nat.le_trans hB HB3.out.size) ?_; intro v4 w4 hO4 hB4 hA4; have HO4 := Lib.hid hO4; have HB4 := Lib.hid (HB3.out.trans hB4); have HA4 := Lib.hid (HA3.out.trans hA4); clear hO4 hB4 hA4)
          refine (appendInt_any B v4 _ b hb9 w4 HO4.out (by simp; omega) (Nat.le_trans hB HB4.out.size)).mono ?_
          rintro e w5 ⟨v5, rfl, hO5, hB5, hA5⟩
          have HO5 := Lib.hid hO5
          have HB5 := Lib.hid (HB4.out.trans hB5)
          have HA5 := Lib.hid (HA4.out.trans hA5)
          clear hO5 hB5 hA5
          go_wp2_with (refine wpList_out rfl _ _ rfl B v5 _ [125] _ rfl rfl HO5.out rfl (by simp; omega) (Nat.le_trans hB HB5.out.size) ?_; intro v6 w6 hO6 hB6 hA6; have HO6 := Lib.hid hO6; have HB6 := Lib.hid (HB5.out.trans hB6); have HA6 := Lib.hid (HA5.out.trans hA6); clear hO6 hB6 hA6)
          go_ret
          refine ⟨_, rfl, ?_, HB6.out, HA6.out⟩
          rw [HT1.out]
          have := HO6.out
          simp only [List.append_assoc, List.cons_append, List.nil_append] at this ⊢
          exact this
end Go.Proofs.YtpchahlnnbgpkaaDoor
