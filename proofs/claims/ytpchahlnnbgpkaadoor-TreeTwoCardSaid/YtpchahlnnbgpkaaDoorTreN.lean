/- tree.addNode. -/
import Derived.Test.YtpchahlnnbgpkaaDoorTreU
import Derived.Test.YtpchahlnnbgpkaaDoorTreT
namespace Go.Proofs.YtpchahlnnbgpkaaDoor
open Go.RowKit Sets Tr
theorem bytes_lit (w : World) (E : List Nat) (hE : ∀ x ∈ E, x < 256) (cs : Array Value) (hcs : cs = (u8s E).toArray) (hl : E.length ≤ maxLen) : BytesAt (w.alloc (.cells cs 5)) (.slice (some ⟨w.heap.size, 0, none⟩) E.length E.length) E := by
  subst hcs
  refine ⟨hE, hl, _, _, rfl, fun i hi => ⟨w.heap.size, 0, rfl, ?_⟩⟩
  rw [Nat.zero_add, World.cell?_alloc_new, List.getElem?_toArray]
  unfold u8s
  rw [List.getElem?_map, List.getElem?_eq_getElem hi, List.getD_eq_getElem?_getD, List.getElem?_eq_getElem hi]
  rfl
theorem hasK_alt (k : Nat) : hasK [4] k = (k == 4) := by unfold hasK; rw [Bool.eq_iff_iff]; simp
theorem hasK_seq (k : Nat) : hasK [4, 3] k = (k == 4 || k == 3) := by unfold hasK; rw [Bool.eq_iff_iff]; simp
theorem hasK_tim (k : Nat) (h : k < 6) : hasK [3, 4, 5] k = decide (2 < k) := by
  have : k = 0 ∨ k = 1 ∨ k = 2 ∨ k = 3 ∨ k = 4 ∨ k = 5 := by omega
  rcases this with rfl | rfl | rfl | rfl | rfl | rfl <;> rfl
theorem kd_lt (x : X) : x.kd < 6 := by cases x <;> simp [X.kd]
set_option maxHeartbeats 6400000 in
set_option maxRecDepth 100000 in
theorem addNode_any (W : World) (nv : Value) (N : List Nd) (hN : NodesAt W nv N) (snd : ∀ i, i < N.length → sound (N.getD i default) = true) (hT : Tab W) (hg : 0 < W.heap.size) :
    ∀ t : T, Is N t → Adds W nv t.root (t.sum fun _ => 1) (prX (abs N t)) := by
  have HN := Lib.hid hN
  have HT := Lib.hid hT
  obtain ⟨na, nc, rfl⟩ : ∃ a c, nv = .slice a N.length c := by obtain ⟨-, -, a, c, e, -⟩ := hN; exact ⟨a, c, e⟩
  have HSnd := Lib.hid snd
  clear hN hT snd
  intro t
  induction t with
  | leaf i =>
    intro ht v D w hO hW hD
    have hi : i < N.length := ht.1
    have hk := leaf_kind ht.2
    have hs := HSnd.out i hi
    obtain ⟨b, o, rfl, hr0, hok⟩ := HN.out.at hi
    have hr := range_kept hr0 hW
    simp only [root_leaf, abs, T.sum] at *
    generalize N.getD i default = x at *
    have hkk : x.k = 1 ∨ x.k = 2 := by
      have h3 := hk.1
      have h5 := hk.2
      unfold sound at hs
      split at hs
      · omega
      · split at hs
        · omega
        · first | (cases hs; done) | (rw [if_neg h3, if_neg h5] at hs; cases hs)
    have HR := Lib.hid hr
    have HOk := Lib.hid hok
    have HO := Lib.hid hO
    have HW := Lib.hid hW
    have hdi : decide ((i : Int) < (N.length : Int)) = true := decide_eq_true (by omega)
    have hc0 := (BoxAt.new w x).c.1
    obtain ⟨s1, s2, s3, s4⟩ := (BoxAt.new w x).sets
    have HO2 := Lib.hid (hO.below ((Below.refl w.heap.size w).alloc (Nat.le_refl _) (.cells (nd9 x).toArray 27)))
    have HW2 := Lib.hid (hW.trans ((Below.refl W.heap.size w).alloc hW.size (.cells (nd9 x).toArray 27)))
    have HB2 := Lib.hid ((Below.refl W.heap.size w).alloc hW.size (.cells (nd9 x).toArray 27))
    have HAp := Lib.hid (Ap.of_below v ((Below.refl w.heap.size w).alloc (Nat.le_refl _) (.cells (nd9 x).toArray 27)))
    clear hr0 hr hok hO hW hk hs
    go_enter Tryd.func20, Tryd.ntmps20
    rcases hkk with h1 | h2
    · rw [h1] at hc0
      have e : (if x.k = 1 then X.emp else X.set x.s) = X.emp := if_pos h1
      rw [e]
      clear h1 e s1 s2 s3 s4
      go_wp2_with (first
        | (refine wpList_load_node rfl _ rfl b (o + i * 9) x rfl HR.out ?_)
        | (refine wpList_store_node rfl _ _ rfl x rfl rfl ?_)
        | (refine wpList_outS rfl _ _ rfl W.heap.size v D [40, 41] _ rfl rfl (by intro x hx; simp at hx; omega) rfl HO2.out (by simp; omega) HW2.out.size ?_; intro v2 w2 hO2 hB2 hA2; have HO3 := Lib.hid hO2; have HB3 := Lib.hid hB2; have HA3 := Lib.hid hA2; clear hO2 hB2 hA2))
      go_ret
      exact ⟨_, rfl, HO3.out, HB2.out.trans HB3.out, HAp.out.trans HA3.out⟩
    · rw [h2] at hc0
      have e : (if x.k = 1 then X.emp else X.set x.s) = X.set x.s := if_neg (by omega)
      rw [e]
      clear h2 e
      have HS := Lib.hid (addSet_any W.heap.size v D x.s _ HOk.out.s HO2.out (by omega) HW2.out.size (HT.out.below HW2.out hg) hg)
      go_wp2_with (first
        | (refine wpList_load_node rfl _ rfl b (o + i * 9) x rfl HR.out ?_)
        | (refine wpList_store_node rfl _ _ rfl x rfl rfl ?_))
      refine HS.out.mono ?_
      rintro e w3 ⟨v3, rfl, hO3, hB3, hA3⟩
      have HO3 := Lib.hid hO3
      clear hO3
      go_wp2_with fail
      go_ret
      exact ⟨_, rfl, HO3.out, HB2.out.trans hB3, HAp.out.trans hA3⟩
  | one i a iha =>
    intro ht v D w hO hW hD
    have hi : i < N.length := ht.1
    have hs := HSnd.out i hi
    have hk := one_kind ht.2.1
    obtain ⟨b, o, rfl, hr0, hok⟩ := HN.out.at hi
    have hr := range_kept hr0 hW
    have HR := Lib.hid hr
    simp only [root_one, abs, T.sum] at *
    generalize N.getD i default = x at *
    have HO := Lib.hid hO
    have HW := Lib.hid hW
    have hdi : decide ((i : Int) < (N.length : Int)) = true := decide_eq_true (by omega)
    have hgv : v.ownBlock ≠ some w.heap.size := fun e => by have := (hO.lt _ e).2; omega
    have hBx := BoxAt.new w x
    have HBx := Lib.hid hBx
    obtain ⟨c0, c5, c6, c7, c8⟩ := hBx.c
    have HO2 := Lib.hid (hO.below ((Below.refl w.heap.size w).alloc (Nat.le_refl _) (.cells (nd9 x).toArray 27)))
    have HW2 := Lib.hid (hW.trans ((Below.refl W.heap.size w).alloc hW.size (.cells (nd9 x).toArray 27)))
    have HB2 := Lib.hid ((Below.refl W.heap.size w).alloc hW.size (.cells (nd9 x).toArray 27))
    have HAp := Lib.hid (Ap.of_below v ((Below.refl w.heap.size w).alloc (Nat.le_refl _) (.cells (nd9 x).toArray 27)))
    have HKeep : Hid (∀ w' v', Ap (w.alloc (.cells (nd9 x).toArray 27)) v w' v' → BoxAt w' w.heap.size x) := Lib.hid (fun w' v' h => ⟨by rw [h.block w.heap.size (by simp) hgv]; exact hBx.row⟩)
    have HSz : Hid ((w.alloc (.cells (nd9 x).toArray 27)).heap.size = w.heap.size + 1) := Lib.hid (by simp)
    have HSub : Hid (∀ t, Is N t → (N.getD t.root default).k = (abs N t).kd) := Lib.hid (fun t h => (kd_abs h (HSnd.out _ h.lt)).symm)
    clear hr0 hr hok hO hW hgv hBx
    obtain ⟨hk5, hka⟩ := hk
    rw [hk5] at c0
    rw [hka] at c5
    have HCo : Hid (countable x.mn x.mx = true) := Lib.hid (by
      unfold sound at hs
      rw [if_neg (by omega), if_neg (by omega), if_neg (by omega), if_pos hk5] at hs
      simp only [Bool.and_eq_true] at hs
      exact hs.2)
    have HIs := Lib.hid ht
    have HIh := Lib.hid (iha ht.2.2.2)
    have hpa := prX_len N a
    have HPa := Lib.hid hpa
    have hsp := T.sum_pos a
    clear iha ht hs hk5 hka c6
    go_enter Tryd.func20, Tryd.ntmps20
    go_wp2_with (first
      | (refine wpList_load_node rfl _ rfl b (o + i * 9) x rfl HR.out ?_)
      | (refine wpList_store_node rfl _ _ rfl x rfl rfl ?_))
    generalize (w.alloc (.cells (nd9 x).toArray 27)) = w1 at *
    have hL := bytes_lit w1 [3, 4, 5] (by decide) #[.int .u8 3, .int .u8 4, .int .u8 5] rfl (by decide)
    rw [HSz.out] at hL
    have hal1 := (Below.refl w1.heap.size w1).alloc (Nat.le_refl _) (.cells #[.int .u8 3, .int .u8 4, .int .u8 5] 5)
    have hal2 := (Below.refl W.heap.size w1).alloc HW2.out.size (.cells #[.int .u8 3, .int .u8 4, .int .u8 5] 5)
    refine (addBelow_any W _ N HN.out a.root (a.sum fun _ => 1) (prX (abs N a)) HIh.out hpa (HIs.out.2.2.2.lt) v _ D [3, 4, 5] _ (HO2.out.below hal1) (HW2.out.trans hal2) hL (by decide) (by omega)).mono ?_
    rw [HSub.out a HIs.out.2.2.2, hasK_tim _ (kd_lt _)]
    rintro e w3 ⟨v3, rfl, hO3, hB3, hA3⟩
    have hA13 := (Ap.of_below v hal1).trans hA3
    have HO3 := Lib.hid hO3
    have HB3 := Lib.hid (HB2.out.trans (hal2.trans hB3))
    have HA3 := Lib.hid (HAp.out.trans hA13)
    obtain ⟨-, -, -, d7, d8⟩ := (HKeep.out _ _ hA13).c
    have HW3 : Hid (W.heap.size ≤ w3.heap.size) := Lib.hid (Nat.le_trans HW.out.size HB3.out.size)
    have hwl := wr_len (decide (2 < (abs N a).kd)) (prX (abs N a))
    have HD3 : Hid ((D ++ wr (decide (2 < (abs N a).kd)) (prX (abs N a))).length ≤ 500000000) := Lib.hid (by rw [List.length_append]; omega)
    clear hL hal1 hal2 hO3 hB3 hA3 hA13 hwl hpa
    go_wp2_with fail
    refine (addTimes_any W.heap.size v3 _ x.mn x.mx HCo.out w3 HO3.out HD3.out HW3.out).mono ?_
    rintro e w4 ⟨v4, rfl, hO4, hB4, hA4⟩
    have HO4 := Lib.hid hO4
    clear hO4
    go_wp2_with fail
    go_ret
    refine ⟨_, rfl, ?_, HB3.out.trans hB4, HA3.out.trans hA4⟩
    have := HO4.out
    rw [List.append_assoc] at this
    exact this
  | two i a b' iha ihb =>
    intro ht v D w hO hW hD
    have hi : i < N.length := ht.1
    have hs := HSnd.out i hi
    have hk := two_kind ht.2.1
    obtain ⟨b, o, rfl, hr0, hok⟩ := HN.out.at hi
    have hr := range_kept hr0 hW
    have HR := Lib.hid hr
    simp only [root_two, abs, T.sum] at *
    generalize N.getD i default = x at *
    have HO := Lib.hid hO
    have HW := Lib.hid hW
    have hdi : decide ((i : Int) < (N.length : Int)) = true := decide_eq_true (by omega)
    have hgv : v.ownBlock ≠ some w.heap.size := fun e => by have := (hO.lt _ e).2; omega
    have hBx := BoxAt.new w x
    have HBx := Lib.hid hBx
    obtain ⟨c0, c5, c6, c7, c8⟩ := hBx.c
    have HO2 := Lib.hid (hO.below ((Below.refl w.heap.size w).alloc (Nat.le_refl _) (.cells (nd9 x).toArray 27)))
    have HW2 := Lib.hid (hW.trans ((Below.refl W.heap.size w).alloc hW.size (.cells (nd9 x).toArray 27)))
    have HB2 := Lib.hid ((Below.refl W.heap.size w).alloc hW.size (.cells (nd9 x).toArray 27))
    have HAp := Lib.hid (Ap.of_below v ((Below.refl w.heap.size w).alloc (Nat.le_refl _) (.cells (nd9 x).toArray 27)))
    have HKeep : Hid (∀ w' v', Ap (w.alloc (.cells (nd9 x).toArray 27)) v w' v' → BoxAt w' w.heap.size x) := Lib.hid (fun w' v' h => ⟨by rw [h.block w.heap.size (by simp) hgv]; exact hBx.row⟩)
    have HSz : Hid ((w.alloc (.cells (nd9 x).toArray 27)).heap.size = w.heap.size + 1) := Lib.hid (by simp)
    have HSub : Hid (∀ t, Is N t → (N.getD t.root default).k = (abs N t).kd) := Lib.hid (fun t h => (kd_abs h (HSnd.out _ h.lt)).symm)
    clear hr0 hr hok hO hW hgv hBx
    obtain ⟨hk34, hka, hkb⟩ := hk
    rw [hka] at c5
    rw [hkb] at c6
    have HIs := Lib.hid ht
    have HIa := Lib.hid (iha ht.2.2.2.2.1)
    have HIb := Lib.hid (ihb ht.2.2.2.2.2)
    have hpa := prX_len N a
    have hpb := prX_len N b'
    have HPa := Lib.hid hpa
    have HPb := Lib.hid hpb
    have hsp := T.sum_pos a
    have hsq := T.sum_pos b'
    clear iha ihb ht hs hka hkb c7 c8
    go_enter Tryd.func20, Tryd.ntmps20
    rcases hk34 with hk3 | hk4
    · have HX : Hid ((if x.k = 3 then X.seq (abs N a) (abs N b') else X.alt (abs N a) (abs N b')) = X.seq (abs N a) (abs N b')) := Lib.hid (if_pos hk3)
      rw [HX.out]
      rw [hk3] at c0
      clear hk3
      go_wp2_with (first
        | (refine wpList_load_node rfl _ rfl b (o + i * 9) x rfl HR.out ?_)
        | (refine wpList_store_node rfl _ _ rfl x rfl rfl ?_))
      generalize (w.alloc (.cells (nd9 x).toArray 27)) = w1 at *
      have hL := bytes_lit w1 [4] (by decide) #[.int .u8 4] rfl (by decide)
      rw [HSz.out] at hL
      have hal1 := (Below.refl w1.heap.size w1).alloc (Nat.le_refl _) (.cells #[.int .u8 4] 5)
      have hal2 := (Below.refl W.heap.size w1).alloc HW2.out.size (.cells #[.int .u8 4] 5)
      refine (addBelow_any W _ N HN.out a.root (a.sum fun _ => 1) (prX (abs N a)) HIa.out hpa (HIs.out.2.2.2.2.1.lt) v _ D [4] _ (HO2.out.below hal1) (HW2.out.trans hal2) hL (by decide) (by omega)).mono ?_
      rw [HSub.out a HIs.out.2.2.2.2.1, hasK_alt]
      rintro e w3 ⟨v3, rfl, hO3, hB3, hA3⟩
      have hA13 := (Ap.of_below v hal1).trans hA3
      have HO3 := Lib.hid hO3
      have HB3 := Lib.hid (HB2.out.trans (hal2.trans hB3))
      have HA3 := Lib.hid (HAp.out.trans hA13)
      have d6 := (HKeep.out _ _ hA13).c.2.2.1
      rw [show x.b = (b'.root : Int) from by have := c6; have h2 := (HBx.out).c.2.2.1; rw [h2] at this; injection this with this; injection this] at d6
      have HW3 : Hid (W.heap.size ≤ w3.heap.size) := Lib.hid (Nat.le_trans HW.out.size HB3.out.size)
      have hwl := wr_len ((abs N a).kd == 4) (prX (abs N a))
      have HD3 : Hid ((D ++ wr ((abs N a).kd == 4) (prX (abs N a))).length + 1 + 2400 * (b'.sum fun _ => 1) ≤ 100000000) := Lib.hid (by rw [List.length_append]; omega)
      clear hL hal1 hal2 hO3 hB3 hA3 hA13 hwl hpa
      go_wp2_with fail
      have hL := bytes_lit w3 [4, 3] (by decide) #[.int .u8 4, .int .u8 3] rfl (by decide)
      have hal1 := (Below.refl w3.heap.size w3).alloc (Nat.le_refl _) (.cells #[.int .u8 4, .int .u8 3] 5)
      have hal2 := (Below.refl W.heap.size w3).alloc HW3.out (.cells #[.int .u8 4, .int .u8 3] 5)
      refine (addBelow_any W _ N HN.out b'.root (b'.sum fun _ => 1) (prX (abs N b')) HIb.out hpb (HIs.out.2.2.2.2.2.lt) v3 _ _ [4, 3] _ (HO3.out.below hal1) ((HW.out.trans HB3.out).trans hal2) hL (by decide) HD3.out).mono ?_
      rw [HSub.out b' HIs.out.2.2.2.2.2, hasK_seq]
      rintro e w4 ⟨v4, rfl, hO4, hB4, hA4⟩
      have HO4 := Lib.hid hO4
      have HB4 := Lib.hid (HB3.out.trans (hal2.trans hB4))
      have HA4 := Lib.hid (HA3.out.trans ((Ap.of_below v3 hal1).trans hA4))
      clear hO4 hL hal1 hal2 hB4 hA4
      go_wp2_with fail
      go_ret
      refine ⟨_, rfl, ?_, HB4.out, HA4.out⟩
      have := HO4.out
      rw [List.append_assoc] at this
      exact this
    · have HX : Hid ((if x.k = 3 then X.seq (abs N a) (abs N b') else X.alt (abs N a) (abs N b')) = X.alt (abs N a) (abs N b')) := Lib.hid (if_neg (by omega))
      rw [HX.out]
      rw [hk4] at c0
      clear hk4
      go_wp2_with (first
        | (refine wpList_load_node rfl _ rfl b (o + i * 9) x rfl HR.out ?_)
        | (refine wpList_store_node rfl _ _ rfl x rfl rfl ?_))
      generalize (w.alloc (.cells (nd9 x).toArray 27)) = w1 at *
      refine (HIa.out v D w1 HO2.out HW2.out (by omega)).mono ?_
      rintro e w3 ⟨v3, rfl, hO3, hB3, hA3⟩
      have HO3 := Lib.hid hO3
      have HB3 := Lib.hid (HB2.out.trans hB3)
      have HA3 := Lib.hid hA3
      have HW3 : Hid (W.heap.size ≤ w3.heap.size) := Lib.hid (Nat.le_trans HW.out.size HB3.out.size)
      have HD3 : Hid ((D ++ prX (abs N a)).length + 1 + 1 + 2400 * (b'.sum fun _ => 1) ≤ 100000000) := Lib.hid (by rw [List.length_append]; omega)
      clear hO3 hB3 hA3 hpa
      go_wp2_with (refine wpList_out rfl _ _ rfl W.heap.size v3 _ [124] _ rfl rfl HO3.out rfl (by have := HD3.out; simp only [List.length_append, List.length_cons, List.length_nil] at this ⊢; omega) HW3.out ?_; intro v4 w4 hO4 hB4 hA4; have HO4 := Lib.hid hO4; have HB4 := Lib.hid (HB3.out.trans hB4); have HA4 := Lib.hid (HA3.out.trans hA4); have d6 := (HKeep.out _ _ (HA3.out.trans hA4)).c.2.2.1; rw [show x.b = (b'.root : Int) from by have := c6; have h2 := (HBx.out).c.2.2.1; rw [h2] at this; injection this with this; injection this] at d6; have HW4 : Hid (W.heap.size ≤ w4.heap.size) := Lib.hid (Nat.le_trans HW3.out hB4.size); clear hO4 hB4 hA4)
      have hL := bytes_lit w4 [4] (by decide) #[.int .u8 4] rfl (by decide)
      have hal1 := (Below.refl w4.heap.size w4).alloc (Nat.le_refl _) (.cells #[.int .u8 4] 5)
      have hal2 := (Below.refl W.heap.size w4).alloc HW4.out (.cells #[.int .u8 4] 5)
      refine (addBelow_any W _ N HN.out b'.root (b'.sum fun _ => 1) (prX (abs N b')) HIb.out hpb (HIs.out.2.2.2.2.2.lt) v4 _ _ [4] _ (HO4.out.below hal1) ((HW.out.trans HB4.out).trans hal2) hL (by decide) (by have := HD3.out; simp only [List.length_append, List.length_cons, List.length_nil] at this ⊢; omega)).mono ?_
      rw [HSub.out b' HIs.out.2.2.2.2.2, hasK_alt]
      rintro e w5 ⟨v5, rfl, hO5, hB5, hA5⟩
      have HO5 := Lib.hid hO5
      have HB5 := Lib.hid (HB4.out.trans (hal2.trans hB5))
      have HA5 := Lib.hid (HAp.out.trans (HA4.out.trans ((Ap.of_below v4 hal1).trans hA5)))
      clear hO5 hL hal1 hal2 hB5 hA5
      go_wp2_with fail
      go_ret
      refine ⟨_, rfl, ?_, HB5.out, HA5.out⟩
      have := HO5.out
      rw [List.append_assoc, List.append_assoc] at this
      exact this
end Go.Proofs.YtpchahlnnbgpkaaDoor
