/- Several texts in one. -/
import Derived.Test.YtbmoanhdpnaocaaDoorPkF
import Derived.Test.YtbmoanhdpnaocaaDoorPkB
import Derived.Test.YtbmoanhdpnaocaaDoorPkE
import Derived.Test.YtbmoanhdpnaocaaDoorPkD
import Derived.Deep.CutRange
import Derived.Deep.CutBlock
namespace Go.Proofs.YtbmoanhdpnaocaaDoor
open Go.RowKit Sets Tr
theorem bytes_lit (w : World) (E : List Nat) (hE : ∀ x ∈ E, x < 256) (cs : Array Value) (hcs : cs = (u8s E).toArray) (hl : E.length ≤ maxLen) : BytesAt (w.alloc (.cells cs 5)) (.slice (some ⟨w.heap.size, 0, none⟩) E.length E.length) E := by
  subst hcs
  refine ⟨hE, hl, _, _, rfl, fun i hi => ⟨w.heap.size, 0, rfl, ?_⟩⟩
  rw [Nat.zero_add, World.cell?_alloc_new, List.getElem?_toArray]
  unfold u8s
  rw [List.getElem?_map, List.getElem?_eq_getElem hi, List.getD_eq_getElem?_getD, List.getElem?_eq_getElem hi]
  rfl
theorem hasK_alt (k : Nat) : hasK [4] k = (k == 4) := by unfold hasK; rw [Bool.eq_iff_iff]; simp
theorem hasK_seq (k : Nat) : hasK [4, 3] k = (k == 4 || k == 3) := by unfold hasK; rw [Bool.eq_iff_iff]; simp
theorem hasK_tim (k : Nat) (h : k < 6) : hasK [3, 4, 5] k = decide (2 < k) := by
  have : k = 0 ∨ k = 1 ∨ k = 2 ∨ k = 3 ∨ k = 4 ∨ k = 5 := by omega
  rcases this with rfl | rfl | rfl | rfl | rfl | rfl <;> rfl
theorem kd_lt (x : X) : x.kd < 6 := by cases x <;> simp [X.kd]
set_option maxHeartbeats 6400000 in
set_option maxRecDepth 100000 in
theorem addNode_any (W : World) (nv : Value) (N : List Nd) (hN : NodesAt W nv N) (snd : ∀ i, i < N.length → sound (N.getD i default) = true) (hT : Tab W) (hg : 0 < W.heap.size) :
    ∀ t : T, Is N t → Adds W nv t.root (t.sum fun _ => 1) (prX (abs N t)) := by
  have HN := Lib.hid hN
  have HT := Lib.hid hT
  obtain ⟨na, nc, rfl⟩ : ∃ a c, nv = .slice a N.length c := by obtain ⟨-, -, a, c, e, -⟩ := hN; exact ⟨a, c, e⟩
  have HSnd := Lib.hid snd
  clear hN hT snd
  intro t
  induction t with
  | leaf i =>
    intro ht v D w hO hW hD
    have hi : i < N.length := ht.1
    have hk := leaf_kind ht.2
    have hs := HSnd.out i hi
    obtain ⟨b, o, rfl, hr0, hok⟩ := HN.out.at hi
    have hr := range_kept hr0 hW
    simp only [root_leaf, abs, T.sum] at *
    generalize N.getD i default = x at *
    have hkk : x.k = 1 ∨ x.k = 2 := by
      have h3 := hk.1
      have h5 := hk.2
      unfold sound at hs
      split at hs
      · omega
      · split at hs
        · omega
        · first | (cases hs; done) | (rw [if_neg h3, if_neg h5] at hs; cases hs)
    have HR := Lib.hid hr
    have HOk := Lib.hid hok
    have HO := Lib.hid hO
    have HW := Lib.hid hW
    have hdi : decide ((i : Int) < (N.length : Int)) = true := decide_eq_true (by omega)
    have hc0 := (BoxAt.new w x).c.1
    obtain ⟨s1, s2, s3, s4⟩ := (BoxAt.new w x).sets
    have HO2 := Lib.hid (hO.below ((Below.refl w.heap.size w).alloc (Nat.le_refl _) (.cells (nd9 x).toArray 41)))
    have HW2 := Lib.hid (hW.trans ((Below.refl W.heap.size w).alloc hW.size (.cells (nd9 x).toArray 41)))
    have HB2 := Lib.hid ((Below.refl W.heap.size w).alloc hW.size (.cells (nd9 x).toArray 41))
    have HAp := Lib.hid (Ap.of_below v ((Below.refl w.heap.size w).alloc (Nat.le_refl _) (.cells (nd9 x).toArray 41)))
    clear hr0 hr hok hO hW hk hs
    go_enter Tryd.func18, Tryd.ntmps18
    rcases hkk with h1 | h2
    · rw [h1] at hc0
      have e : (if x.k = 1 then X.emp else X.set x.s) = X.emp := if_pos h1
      rw [e]
      clear h1 e s1 s2 s3 s4
      go_wp2_with (first
        | (refine wpList_load_node rfl _ rfl b (o + i * 9) x rfl HR.out ?_)
        | (refine wpList_store_node rfl _ _ rfl x rfl rfl ?_)
        | (refine wpList_outS rfl _ _ rfl W.heap.size v D [40, 41] _ rfl rfl (by intro x hx; simp at hx; omega) rfl HO2.out (by simp; omega) HW2.out.size ?_; intro v2 w2 hO2 hB2 hA2; have HO3 := Lib.hid hO2; have HB3 := Lib.hid hB2; have HA3 := Lib.hid hA2; clear hO2 hB2 hA2))
      go_ret
      exact ⟨_, rfl, HO3.out, HB2.out.trans HB3.out, HAp.out.trans HA3.out⟩
    · rw [h2] at hc0
      have e : (if x.k = 1 then X.emp else X.set x.s) = X.set x.s := if_neg (by omega)
      rw [e]
      clear h2 e
      have HS := Lib.hid (addSet_any W.heap.size v D x.s _ HOk.out.s HO2.out (by omega) HW2.out.size (HT.out.below HW2.out hg) hg)
      go_wp2_with (first
        | (refine wpList_load_node rfl _ rfl b (o + i * 9) x rfl HR.out ?_)
        | (refine wpList_store_node rfl _ _ rfl x rfl rfl ?_))
      refine HS.out.mono ?_
      rintro e w3 ⟨v3, rfl, hO3, hB3, hA3⟩
      have HO3 := Lib.hid hO3
      clear hO3
      go_wp2_with fail
      go_ret
      exact ⟨_, rfl, HO3.out, HB2.out.trans hB3, HAp.out.trans hA3⟩
  | one i a iha =>
    intro ht v D w hO hW hD
    have hi : i < N.length := ht.1
    have hs := HSnd.out i hi
    have hk := one_kind ht.2.1
    obtain ⟨b, o, rfl, hr0, hok⟩ := HN.out.at hi
    have hr := range_kept hr0 hW
    have HR := Lib.hid hr
    simp only [root_one, abs, T.sum] at *
    generalize N.getD i default = x at *
    have HO := Lib.hid hO
    have HW := Lib.hid hW
    have hdi : decide ((i : Int) < (N.length : Int)) = true := decide_eq_true (by omega)
    have hgv : v.ownBlock ≠ some w.heap.size := fun e => by have := (hO.lt _ e).2; omega
    have hBx := BoxAt.new w x
    have HBx := Lib.hid hBx
    obtain ⟨c0, c5, c6, c7, c8⟩ := hBx.c
    have HO2 := Lib.hid (hO.below ((Below.refl w.heap.size w).alloc (Nat.le_refl _) (.cells (nd9 x).toArray 41)))
    have HW2 := Lib.hid (hW.trans ((Below.refl W.heap.size w).alloc hW.size (.cells (nd9 x).toArray 41)))
    have HB2 := Lib.hid ((Below.refl W.heap.size w).alloc hW.size (.cells (nd9 x).toArray 41))
    have HAp := Lib.hid (Ap.of_below v ((Below.refl w.heap.size w).alloc (Nat.le_refl _) (.cells (nd9 x).toArray 41)))
    have HKeep : Hid (∀ w' v', Ap (w.alloc (.cells (nd9 x).toArray 41)) v w' v' → BoxAt w' w.heap.size x) := Lib.hid (fun w' v' h => ⟨by rw [h.block w.heap.size (by simp) hgv]; exact hBx.row⟩)
    have HSz : Hid ((w.alloc (.cells (nd9 x).toArray 41)).heap.size = w.heap.size + 1) := Lib.hid (by simp)
    have HSub : Hid (∀ t, Is N t → (N.getD t.root default).k = (abs N t).kd) := Lib.hid (fun t h => (kd_abs h (HSnd.out _ h.lt)).symm)
    clear hr0 hr hok hO hW hgv hBx
    obtain ⟨hk5, hka⟩ := hk
    rw [hk5] at c0
    rw [hka] at c5
    have HCo : Hid (countable x.mn x.mx = true) := Lib.hid (by
      unfold sound at hs
      rw [if_neg (by omega), if_neg (by omega), if_neg (by omega), if_pos hk5] at hs
      simp only [Bool.and_eq_true] at hs
      exact hs.2)
    have HIs := Lib.hid ht
    have HIh := Lib.hid (iha ht.2.2.2)
    have hpa := prX_len N a
    have HPa := Lib.hid hpa
    have hsp := T.sum_pos a
    clear iha ht hs hk5 hka c6
    go_enter Tryd.func18, Tryd.ntmps18
    go_wp2_with (first
      | (refine wpList_load_node rfl _ rfl b (o + i * 9) x rfl HR.out ?_)
      | (refine wpList_store_node rfl _ _ rfl x rfl rfl ?_))
    generalize (w.alloc (.cells (nd9 x).toArray 41)) = w1 at *
    have hL := bytes_lit w1 [3, 4, 5] (by decide) #[.int .u8 3, .int .u8 4, .int .u8 5] rfl (by decide)
    rw [HSz.out] at hL
    have hal1 := (Below.refl w1.heap.size w1).alloc (Nat.le_refl _) (.cells #[.int .u8 3, .int .u8 4, .int .u8 5] 5)
    have hal2 := (Below.refl W.heap.size w1).alloc HW2.out.size (.cells #[.int .u8 3, .int .u8 4, .int .u8 5] 5)
    refine (addBelow_any W _ N HN.out a.root (a.sum fun _ => 1) (prX (abs N a)) HIh.out hpa (HIs.out.2.2.2.lt) v _ D [3, 4, 5] _ (HO2.out.below hal1) (HW2.out.trans hal2) hL (by decide) (by omega)).mono ?_
    rw [HSub.out a HIs.out.2.2.2, hasK_tim _ (kd_lt _)]
    rintro e w3 ⟨v3, rfl, hO3, hB3, hA3⟩
    have hA13 := (Ap.of_below v hal1).trans hA3
    have HO3 := Lib.hid hO3
    have HB3 := Lib.hid (HB2.out.trans (hal2.trans hB3))
    have HA3 := Lib.hid (HAp.out.trans hA13)
    obtain ⟨-, -, -, d7, d8⟩ := (HKeep.out _ _ hA13).c
    have HW3 : Hid (W.heap.size ≤ w3.heap.size) := Lib.hid (Nat.le_trans HW.out.size HB3.out.size)
    have hwl := wr_len (decide (2 < (abs N a).kd)) (prX (abs N a))
    have HD3 : Hid ((D ++ wr (decide (2 < (abs N a).kd)) (prX (abs N a))).length ≤ 500000000) := Lib.hid (by rw [List.length_append]; omega)
    clear hL hal1 hal2 hO3 hB3 hA3 hA13 hwl hpa
    go_wp2_with fail
    refine (addTimes_any W.heap.size v3 _ x.mn x.mx HCo.out w3 HO3.out HD3.out HW3.out).mono ?_
    rintro e w4 ⟨v4, rfl, hO4, hB4, hA4⟩
    have HO4 := Lib.hid hO4
    clear hO4
    go_wp2_with fail
    go_ret
    refine ⟨_, rfl, ?_, HB3.out.trans hB4, HA3.out.trans hA4⟩
    have := HO4.out
    rw [List.append_assoc] at this
    exact this
  | two i a b' iha ihb =>
    intro ht v D w hO hW hD
    have hi : i < N.length := ht.1
    have hs := HSnd.out i hi
    have hk := two_kind ht.2.1
    obtain ⟨b, o, rfl, hr0, hok⟩ := HN.out.at hi
    have hr := range_kept hr0 hW
    have HR := Lib.hid hr
    simp only [root_two, abs, T.sum] at *
    generalize N.getD i default = x at *
    have HO := Lib.hid hO
    have HW := Lib.hid hW
    have hdi : decide ((i : Int) < (N.length : Int)) = true := decide_eq_true (by omega)
    have hgv : v.ownBlock ≠ some w.heap.size := fun e => by have := (hO.lt _ e).2; omega
    have hBx := BoxAt.new w x
    have HBx := Lib.hid hBx
    obtain ⟨c0, c5, c6, c7, c8⟩ := hBx.c
    have HO2 := Lib.hid (hO.below ((Below.refl w.heap.size w).alloc (Nat.le_refl _) (.cells (nd9 x).toArray 41)))
    have HW2 := Lib.hid (hW.trans ((Below.refl W.heap.size w).alloc hW.size (.cells (nd9 x).toArray 41)))
    have HB2 := Lib.hid ((Below.refl W.heap.size w).alloc hW.size (.cells (nd9 x).toArray 41))
    have HAp := Lib.hid (Ap.of_below v ((Below.refl w.heap.size w).alloc (Nat.le_refl _) (.cells (nd9 x).toArray 41)))
    have HKeep : Hid (∀ w' v', Ap (w.alloc (.cells (nd9 x).toArray 41)) v w' v' → BoxAt w' w.heap.size x) := Lib.hid (fun w' v' h => ⟨by rw [h.block w.heap.size (by simp) hgv]; exact hBx.row⟩)
    have HSz : Hid ((w.alloc (.cells (nd9 x).toArray 41)).heap.size = w.heap.size + 1) := Lib.hid (by simp)
    have HSub : Hid (∀ t, Is N t → (N.getD t.root default).k = (abs N t).kd) := Lib.hid (fun t h => (kd_abs h (HSnd.out _ h.lt)).symm)
    clear hr0 hr hok hO hW hgv hBx
    obtain ⟨hk34, hka, hkb⟩ := hk
    rw [hka] at c5
    rw [hkb] at c6
    have HIs := Lib.hid ht
    have HIa := Lib.hid (iha ht.2.2.2.2.1)
    have HIb := Lib.hid (ihb ht.2.2.2.2.2)
    have hpa := prX_len N a
    have hpb := prX_len N b'
    have HPa := Lib.hid hpa
    have HPb := Lib.hid hpb
    have hsp := T.sum_pos a
    have hsq := T.sum_pos b'
    clear iha ihb ht hs hka hkb c7 c8
    go_enter Tryd.func18, Tryd.ntmps18
    rcases hk34 with hk3 | hk4
    · have HX : Hid ((if x.k = 3 then X.seq (abs N a) (abs N b') else X.alt (abs N a) (abs N b')) = X.seq (abs N a) (abs N b')) := Lib.hid (if_pos hk3)
      rw [HX.out]
      rw [hk3] at c0
      clear hk3
      go_wp2_with (first
        | (refine wpList_load_node rfl _ rfl b (o + i * 9) x rfl HR.out ?_)
        | (refine wpList_store_node rfl _ _ rfl x rfl rfl ?_))
      generalize (w.alloc (.cells (nd9 x).toArray 41)) = w1 at *
      have hL := bytes_lit w1 [4] (by decide) #[.int .u8 4] rfl (by decide)
      rw [HSz.out] at hL
      have hal1 := (Below.refl w1.heap.size w1).alloc (Nat.le_refl _) (.cells #[.int .u8 4] 5)
      have hal2 := (Below.refl W.heap.size w1).alloc HW2.out.size (.cells #[.int .u8 4] 5)
      refine (addBelow_any W _ N HN.out a.root (a.sum fun _ => 1) (prX (abs N a)) HIa.out hpa (HIs.out.2.2.2.2.1.lt) v _ D [4] _ (HO2.out.below hal1) (HW2.out.trans hal2) hL (by decide) (by omega)).mono ?_
      rw [HSub.out a HIs.out.2.2.2.2.1, hasK_alt]
      rintro e w3 ⟨v3, rfl, hO3, hB3, hA3⟩
      have hA13 := (Ap.of_below v hal1).trans hA3
      have HO3 := Lib.hid hO3
      have HB3 := Lib.hid (HB2.out.trans (hal2.trans hB3))
      have HA3 := Lib.hid (HAp.out.trans hA13)
      have d6 := (HKeep.out _ _ hA13).c.2.2.1
      rw [show x.b = (b'.root : Int) from by have := c6; have h2 := (HBx.out).c.2.2.1; rw [h2] at this; injection this with this; injection this] at d6
      have HW3 : Hid (W.heap.size ≤ w3.heap.size) := Lib.hid (Nat.le_trans HW.out.size HB3.out.size)
      have hwl := wr_len ((abs N a).kd == 4) (prX (abs N a))
      have HD3 : Hid ((D ++ wr ((abs N a).kd == 4) (prX (abs N a))).length + 1 + 2400 * (b'.sum fun _ => 1) ≤ 100000000) := Lib.hid (by rw [List.length_append]; omega)
      clear hL hal1 hal2 hO3 hB3 hA3 hA13 hwl hpa
      go_wp2_with fail
      have hL := bytes_lit w3 [4, 3] (by decide) #[.int .u8 4, .int .u8 3] rfl (by decide)
      have hal1 := (Below.refl w3.heap.size w3).alloc (Nat.le_refl _) (.cells #[.int .u8 4, .int .u8 3] 5)
      have hal2 := (Below.refl W.heap.size w3).alloc HW3.out (.cells #[.int .u8 4, .int .u8 3] 5)
      refine (addBelow_any W _ N HN.out b'.root (b'.sum fun _ => 1) (prX (abs N b')) HIb.out hpb (HIs.out.2.2.2.2.2.lt) v3 _ _ [4, 3] _ (HO3.out.below hal1) ((HW.out.trans HB3.out).trans hal2) hL (by decide) HD3.out).mono ?_
      rw [HSub.out b' HIs.out.2.2.2.2.2, hasK_seq]
      rintro e w4 ⟨v4, rfl, hO4, hB4, hA4⟩
      have HO4 := Lib.hid hO4
      have HB4 := Lib.hid (HB3.out.trans (hal2.trans hB4))
      have HA4 := Lib.hid (HA3.out.trans ((Ap.of_below v3 hal1).trans hA4))
      clear hO4 hL hal1 hal2 hB4 hA4
      go_wp2_with fail
      go_ret
      refine ⟨_, rfl, ?_, HB4.out, HA4.out⟩
      have := HO4.out
      rw [List.append_assoc] at this
      exact this
    · have HX : Hid ((if x.k = 3 then X.seq (abs N a) (abs N b') else X.alt (abs N a) (abs N b')) = X.alt (abs N a) (abs N b')) := Lib.hid (if_neg (by omega))
      rw [HX.out]
      rw [hk4] at c0
      clear hk4
      go_wp2_with (first
        | (refine wpList_load_node rfl _ rfl b (o + i * 9) x rfl HR.out ?_)
        | (refine wpList_store_node rfl _ _ rfl x rfl rfl ?_))
      generalize (w.alloc (.cells (nd9 x).toArray 41)) = w1 at *
      refine (HIa.out v D w1 HO2.out HW2.out (by omega)).mono ?_
      rintro e w3 ⟨v3, rfl, hO3, hB3, hA3⟩
      have HO3 := Lib.hid hO3
      have HB3 := Lib.hid (HB2.out.trans hB3)
      have HA3 := Lib.hid hA3
      have HW3 : Hid (W.heap.size ≤ w3.heap.size) := Lib.hid (Nat.le_trans HW.out.size HB3.out.size)
      have HD3 : Hid ((D ++ prX (abs N a)).length + 1 + 1 + 2400 * (b'.sum fun _ => 1) ≤ 100000000) := Lib.hid (by rw [List.length_append]; omega)
      clear hO3 hB3 hA3 hpa
      go_wp2_with (refine wpList_out rfl _ _ rfl W.heap.size v3 _ [124] _ rfl rfl HO3.out rfl (by have := HD3.out; simp only [List.length_append, List.length_cons, List.length_nil] at this ⊢; omega) HW3.out ?_; intro v4 w4 hO4 hB4 hA4; have HO4 := Lib.hid hO4; have HB4 := Lib.hid (HB3.out.trans hB4); have HA4 := Lib.hid (HA3.out.trans hA4); have d6 := (HKeep.out _ _ (HA3.out.trans hA4)).c.2.2.1; rw [show x.b = (b'.root : Int) from by have := c6; have h2 := (HBx.out).c.2.2.1; rw [h2] at this; injection this with this; injection this] at d6; have HW4 : Hid (W.heap.size ≤ w4.heap.size) := Lib.hid (Nat.le_trans HW3.out hB4.size); clear hO4 hB4 hA4)
      have hL := bytes_lit w4 [4] (by decide) #[.int .u8 4] rfl (by decide)
      have hal1 := (Below.refl w4.heap.size w4).alloc (Nat.le_refl _) (.cells #[.int .u8 4] 5)
      have hal2 := (Below.refl W.heap.size w4).alloc HW4.out (.cells #[.int .u8 4] 5)
      refine (addBelow_any W _ N HN.out b'.root (b'.sum fun _ => 1) (prX (abs N b')) HIb.out hpb (HIs.out.2.2.2.2.2.lt) v4 _ _ [4] _ (HO4.out.below hal1) ((HW.out.trans HB4.out).trans hal2) hL (by decide) (by have := HD3.out; simp only [List.length_append, List.length_cons, List.length_nil] at this ⊢; omega)).mono ?_
      rw [HSub.out b' HIs.out.2.2.2.2.2, hasK_alt]
      rintro e w5 ⟨v5, rfl, hO5, hB5, hA5⟩
      have HO5 := Lib.hid hO5
      have HB5 := Lib.hid (HB4.out.trans (hal2.trans hB5))
      have HA5 := Lib.hid (HAp.out.trans (HA4.out.trans ((Ap.of_below v4 hal1).trans hA5)))
      clear hO5 hL hal1 hal2 hB5 hA5
      go_wp2_with fail
      go_ret
      refine ⟨_, rfl, ?_, HB5.out, HA5.out⟩
      have := HO5.out
      rw [List.append_assoc, List.append_assoc] at this
      exact this
end Go.Proofs.YtbmoanhdpnaocaaDoor
namespace Go.Proofs.YtbmoanhdpnaocaaDoor
open Go.RowKit Sets Tr
noncomputable def prOf (N : List Nd) (R : List (Int × Bool)) : List Nat := if rightB N R then pr N R else []
noncomputable def sSum (N : List Nd) (R : List (Int × Bool)) : Nat := (R.map fun p => (tr N p.1.toNat).sum fun _ => 1).sum
theorem sSum_snoc (N : List Nd) (R : List (Int × Bool)) (q : Nat) (hq : q < R.length) : sSum N (R.take (q + 1)) = sSum N (R.take q) + (tr N (R.getD q default).1.toNat).sum fun _ => 1 := by
  unfold sSum
  rw [take_snoc R q hq]
  simp only [List.map_append, List.sum_append, List.map_cons, List.map_nil, List.sum_cons, List.sum_nil, Nat.add_zero]
theorem sSum_all {N : List Nd} {R : List (Int × Bool)} (h : Right N R) : sSum N R = N.length := by
  have := size_roots h
  unfold roots at this
  rw [List.map_map] at this
  exact this
theorem sSum_take (N : List Nd) (R : List (Int × Bool)) (q : Nat) : sSum N (R.take q) ≤ sSum N R := by
  have e : sSum N R = sSum N (R.take q) + sSum N (R.drop q) := by
    unfold sSum
    rw [← List.sum_append, ← List.map_append, List.take_append_drop]
  omega
theorem prParts_len (N : List Nd) : ∀ (R : List (Int × Bool)) (i : Nat), (prParts i (parts N R)).length ≤ 2400 * sSum N R + 2 * R.length := by
  intro R
  induction R with
  | nil => intro i; simp [parts, prParts, sSum]
  | cons p R ih =>
    intro i
    have h1 := ih (i + 1)
    have h2 := prX_len N (tr N p.1.toNat)
    simp only [parts, List.map_cons, prParts, List.length_append, sSum, List.sum_cons, List.length_cons] at *
    have h3 : (if 0 < i then [38] else ([] : List Nat)).length ≤ 1 := by split <;> simp
    have h4 : (if p.2 = true then [33] else ([] : List Nat)).length ≤ 1 := by split <;> simp
    omega
theorem prParts_snoc (N : List Nd) (R : List (Int × Bool)) (q : Nat) (hq : q < R.length) :
    prParts 0 (parts N (R.take (q + 1))) = prParts 0 (parts N (R.take q)) ++ (if 0 < q then [38] else []) ++ (if (R.getD q default).2 then [33] else []) ++ prX (abs N (tr N (R.getD q default).1.toNat)) := by
  unfold parts
  rw [take_snoc R q hq, List.map_append, List.map_cons, List.map_nil, prParts_append, List.length_map, List.length_take, Nat.min_eq_left (by omega), Nat.zero_add]
  simp only [prParts, List.append_nil, List.append_assoc]
set_option maxHeartbeats 6400000 in
set_option maxRecDepth 100000 in
theorem print_any (nv pv : Value) (N : List Nd) (R : List (Int × Bool)) (w : World) (hN : NodesAt w nv N) (hP : PartsAt w pv R) (hT : Tab w) (hg : 0 < w.heap.size) :
    Calls Tryd.prog 7 #[.agg #[nv, pv]] w fun e w' => e = .returned (.string (strN (prOf N R))) ∧ Below w.heap.size w w' := by
  have HRt := fun w hN hP => right_any nv pv N R w hN hP
  have hAdd := fun snd => addNode_any w nv N hN snd hT hg
  have HAdd := Lib.hid hAdd
  have HN := Lib.hid hN
  have HP := Lib.hid hP
  obtain ⟨na, nc, rfl⟩ : ∃ a c, nv = .slice a N.length c := by obtain ⟨-, -, a, c, e, -⟩ := hN; exact ⟨a, c, e⟩
  obtain ⟨pa, pc, rfl⟩ : ∃ a c, pv = .slice a R.length c := by obtain ⟨-, -, a, c, e, -⟩ := hP; exact ⟨a, c, e⟩
  clear hN hP hAdd hT
  have hb0 := (Below.refl w.heap.size w).alloc (Nat.le_refl _) (.cells #[.slice na N.length nc, .slice pa R.length pc] 25)
  have HB0 := Lib.hid hb0
  have HRt := Lib.hid (HRt _ (HN.out.kept hb0) (HP.out.kept hb0))
  clear hb0
  go_enter Tryd.func7, Tryd.ntmps7
  by_cases hr : Right N R
  case neg =>
    have hrb := rightB_false hr
    have hpl : strN (prOf N R) = ⟨#[]⟩ := by unfold prOf; rw [hrb]; rfl
    rw [hpl]
    rw [hrb] at HRt
    clear hr hrb hpl
    go_wp2_with (go_at_call 6; refine HRt.out.mono ?_; rintro e w2 ⟨rfl, hB2⟩; have HB2 := Lib.hid (HB0.out.trans (hB2.mono (by simp))); clear hB2)
    go_ret
    exact ⟨rfl, HB2.out⟩
  case pos =>
    have hrb := rightB_true hr
    have hpl : prOf N R = pr N R := by unfold prOf; rw [hrb]; rfl
    rw [hpl]
    rw [hrb] at HRt
    have HR := Lib.hid hr
    have HF := Lib.hid hr.few
    have hn6 : N.length ≤ 600 := hr.few.2.2
    have hp20 : R.length ≤ 20 := hr.few.2.1
    clear hr hrb hpl
    go_wp2_with (go_at_call 6; refine HRt.out.mono ?_; rintro e w2 ⟨rfl, hB2⟩; have HB2 := Lib.hid (HB0.out.trans (hB2.mono (by simp))); have HS0 : Hid (w.heap.size < w2.heap.size) := Lib.hid (by have := hB2.size; simp at this; omega); have ht0 : w2.cell? ⟨w.heap.size, 0, none⟩ = some (.slice na N.length nc) := ((hB2.cell (by simp)).trans (by simp)); have ht1 : w2.cell? ⟨w.heap.size, 1, none⟩ = some (.slice pa R.length pc) := ((hB2.cell (by simp)).trans (by simp)); clear hB2)
    have HT0 := Lib.hid ht0
    clear ht0 ht1
    go_loopw [12, 3] (fun x u wr => ∃ m : Nat, x = .int .i64 m ∧ m ≤ R.length ∧ Hid (Out w.heap.size wr u (prParts 0 (parts N (R.take m)))) ∧ Hid (Below w.heap.size w wr) ∧ Hid (Ap w2 (.slice none 0 0) wr u)) (fun x _ _ => (R.length - intOf x).toNat)
    case atStart => exact ⟨0, rfl, Nat.zero_le _, Lib.hid (by rw [List.take_zero]; exact Out.nil _ _), HB2, Lib.hid (Ap.refl _ _)⟩
    case round =>
      obtain ⟨m, rfl, hm, HO, HB, HA⟩ := hrel
      generalize hwr : wr = w6 at *
      clear hwr wr
      by_cases hml : m < R.length
      · have hdm : decide ((m : Int) < (R.length : Int)) = true := decide_eq_true (by omega)
        obtain ⟨b, o, rfl, hr0, hok⟩ := HP.out.at hml
        have hr1 := range_kept hr0 HB.out
        have hrt := HR.out.rts (R.getD m default).1 (List.mem_map.2 ⟨_, (by rw [List.getD_eq_getElem?_getD, List.getElem?_eq_getElem hml]; exact List.getElem_mem hml), rfl⟩)
        have hsn := prParts_snoc N R m hml
        have hss := sSum_snoc N R m hml
        have hst := sSum_take N R (m + 1)
        have hsa := sSum_all HR.out
        have hpl := prParts_len N (R.take m) 0
        rw [List.length_take, Nat.min_eq_left hm] at hpl
        obtain ⟨X, hX⟩ : ∃ X, X = R.getD m default := ⟨_, rfl⟩
        rw [← hX] at hr1 hok hrt hsn hss
        clear hX
        obtain ⟨rt, nt⟩ := X
        simp only at hrt hsn hss
        obtain ⟨k, rfl⟩ : ∃ k : Nat, rt = (k : Int) := ⟨rt.toNat, by omega⟩
        rw [Int.toNat_natCast] at hsn hss
        have c0 : w6.cell? ⟨b, o + m * 2, none⟩ = some (.int .i64 k) := hr1 0 _ rfl
        have c1 : w6.cell? ⟨b, o + m * 2 + 1, none⟩ = some (.bool nt) := hr1 1 _ rfl
        have hkn : k < N.length := by omega
        obtain ⟨t, hIs, hroot⟩ := is_of_low HR.out.low k hkn
        have htr : tr N k = t := by rw [← hroot]; exact tr_of hIs
        rw [htr] at hsn hss
        have hadd := HAdd.out HR.out.snd t hIs
        rw [hroot] at hadd
        have HAd := Lib.hid hadd
        have HSN := Lib.hid hsn
        generalize hP0 : prParts 0 (parts N (R.take m)) = P at *
        have HLen : Hid (P.length + 4 + 2400 * (t.sum fun _ => 1) ≤ 100000000) := Lib.hid (by omega)
        clear hr0 hr1 hok hrt hsn hss hst hsa hpl hadd hP0 hIs hroot htr
        have hgv : u3.ownBlock ≠ some w6.heap.size := fun e => by have := (HO.out.lt _ e).2; omega
        have HO7 := Lib.hid (HO.out.below ((Below.refl w6.heap.size w6).alloc (Nat.le_refl _) (.cells #[.int .i64 k, .bool nt] 43)))
        have HB7 := Lib.hid (HB.out.alloc HB.out.size (.cells #[.int .i64 k, .bool nt] 43))
        have HA7 := Lib.hid (HA.out.trans (Ap.of_below u3 ((Below.refl w6.heap.size w6).alloc (Nat.le_refl _) (.cells #[.int .i64 k, .bool nt] 43))))
        have HC0 : Hid ((w6.alloc (.cells #[.int .i64 k, .bool nt] 43)).cell? ⟨w6.heap.size, 0, none⟩ = some (.int .i64 k)) := Lib.hid (by simp)
        have HC1 : Hid ((w6.alloc (.cells #[.int .i64 k, .bool nt] 43)).cell? ⟨w6.heap.size, 1, none⟩ = some (.bool nt)) := Lib.hid (by simp)
        have HSz : Hid (w6.heap.size < (w6.alloc (.cells #[.int .i64 k, .bool nt] 43)).heap.size) := Lib.hid (by simp)
        have HGV := Lib.hid hgv
        clear hgv HRt
        go_upto_if 18 with fail
        generalize (w6.alloc (.cells #[.int .i64 k, .bool nt] 43)) = w7 at *
        generalize w6.heap.size = g at *
        clear c0 c1
        go_cut [3, 12] from 12 to 33 (fun u x wr => x = .int .i64 m ∧ Hid (Out w.heap.size wr u (P ++ if 0 < m then [38] else [])) ∧ Hid (Ap w7 u3 wr u) ∧ Hid (Below w.heap.size w7 wr))
        case first =>
          by_cases hm0 : 0 < m
          · have hd : decide ((0 : Int) < (m : Int)) = true := decide_eq_true (by omega)
            have HM := Lib.hid hm0
            clear hm0
            go_wp2_with (refine wpList_out rfl _ _ rfl w.heap.size u3 P [38] _ rfl rfl HO7.out rfl (by have := HLen.out; simp; omega) HB7.out.size ?_; intro v8 w8 hO8 hB8 hA8; have HO8 := Lib.hid hO8; have HB8 := Lib.hid hB8; have HA8 := Lib.hid hA8; clear hO8 hB8 hA8)
            go_meet
            case rel => exact ⟨rfl, Lib.hid (by rw [if_pos HM.out]; exact HO8.out), HA8, HB8⟩
          · have hd : decide ((0 : Int) < (m : Int)) = false := decide_eq_false (by omega)
            have HM := Lib.hid hm0
            clear hm0
            go_wp2_with fail
            go_meet
            case rel => exact ⟨rfl, Lib.hid (by rw [if_neg HM.out, List.append_nil]; exact HO7.out), Lib.hid (Ap.refl _ _), Lib.hid (Below.refl _ _)⟩
        case rest =>
          obtain ⟨rfl, HO8, HA8, HB8⟩ := hcut
          generalize hwc : wc = w8 at *
          clear hwc wc
          obtain ⟨Q, hQ⟩ : ∃ Q, Q = P ++ (if 0 < m then [38] else []) := ⟨_, rfl⟩
          have HQL : Hid (Q.length + 2 + 2400 * (t.sum fun _ => 1) ≤ 100000000) := Lib.hid (by
            have := HLen.out
            rw [hQ, List.length_append]
            split <;> simp <;> omega)
          rw [← hQ] at HO8 HSN
          clear hQ
          have HA9 := Lib.hid (HA7.out.trans HA8.out)
          have HB9 := Lib.hid (HB7.out.trans HB8.out)
          have hd0 : w8.cell? ⟨g, 0, none⟩ = some (.int .i64 k) := (World.cell?_of_block (w := w7) (HA8.out.block g HSz.out HGV.out)).trans HC0.out
          have hd1 : w8.cell? ⟨g, 1, none⟩ = some (.bool nt) := (World.cell?_of_block (w := w7) (HA8.out.block g HSz.out HGV.out)).trans HC1.out
          have hg8 : g < w8.heap.size := Nat.lt_of_lt_of_le HSz.out HA8.out.size
          have hgv8 : u3.ownBlock ≠ some g := fun e => by
            rcases HA8.out.own g e with h | h
            · exact HGV.out h
            · have := HSz.out; omega
          have HG8 := Lib.hid hg8
          have HGV8 := Lib.hid hgv8
          have HD0 := Lib.hid hd0
          clear hg8 hgv8 hd0 HO HA HO7 HA7 HA8 HB8 HC0 HC1
          go_upto_if 23 with fail
          go_cut [3, 12] from 12 to 33 (fun u x wr => x = .int .i64 m ∧ Hid (Out w.heap.size wr u (Q ++ if nt then [33] else [])) ∧ Hid (Ap w8 u3 wr u) ∧ Hid (Below w.heap.size w8 wr))
          case first =>
            cases nt
            · go_wp2_with fail
              go_meet
              case rel => exact ⟨rfl, Lib.hid (by rw [if_neg (by decide), List.append_nil]; exact HO8.out), Lib.hid (Ap.refl _ _), Lib.hid (Below.refl _ _)⟩
            · go_wp2_with (refine wpList_out rfl _ _ rfl w.heap.size u3 Q [33] _ rfl rfl HO8.out rfl (by have := HQL.out; simp; omega) HB9.out.size ?_; intro v9 w9 hO9 hB9 hA9; have HO10 := Lib.hid hO9; have HB10 := Lib.hid hB9; have HA10 := Lib.hid hA9; clear hO9 hB9 hA9)
              go_meet
              case rel => exact ⟨rfl, Lib.hid (by (first | rw [if_pos rfl] | rw [if_pos trivial]); exact HO10.out), HA10, HB10⟩
          case rest =>
            obtain ⟨rfl, HO10, HA10, HB10⟩ := hcut
            generalize hwc : wc = w9 at *
            clear hwc wc
            have hd0 : w9.cell? ⟨g, 0, none⟩ = some (.int .i64 k) := (World.cell?_of_block (w := w8) (HA10.out.block g HG8.out HGV8.out)).trans HD0.out
            have HA11 := Lib.hid (HA9.out.trans HA10.out)
            have HB11 := Lib.hid (HB9.out.trans HB10.out)
            have ht0 : w9.cell? ⟨w.heap.size, 0, none⟩ = some (.slice na N.length nc) := (World.cell?_of_block (w := w2) (HA11.out.block w.heap.size HS0.out (by simp [Value.ownBlock]))).trans HT0.out
            obtain ⟨Z, hZ⟩ : ∃ Z, Z = Q ++ (if nt = true then [33] else []) := ⟨_, rfl⟩
            have HZL : Hid (Z.length + 2400 * (t.sum fun _ => 1) ≤ 100000000) := Lib.hid (by
              have := HQL.out
              rw [hZ, List.length_append]
              split <;> simp <;> omega)
            rw [← hZ] at HO10 HSN
            clear hZ
            go_wp2_with fail
            refine (HAd.out _ Z w9 HO10.out HB11.out HZL.out).mono ?_
            rintro e w10 ⟨v10, rfl, hO12, hB12, hA12⟩
            have HO12 := Lib.hid hO12
            have HB12 := Lib.hid (HB11.out.trans hB12)
            have HA12 := Lib.hid (HA11.out.trans hA12)
            clear hO12 hB12 hA12
            go_wp2_with fail
            go_roundw
            case rel =>
              refine ⟨m + 1, by go_num, hml, Lib.hid ?_, HB12, HA12⟩
              rw [HSN.out]
              exact HO12.out
            case measure => simp only [intOf]; omega
      · have : m = R.length := by omega
        subst this
        have hdm : decide (R.length < R.length) = false := decide_eq_false (by omega)
        rw [List.take_length] at HO
        have hpp : ∀ c ∈ pr N R, c < 256 := by
          have hok : ∀ p ∈ parts N R, OkX p.1 := by
            intro p hp
            obtain ⟨q, hq, rfl⟩ := List.mem_map.1 hp
            have hq2 := HR.out.rts q.1 (List.mem_map.2 ⟨q, hq, rfl⟩)
            obtain ⟨t, ht, hrt⟩ := is_of_low HR.out.low q.1.toNat (by omega)
            show OkX (abs N (tr N q.1.toNat))
            rw [← hrt, tr_of ht]
            refine okX_abs HR.out.snd (fun i hi => ?_) t ht
            exact (HN.out.1 _ (by rw [List.getD_eq_getElem?_getD, List.getElem?_eq_getElem hi]; exact List.getElem_mem hi)).s
          intro c hc
          have := prParts_plain (parts N R) 0 hok c hc
          omega
        have hpl := prParts_len N R 0
        have hsa := sSum_all HR.out
        have hconv := bytes_string (owns_bytes HO.out hpp (by show (prParts 0 (parts N R)).length ≤ _; unfold maxLen; omega))
        obtain ⟨oa, oc, hv, -⟩ := HO.out.slice
        have HConv := hconv
        clear hm hml hpp hpl hsa HO HRt
        have hcv : (convert 50 9 u3).run Tryd.prog w6 = .ok (.string (strN (pr N R))) w6 := hconv
        clear hconv HConv HA
        subst hv
        go_wp2_with fail
        go_ret
        exact ⟨rfl, HB.out⟩
end Go.Proofs.YtbmoanhdpnaocaaDoor
namespace Go.Proofs.YtbmoanhdpnaocaaDoor
open Go.RowKit Sets Tr
theorem flat_get {α : Type} (f : α → List Value) (k : Nat) (hf : ∀ x, (f x).length = k) (d : α) (N : List α) : ∀ (i j : Nat), i < N.length → j < k → (N.flatMap f)[i * k + j]? = (f (N.getD i d))[j]? := by
  induction N with
  | nil => intro i j hi; simp at hi
  | cons x N ih =>
    intro i j hi hj
    rw [List.flatMap_cons]
    cases i with
    | zero => rw [Nat.zero_mul, Nat.zero_add, List.getElem?_append_left (by rw [hf]; exact hj)]; rfl
    | succ i =>
      rw [List.getElem?_append_right (by rw [hf, Nat.succ_mul]; omega)]
      have e : (i + 1) * k + j - (f x).length = i * k + j := by rw [hf, Nat.succ_mul]; omega
      rw [e, ih i j (by simpa using hi) hj]
      simp
theorem nd9_len (x : Nd) : (nd9 x).length = 9 := rfl
theorem pt2_len (x : Int × Bool) : (pt2 x).length = 2 := rfl
theorem nodes_lit (w : World) (N : List Nd) (hN : ∀ x ∈ N, NdOk x) (hl : N.length ≤ 700) (cs : Array Value) (hcs : cs = (N.flatMap nd9).toArray) : NodesAt (w.alloc (.cells cs 41)) (.slice (some ⟨w.heap.size, 0, none⟩) N.length N.length) N := by
  subst hcs
  refine ⟨hN, hl, _, _, rfl, fun i hi => ⟨w.heap.size, 0, rfl, fun j v hv => ?_⟩⟩
  have hj : j < 9 := by have := (List.getElem?_eq_some_iff.1 hv).1; rwa [nd9_len] at this
  rw [World.cell?_alloc_new, List.getElem?_toArray, Nat.zero_add, flat_get nd9 9 nd9_len default N i j hi hj]
  exact hv
theorem parts_lit (w : World) (R : List (Int × Bool)) (hR : ∀ x ∈ R, I64 x.1) (hl : R.length ≤ 30) (cs : Array Value) (hcs : cs = (R.flatMap pt2).toArray) : PartsAt (w.alloc (.cells cs 43)) (.slice (some ⟨w.heap.size, 0, none⟩) R.length R.length) R := by
  subst hcs
  refine ⟨hR, hl, _, _, rfl, fun i hi => ⟨w.heap.size, 0, rfl, fun j v hv => ?_⟩⟩
  have hj : j < 2 := by have := (List.getElem?_eq_some_iff.1 hv).1; rwa [pt2_len] at this
  rw [World.cell?_alloc_new, List.getElem?_toArray, Nat.zero_add, flat_get pt2 2 pt2_len default R i j hi hj]
  exact hv
def someN : List Nd := [⟨2, ofN [97], 0, 0, 0, 0⟩, ⟨2, ofN [98], 0, 0, 0, 0⟩, ⟨3, 0, 0, 1, 0, 0⟩, ⟨1, 0, 0, 0, 0, 0⟩, ⟨4, 0, 2, 3, 0, 0⟩, ⟨2, full, 0, 0, 0, 0⟩, ⟨5, 0, 5, 0, 0, -1⟩]
def someR : List (Int × Bool) := [(4, false), (6, true)]
instance (x : Int) : Decidable (I64 x) := inferInstanceAs (Decidable (_ ∧ _))
def okN (x : Nd) : Bool := decide (x.k < 256) && decide (x.s < 2 ^ 256) && decide (I64 x.a) && decide (I64 x.b) && decide (I64 x.mn) && decide (I64 x.mx)
theorem okN_all {N : List Nd} (h : N.all okN = true) : ∀ x ∈ N, NdOk x := by
  intro x hx
  have := List.all_eq_true.1 h x hx
  simp only [okN, Bool.and_eq_true, decide_eq_true_eq] at this
  obtain ⟨⟨⟨⟨⟨h1, h2⟩, h3⟩, h4⟩, h5⟩, h6⟩ := this
  exact ⟨h1, h2, h3, h4, h5, h6⟩
theorem some_right : Right someN someR := by
  refine ⟨by decide, ?_, ?_, by decide, by decide +kernel, by decide +kernel⟩
  · decide +kernel
  · decide +kernel
def t4 : T := .two 4 (.two 2 (.leaf 0) (.leaf 1)) (.leaf 3)
def t6 : T := .one 6 (.leaf 5)
theorem is4 : Is someN t4 := by unfold t4; refine ⟨by decide, by decide, by decide, by decide, ⟨by decide, by decide, by decide, by decide, ⟨by decide, by decide⟩, ⟨by decide, by decide⟩⟩, ⟨by decide, by decide⟩⟩
theorem is6 : Is someN t6 := by unfold t6; refine ⟨by decide, by decide, by decide, ⟨by decide, by decide⟩⟩
theorem tr4 : tr someN 4 = t4 := tr_of is4
theorem tr6 : tr someN 6 = t6 := tr_of is6
theorem pr_some : prOf someN someR = [97, 98, 124, 40, 41, 38, 33, 46, 42] := by
  unfold prOf
  rw [rightB_true some_right, if_pos rfl]
  show prParts 0 [(abs someN (tr someN 4), false), (abs someN (tr someN 6), true)] = _
  rw [tr4, tr6]
  decide +kernel
theorem pl_some : plOf someN someR = 3 := by
  unfold plOf
  rw [rightB_true some_right, if_pos rfl]
  show min (([(pl someN (tr someN 4)), (pl someN (tr someN 6))] : List Nat).sum) cap = _
  rw [tr4, tr6]
  decide +kernel
theorem dp_some : dpOf someN someR = 3 := by
  unfold dpOf
  rw [rightB_true some_right, if_pos rfl]
  show ([((tr someN 4).dep), ((tr someN 6).dep)] : List Nat).foldl max 0 = _
  rw [tr4, tr6]
  decide +kernel
end Go.Proofs.YtbmoanhdpnaocaaDoor
namespace Go.Proofs.YtbmoanhdpnaocaaDoor
open Go.RowKit Sets Tr
def someC : Array Value := #[.int .u8 2, .int .u64 (wd (ofN [97]) 0), .int .u64 (wd (ofN [97]) 1), .int .u64 (wd (ofN [97]) 2), .int .u64 (wd (ofN [97]) 3), .int .i64 0, .int .i64 0, .int .i64 0, .int .i64 0, .int .u8 2, .int .u64 (wd (ofN [98]) 0), .int .u64 (wd (ofN [98]) 1), .int .u64 (wd (ofN [98]) 2), .int .u64 (wd (ofN [98]) 3), .int .i64 0, .int .i64 0, .int .i64 0, .int .i64 0, .int .u8 3, .int .u64 0, .int .u64 0, .int .u64 0, .int .u64 0, .int .i64 0, .int .i64 1, .int .i64 0, .int .i64 0, .int .u8 1, .int .u64 0, .int .u64 0, .int .u64 0, .int .u64 0, .int .i64 0, .int .i64 0, .int .i64 0, .int .i64 0, .int .u8 4, .int .u64 0, .int .u64 0, .int .u64 0, .int .u64 0, .int .i64 2, .int .i64 3, .int .i64 0, .int .i64 0, .int .u8 2, .int .u64 (wd (full) 0), .int .u64 (wd (full) 1), .int .u64 (wd (full) 2), .int .u64 (wd (full) 3), .int .i64 0, .int .i64 0, .int .i64 0, .int .i64 0, .int .u8 5, .int .u64 0, .int .u64 0, .int .u64 0, .int .u64 0, .int .i64 5, .int .i64 0, .int .i64 0, .int .i64 (-1)]
theorem someC_eq : someC = (someN.flatMap nd9).toArray := by
  simp [someC, someN, nd9, wd_zero]
def someD : Array Value := #[.int .i64 4, .bool false, .int .i64 6, .bool true]
theorem someD_eq : someD = (someR.flatMap pt2).toArray := rfl
def Trees (w0 : World) (N : List Nd) (R : List (Int × Bool)) (e : Ending) (w : World) : Prop := ∃ nv pv, e = .returned (.agg #[nv, pv]) ∧ NodesAt w nv N ∧ PartsAt w pv R ∧ Below w0.heap.size w0 w
theorem sizeTree : (Tryd.prog.info? 25).map (·.size) = some 2 := by kernel_rfl
theorem wpList_store_tree {ops : Array Oper} {rest : List Oper} {o : Oper} {a : Act} {w : World} {Q : Exit → Act → World → Prop} (hgd : o.guard = none) (x y : Operand)
    (ho : o.op = .store 25 x y) (g : Nat) (a1 a2 : Option Addr) (n1 c1 n2 c2 : Nat) (hx : a.eval x = .pointer (some ⟨g, 0, none⟩)) (hy : a.eval y = .agg #[.slice a1 n1 c1, .slice a2 n2 c2]) (u v : Value)
    (hg : w.heap[g]? = some (.cells #[u, v] 25 (0, 0)))
    (h : wpList Tryd.prog ops Q rest (a.put o.dst undef) (w.setRow g #[.slice a1 n1 c1, .slice a2 n2 c2])) : wpList Tryd.prog ops Q (o :: rest) a w :=
  wpList_store_row hgd 25 x y ho g #[.slice a1 n1 c1, .slice a2 n2 c2] hx hy 25 #[u, v] hg sizeTree rfl (by simp [Value.oneCell']) h
theorem nodes_keep {w w' : World} {b o n c : Nat} {N : List Nd} (h : NodesAt w (.slice (some ⟨b, o, none⟩) n c) N) (e : w'.heap[b]? = w.heap[b]?) : NodesAt w' (.slice (some ⟨b, o, none⟩) n c) N := by
  obtain ⟨h1, h2, a, cap, h3, h4⟩ := h
  refine ⟨h1, h2, a, cap, h3, fun i hi => ?_⟩
  obtain ⟨b', o', e1, hr⟩ := h4 i hi
  refine ⟨b', o', e1, fun j v hv => ?_⟩
  rw [← hr j v hv]
  cases h3
  cases e1
  exact World.cell?_of_block (w := w) e
theorem parts_keep {w w' : World} {b o n c : Nat} {N : List (Int × Bool)} (h : PartsAt w (.slice (some ⟨b, o, none⟩) n c) N) (e : w'.heap[b]? = w.heap[b]?) : PartsAt w' (.slice (some ⟨b, o, none⟩) n c) N := by
  obtain ⟨h1, h2, a, cap, h3, h4⟩ := h
  refine ⟨h1, h2, a, cap, h3, fun i hi => ?_⟩
  obtain ⟨b', o', e1, hr⟩ := h4 i hi
  refine ⟨b', o', e1, fun j v hv => ?_⟩
  rw [← hr j v hv]
  cases h3
  cases e1
  exact World.cell?_of_block (w := w) e
end Go.Proofs.YtbmoanhdpnaocaaDoor
namespace Go.Proofs.YtbmoanhdpnaocaaDoor
open Go.RowKit Sets Tr
theorem tab_lt {w : World} (h : Tab w) : 0 < w.heap.size := World.block_lt_of_cell? _ _ (h 0 (by decide))
theorem lit_some : strN (prOf someN someR) = ⟨#[97, 98, 124, 40, 41, 38, 33, 46, 42]⟩ := by rw [pr_some]; rfl
def greatB (n p : Nat) : Bool := decide (700 < n) || decide (30 < p)
set_option maxHeartbeats 1600000 in
set_option maxRecDepth 100000 in
theorem great_any (na pa : Option Addr) (n nc p pc : Nat) (w : World) : Calls Tryd.prog 4 #[.agg #[.slice na n nc, .slice pa p pc]] w fun e w' => e = .returned (.bool (greatB n p)) ∧ Below w.heap.size w w' := by
  have HB0 := Lib.hid ((Below.refl w.heap.size w).alloc (Nat.le_refl _) (.cells #[.slice na n nc, .slice pa p pc] 25))
  go_enter Tryd.func4, Tryd.ntmps4
  by_cases h1 : 700 < n
  · have d1 : decide ((700 : Int) < (n : Int)) = true := decide_eq_true (by omega)
    have e : greatB n p = true := by unfold greatB; rw [decide_eq_true h1]; rfl
    rw [e]
    clear e h1
    go_wp2_with fail
    go_ret
    exact ⟨rfl, HB0.out⟩
  · have d1 : decide ((700 : Int) < (n : Int)) = false := decide_eq_false (by omega)
    by_cases h2 : 30 < p
    · have d2 : decide ((30 : Int) < (p : Int)) = true := decide_eq_true (by omega)
      have e : greatB n p = true := by unfold greatB; rw [decide_eq_true h2, Bool.or_true]
      rw [e]
      clear e h1 h2
      go_wp2_with fail
      go_ret
      exact ⟨rfl, HB0.out⟩
    · have d2 : decide ((30 : Int) < (p : Int)) = false := decide_eq_false (by omega)
      have e : greatB n p = false := by unfold greatB; rw [decide_eq_false h1, decide_eq_false h2]; rfl
      rw [e]
      clear e h1 h2
      go_wp2_with fail
      go_ret
      exact ⟨rfl, HB0.out⟩
end Go.Proofs.YtbmoanhdpnaocaaDoor
