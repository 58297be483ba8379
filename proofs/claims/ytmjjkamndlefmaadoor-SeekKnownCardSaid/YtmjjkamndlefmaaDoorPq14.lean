/- Several texts in one. -/
import Derived.Test.YtmjjkamndlefmaaDoorPq11
import Derived.Test.YtmjjkamndlefmaaDoorPq07
import Derived.Laws.CopyOwn
import Derived.Test.YtmjjkamndlefmaaDoorPq13
import Derived.Test.YtmjjkamndlefmaaDoorPq03
import Derived.Test.YtmjjkamndlefmaaDoorPq00
import Derived.Deep.QuietTactic
import Derived.BigQuiet
namespace Go.Proofs.YtmjjkamndlefmaaDoor
open Go.RowKit Sets Nf
namespace Nf
/-- k times the number, then zeros -/
def rpL (n k : Nat) : List Value := List.replicate k (Value.int .i64 (-1)) ++ List.replicate (n - k) (Value.int .i64 0)
theorem rpL_len (n k : Nat) (h : k ≤ n) : (rpL n k).length = n := by unfold rpL; simp; omega
theorem rpL_get (n k j : Nat) (h : j < k) : (rpL n k)[j]? = some (.int .i64 (-1)) := by
  unfold rpL
  rw [List.getElem?_append_left (by simpa using h), List.getElem?_replicate, if_pos h]
theorem rpL_put (n k c : Nat) (h : k + c ≤ n) : (rpL n k).take k ++ (List.replicate c (Value.int .i64 (-1)) ++ (rpL n k).drop (k + c)) = rpL n (k + c) := by
  unfold rpL
  rw [List.take_append_of_le_length (by simp), List.take_of_length_le (by simp), List.drop_append, List.drop_of_length_le (by simp), List.nil_append, List.length_replicate, List.drop_replicate, ← List.append_assoc, List.replicate_append_replicate, show n - k - (k + c - k) = n - (k + c) from by omega]
theorem made_rp (n : Nat) : madeCells #[Value.int .i64 0] n = (rpL n 0).toArray := by
  apply Array.ext'
  rw [toList_madeCells_one]
  simp [rpL]
theorem sizeInt : (Tryd.prog.info? 3).map (·.size) = some 1 := by kernel_rfl
theorem rep_one (c : Nat) : ∀ v ∈ List.replicate c (Value.int .i64 (-1)), v.oneCell' = true := fun v hv => by rw [(List.mem_replicate.1 hv).2]; rfl
end Nf
end Go.Proofs.YtmjjkamndlefmaaDoor
namespace Go.Proofs.YtmjjkamndlefmaaDoor
open Go.RowKit Go.Shelf Sets Nf
attribute [local go_sem] Oper.semAt_some
namespace Nf
def numS (p : (Nat → Int) × Nat) (x : Nat) : (Nat → Int) × Nat := (fun j => if j = x then (p.2 : Int) else p.1 j, p.2 + 1)
def numP (pre : List Nat) : (Nat → Int) × Nat := pre.foldl numS (fun _ => -1, 0)
def numF (pre : List Nat) : Nat → Int := (numP pre).1
theorem numP_snoc (pre : List Nat) (x : Nat) : numP (pre ++ [x]) = numS (numP pre) x := by unfold numP; rw [List.foldl_append]; rfl
theorem foldS_len : ∀ (l : List Nat) (q : (Nat → Int) × Nat), (l.foldl numS q).2 = q.2 + l.length
  | [], _ => rfl
  | x :: l, q => by
    rw [List.foldl_cons, foldS_len l]
    show q.2 + 1 + l.length = _
    rw [List.length_cons]; omega
theorem numP_len (pre : List Nat) : (numP pre).2 = pre.length := by unfold numP; rw [foldS_len]; simp
theorem numF_snoc (pre : List Nat) (x j : Nat) : numF (pre ++ [x]) j = if j = x then (pre.length : Int) else numF pre j := by
  unfold numF
  rw [numP_snoc]
  show (if j = x then ((numP pre).2 : Int) else (numP pre).1 j) = _
  rw [numP_len]
theorem numF_filter (p : Nat → Bool) (j : Nat) : ∀ N, numF ((List.range N).filter p) j = if j < N ∧ p j = true then (((List.range j).filter p).length : Int) else -1
  | 0 => by simp [numF, numP]
  | N + 1 => by
    rw [List.range_succ, List.filter_append, List.filter_cons, List.filter_nil]
    by_cases hN : p N = true
    · rw [if_pos hN, numF_snoc, numF_filter p j N]
      by_cases e : j = N
      · subst e; rw [if_pos rfl, if_pos ⟨by omega, hN⟩]
      · rw [if_neg e]
        by_cases h : j < N ∧ p j = true
        · rw [if_pos h, if_pos ⟨by omega, h.2⟩]
        · rw [if_neg h, if_neg (fun h2 => h ⟨by omega, h2.2⟩)]
    · rw [if_neg hN, List.append_nil, numF_filter p j N]
      by_cases h : j < N ∧ p j = true
      · rw [if_pos h, if_pos ⟨by omega, h.2⟩]
      · rw [if_neg h, if_neg (fun h2 => h ⟨by
          have : j ≠ N := fun e => hN (e ▸ h2.2)
          omega, h2.2⟩)]
/-- the number of each spot where those of U alone are left -/
def numsU (U n : Nat) : List Int := (List.range n).map fun k => if U.testBit k then (nu U k : Int) else -1
theorem numsU_len (U n : Nat) : (numsU U n).length = n := by unfold numsU; rw [List.length_map, List.length_range]
theorem numsU_get (U n k : Nat) (h : k < n) : (numsU U n).getD k 0 = if U.testBit k then (nu U k : Int) else -1 := by
  unfold numsU
  rw [List.getD_eq_getElem?_getD, List.getElem?_map, List.getElem?_range h]; rfl
theorem numF_all (U k : Nat) (h : k < 256) : numF (listN U) k = if U.testBit k then (nu U k : Int) else -1 := by
  unfold listN
  rw [numF_filter]
  by_cases hb : U.testBit k = true
  · rw [if_pos ⟨h, hb⟩, if_pos hb]; rfl
  · rw [if_neg (fun x => hb x.2), if_neg hb]
theorem leftN_U {n : Nat} (U : Nat) (l : List Int) (hn : ∀ k ∈ l, 0 ≤ k ∧ k < (n : Int)) : leftN (numsU U n) l = leftL U l := by
  unfold leftN leftL
  have hg : ∀ k ∈ l, (numsU U n).getD k.toNat 0 = if U.testBit k.toNat then (nu U k.toNat : Int) else -1 := fun k hk => numsU_get U n _ (by have := hn k hk; omega)
  have hf : (l.filter fun k => (numsU U n).getD k.toNat 0 != -1) = l.filter fun k => U.testBit k.toNat := by
    refine List.filter_congr (fun k hk => ?_)
    rw [hg k hk]
    cases U.testBit k.toNat
    · rfl
    · rw [if_pos rfl, bne_iff_ne]; omega
  rw [hf]
  refine List.map_congr_left (fun k hk => ?_)
  have h2 := List.mem_filter.1 hk
  rw [hg k h2.1, if_pos h2.2]
def NuI (s g n6 n b1 : Nat) (U : Nat) (w : World) (pre : List (In U)) (W : World) : Prop :=
  W.rowIs g 3 n (fun j => .int .i64 (numF (pre.map Subtype.val) j)) ∧ W.heap[b1]? = some (.cells #[.slice (some ⟨g, 0, none⟩) n n] 41 (0, 0)) ∧ W.heap[b1 + 1]? = some (.cells #[.int .i64 (pre.length : Nat)] 3 (0, 0)) ∧ Below s w W ∧ n6 ≤ W.heap.size
theorem rp_row (w : World) (g n : Nat) (h : w.heap[g]? = some (.cells (rpL n n).toArray 3 (0, 0))) : w.rowIs g 3 n (fun j => .int .i64 (numF [] j)) := by
  refine ⟨_, h, ?_, fun i hi => ?_⟩
  · rw [List.size_toArray, rpL_len _ _ (Nat.le_refl _)]
  · rw [List.getElem?_toArray, rpL_get n n i hi]; rfl
theorem keeps_cell {w : World} {b i : Nat} {cs : Array Value} {t : TypeId} {fr : Nat × Nat} (hb : w.heap[b]? = some (.cells cs t fr)) (v : Value) : KeepsOthers w (w.setCell ⟨b, i, none⟩ v) :=
  ⟨by simp, fun k o hk ho => by
    by_cases e : k = b
    · subst e; rw [hb] at hk; cases hk; cases ho
    · rw [Below.heap_setCell w ⟨b, i, none⟩ v k e]; exact hk⟩
end Nf
end Go.Proofs.YtmjjkamndlefmaaDoor
namespace Go.Proofs.YtmjjkamndlefmaaDoor
open Go.RowKit Sets Nf
namespace Nf
def spL (L : List (Nat × Nat)) : List Value := L.flatMap sp5
def bL (l : List Bool) : List Value := l.map Value.bool
theorem spL_snoc (L : List (Nat × Nat)) (s : Nat × Nat) : spL (L ++ [s]) = spL L ++ sp5 s := by unfold spL; rw [List.flatMap_append]; simp
theorem spL_get : ∀ (L : List (Nat × Nat)) (i : Nat), i < L.length → ∀ j, j < 5 → (spL L)[i * 5 + j]? = (sp5 (L.getD i (0, 0)))[j]?
  | s :: L, 0, _, j, hj => by
    unfold spL
    rw [List.flatMap_cons, List.getElem?_append_left (by rw [sp5_len]; omega)]
    simp
  | s :: L, i + 1, h, j, hj => by
    have ih := spL_get L i (by simpa using h) j hj
    unfold spL at ih ⊢
    rw [List.flatMap_cons, List.getElem?_append_right (by rw [sp5_len]; omega), sp5_len, show (i + 1) * 5 + j - 5 = i * 5 + j from by omega, ih]
    rfl
theorem bL_get (l : List Bool) (i : Nat) (h : i < l.length) : (bL l)[i]? = some (.bool (l.getD i false)) := by
  unfold bL
  rw [List.getElem?_map, List.getElem?_eq_getElem h, List.getD_eq_getElem?_getD, List.getElem?_eq_getElem h]; rfl
/-- A machine whose lists lie in memory from B on, each in a row of its own. -/
structure OwnM (B : Nat) (w : World) (x : Ma) (m : Mc) : Prop where
  sp : w.ownsRow B 57 5 (.slice x.sa m.sp.length x.sc) m.sp.length (spL m.sp)
  fi : OwnN B w (.slice x.fa m.fi.length x.fc) m.fi
  fo : ∃ vs : List Value, vs.length = m.fo.length ∧ w.ownsRow B 41 1 (.slice x.oa m.fo.length x.oc) m.fo.length vs ∧ ∀ i, i < m.fo.length → OwnN B w (vs.getD i (.slice none 0 0)) (m.fo.getD i [])
  la : w.ownsRow B 4 1 (.slice x.la m.la.length x.lc) m.la.length (bL m.la)
theorem own_addr {w : World} {B n c size : Nat} {e : TypeId} {a : Option Addr} {xs : List Value} (h : w.ownsRow B e size (.slice a n c) n xs) (hn : 0 < n) : ∃ g, a = some ⟨g, 0, none⟩ := by
  obtain ⟨a', c', e1, h1⟩ := own_slice h
  injection e1 with e2 e3 e4
  subst e2
  rcases h1 with h1 | ⟨g, hg, -⟩
  · omega
  · exact ⟨g, hg⟩
theorem OwnM.mat {B : Nat} {w : World} {x : Ma} {m : Mc} (h : OwnM B w x m) : MAt w x m := by
  refine ⟨fun i hi => ?_, ?_, fun i hi => ?_, fun i hi => ?_⟩
  · obtain ⟨g, hg⟩ := own_addr h.sp (by omega)
    have hs := h.sp
    rw [hg] at hs
    refine ⟨g, 0, hg, fun j v hj => ?_⟩
    have hj5 : j < 5 := by have := (List.getElem?_eq_some_iff.1 hj).1; rwa [sp5_len] at this
    rw [Nat.zero_add, World.ownsRow.cellAt hs (i * 5 + j) (by omega), spL_get _ _ hi _ hj5]
    exact hj
  · obtain ⟨a, c, e, hn⟩ := h.fi.nums
    injection e with e1
    rw [e1]; exact hn
  · obtain ⟨vs, hl, hv, he⟩ := h.fo
    obtain ⟨g, hg⟩ := own_addr hv (by omega)
    rw [hg] at hv
    obtain ⟨a, c, e, hn⟩ := (he i hi).nums
    refine ⟨g, 0, a, c, hg, ?_, hn⟩
    rw [Nat.zero_add, World.ownsRow.cellAt hv i (by omega), ← e, List.getD_eq_getElem?_getD, List.getElem?_eq_getElem (by omega)]; rfl
  · obtain ⟨g, hg⟩ := own_addr h.la (by omega)
    have hs := h.la
    rw [hg] at hs
    exact ⟨g, 0, hg, by rw [Nat.zero_add, World.ownsRow.cellAt hs i (by omega), bL_get _ _ hi]⟩
theorem OwnM.stay {B : Nat} {w w' : World} {x : Ma} {m : Mc} (h : OwnM B w x m) (hb : Below w.heap.size w w') : OwnM B w' x m := by
  obtain ⟨vs, h1, h2, h3⟩ := h.fo
  exact ⟨own_stay h.sp hb, own_stay h.fi hb, ⟨vs, h1, own_stay h2 hb, fun i hi => own_stay (h3 i hi) hb⟩, own_stay h.la hb⟩
/-- Blocks of other types than T, but for b, stay. -/
def Fr (b : Nat) (T : TypeId) (w w' : World) : Prop := ∀ k cs t fr, w.heap[k]? = some (.cells cs t fr) → t ≠ T → k ≠ b → w'.heap[k]? = some (.cells cs t fr)
theorem own_type {w : World} {B size n g : Nat} {e : TypeId} {v : Value} {xs : List Value} (h : w.ownsRow B e size v n xs) (hg : v.ownBlock = some g) : ∃ cs, w.heap[g]? = some (.cells cs e (0, 0)) := by
  rcases h.2 with ⟨h1, -⟩ | ⟨k, cap, cur, h1, -, h3, -⟩
  · rw [h1] at hg; cases hg
  · rw [h1] at hg
    injection hg with hg
    exact ⟨cur, by rw [← hg]; exact h3⟩
theorem Ap.fr {w w' : World} {v v' : Value} {B size n : Nat} {e : TypeId} {xs : List Value} (ha : Ap w v w' v') (ho : w.ownsRow B e size v n xs) (b : Nat) : Fr b e w w' := by
  intro k cs t fr hk ht _
  rw [ha.block k (Array.getElem?_eq_some_iff.1 hk).1 (fun hv => ?_)]
  · exact hk
  · obtain ⟨c2, h2⟩ := own_type ho hv
    rw [hk] at h2
    injection h2 with h2
    injection h2 with _ h3
    exact ht h3
theorem Fr.set {b i : Nat} {T : TypeId} {w w' : World} (h : Fr b T w w') (v : Value) : Fr b T w (w'.setCell ⟨b, i, none⟩ v) := fun k cs t fr hk ht hb => by
  rw [Below.heap_setCell w' ⟨b, i, none⟩ v k hb]
  exact h k cs t fr hk ht hb
theorem Fr.own {b B size n : Nat} {T e : TypeId} {w w' : World} {v : Value} {xs : List Value} (h : Fr b T w w') (ho : w.ownsRow B e size v n xs) (he : e ≠ T) (hb : ∀ g, v.ownBlock = some g → g ≠ b) : w'.ownsRow B e size v n xs :=
  own_kept ho fun g hg => by
    obtain ⟨cs, hc⟩ := own_type ho hg
    rw [h g cs e (0, 0) hc he (hb g hg), hc]
/-- The trimmed machine in block b: what has come to its lists from the spots ps, po, pl. -/
structure TrI (s b : Nat) (m : Mc) (U : Nat) (w0 : World) (ps po pl : List Nat) (sv fv ov lv : Value) (vs : List Value) (W : World) : Prop where
  row : W.heap[b]? = some (.cells #[sv, fv, ov, lv, .bool m.em] 43 (0, 0))
  sp : W.ownsRow s 57 5 sv ps.length (spL (ps.map fun k => m.sp.getD k (0, 0)))
  fi : OwnN s W fv (leftL U m.fi)
  fo : W.ownsRow s 41 1 ov po.length vs
  len : vs.length = po.length
  each : ∀ i, i < po.length → OwnN s W (vs.getD i (.slice none 0 0)) (leftL U (m.fo.getD (po.getD i 0) []))
  la : W.ownsRow s 4 1 lv pl.length (bL (pl.map fun k => m.la.getD k false))
  low : s < b
  below : Below s w0 W
theorem TrI.notB {s b : Nat} {m : Mc} {U : Nat} {w0 : World} {ps po pl : List Nat} {sv fv ov lv : Value} {vs : List Value} {W : World} (h : TrI s b m U w0 ps po pl sv fv ov lv vs W) {B size n : Nat} {e : TypeId} {v : Value} {xs : List Value} (ho : W.ownsRow B e size v n xs) (he : e ≠ 43) : ∀ g, v.ownBlock = some g → g ≠ b := fun g hg eq => by
  obtain ⟨cs, hc⟩ := own_type ho hg
  rw [eq, h.row] at hc
  injection hc with hc
  injection hc with _ h2
  exact he h2.symm
theorem TrI.stay {s b : Nat} {m : Mc} {U : Nat} {w0 : World} {ps po pl : List Nat} {sv fv ov lv : Value} {vs : List Value} {W W' : World} (h : TrI s b m U w0 ps po pl sv fv ov lv vs W) (hb : Below W.heap.size W W') (hs : s ≤ W.heap.size) : TrI s b m U w0 ps po pl sv fv ov lv vs W' :=
  ⟨(hb.block b (Array.getElem?_eq_some_iff.1 h.row).1).trans h.row, own_stay h.sp hb, own_stay h.fi hb, own_stay h.fo hb, h.len, fun i hi => own_stay (h.each i hi) hb, own_stay h.la hb, h.low, h.below.trans (hb.mono hs)⟩
theorem TrI.pushS {s b : Nat} {m : Mc} {U : Nat} {w0 : World} {ps po pl : List Nat} {sv fv ov lv : Value} {vs : List Value} {W : World} (h : TrI s b m U w0 ps po pl sv fv ov lv vs W) {W2 : World} {sv' : Value} {k : Nat}
    (ho : W2.ownsRow s 57 5 sv' (ps.length + 1) (spL (ps.map fun k => m.sp.getD k (0, 0)) ++ sp5 (m.sp.getD k (0, 0)))) (hb : Below s W W2) (hf : Fr b 57 W W2) (hrow : W2.heap[b]? = W.heap[b]?) :
    TrI s b m U w0 (ps ++ [k]) po pl sv' fv ov lv vs (W2.setCell ⟨b, 0, none⟩ sv') := by
  have hf2 := hf.set (i := 0) sv'
  have hr2 := hrow.trans h.row
  refine ⟨?_, ?_, hf2.own h.fi (by decide) (h.notB h.fi (by decide)), hf2.own h.fo (by decide) (h.notB h.fo (by decide)), h.len, fun i hi => hf2.own (h.each i hi) (by decide) (h.notB (h.each i hi) (by decide)), hf2.own h.la (by decide) (h.notB h.la (by decide)), h.low, (h.below.trans hb).setCell (by have := h.low; show s ≤ b; omega) _⟩
  · rw [heap_setCell_same _ _ _ _ _ _ hr2]; rfl
  · rw [List.length_append, List.map_append, List.map_cons, List.map_nil, spL_snoc]
    refine own_kept ho fun g hg => Below.heap_setCell W2 ⟨b, 0, none⟩ sv' g (fun eq => ?_)
    obtain ⟨cs, hc⟩ := own_type ho hg
    rw [show g = b from eq, hr2] at hc
    injection hc with hc
    injection hc with _ h2
    exact absurd h2 (by decide)
theorem TrI.pushL {s b : Nat} {m : Mc} {U : Nat} {w0 : World} {ps po pl : List Nat} {sv fv ov lv : Value} {vs : List Value} {W : World} (h : TrI s b m U w0 ps po pl sv fv ov lv vs W) {W2 : World} {lv' : Value} {k : Nat}
    (ho : W2.ownsRow s 4 1 lv' (pl.length + 1) (bL (pl.map fun k => m.la.getD k false) ++ [.bool (m.la.getD k false)])) (hb : Below s W W2) (hf : Fr b 4 W W2) (hrow : W2.heap[b]? = W.heap[b]?) :
    TrI s b m U w0 ps po (pl ++ [k]) sv fv ov lv' vs (W2.setCell ⟨b, 3, none⟩ lv') := by
  have hf2 := hf.set (i := 3) lv'
  have hr2 := hrow.trans h.row
  refine ⟨?_, hf2.own h.sp (by decide) (h.notB h.sp (by decide)), hf2.own h.fi (by decide) (h.notB h.fi (by decide)), hf2.own h.fo (by decide) (h.notB h.fo (by decide)), h.len, fun i hi => hf2.own (h.each i hi) (by decide) (h.notB (h.each i hi) (by decide)), ?_, h.low, (h.below.trans hb).setCell (by have := h.low; show s ≤ b; omega) _⟩
  · rw [heap_setCell_same _ _ _ _ _ _ hr2]; rfl
  · rw [List.length_append, List.map_append, List.map_cons, List.map_nil]
    unfold bL at ho ⊢
    rw [List.map_append, List.map_cons, List.map_nil]
    refine own_kept ho fun g hg => Below.heap_setCell W2 ⟨b, 3, none⟩ lv' g (fun eq => ?_)
    obtain ⟨cs, hc⟩ := own_type ho hg
    rw [show g = b from eq, hr2] at hc
    injection hc with hc
    injection hc with _ h2
    exact absurd h2 (by decide)
theorem TrI.pushO {s b : Nat} {m : Mc} {U : Nat} {w0 : World} {ps po pl : List Nat} {sv fv ov lv : Value} {vs : List Value} {W : World} (h : TrI s b m U w0 ps po pl sv fv ov lv vs W) {W2 : World} {ov' v : Value} {k : Nat}
    (ho : W2.ownsRow s 41 1 ov' (po.length + 1) (vs ++ [v])) (hv : OwnN s W2 v (leftL U (m.fo.getD k []))) (hb : Below s W W2) (hf : Fr b 41 W W2) (hrow : W2.heap[b]? = W.heap[b]?) :
    TrI s b m U w0 ps (po ++ [k]) pl sv fv ov' lv (vs ++ [v]) (W2.setCell ⟨b, 2, none⟩ ov') := by
  have hf2 := hf.set (i := 2) ov'
  have hr2 := hrow.trans h.row
  have hnb : ∀ {B size n : Nat} {e : TypeId} {v : Value} {xs : List Value}, W2.ownsRow B e size v n xs → e ≠ 43 → (W2.setCell ⟨b, 2, none⟩ ov').ownsRow B e size v n xs := fun {B size n e v xs} hh hne => by
    refine own_kept hh fun g hg => Below.heap_setCell W2 ⟨b, 2, none⟩ ov' g (fun eq => ?_)
    obtain ⟨cs, hc⟩ := own_type hh hg
    rw [show g = b from eq, hr2] at hc
    injection hc with hc
    injection hc with _ h2
    exact hne h2.symm
  refine ⟨?_, hf2.own h.sp (by decide) (h.notB h.sp (by decide)), hf2.own h.fi (by decide) (h.notB h.fi (by decide)), ?_, by simp [h.len], fun i hi => ?_, hf2.own h.la (by decide) (h.notB h.la (by decide)), h.low, (h.below.trans hb).setCell (by have := h.low; show s ≤ b; omega) _⟩
  · rw [heap_setCell_same _ _ _ _ _ _ hr2]; rfl
  · rw [List.length_append]; exact hnb ho (by decide)
  · rw [List.length_append] at hi
    simp only [List.length_cons, List.length_nil] at hi
    by_cases e : i < po.length
    · rw [List.getD_eq_getElem?_getD, List.getElem?_append_left (by rw [h.len]; exact e), ← List.getD_eq_getElem?_getD, List.getD_eq_getElem?_getD (l := po ++ [k]), List.getElem?_append_left e, ← List.getD_eq_getElem?_getD]
      exact hf2.own (h.each i e) (by decide) (h.notB (h.each i e) (by decide))
    · have e2 : i = po.length := by omega
      rw [List.getD_eq_getElem?_getD, List.getElem?_append_right (by rw [h.len]; omega), List.getD_eq_getElem?_getD (l := po ++ [k]), List.getElem?_append_right (by omega), h.len, e2, Nat.sub_self]
      exact hnb hv (by decide)
end Nf
end Go.Proofs.YtmjjkamndlefmaaDoor
namespace Go.Proofs.YtmjjkamndlefmaaDoor
open Go.RowKit Sets Cls
set_option maxHeartbeats 800000 in
set_option maxRecDepth 100000 in
theorem pright_any (of : Nat → Nat) (n : Int) (w : World) (hof : ∀ c, c < 256 → of c < 256) :
    Calls Tryd.prog 32 #[.agg (partC of n)] w fun e w' => e = .returned (.bool (prightB of n)) ∧ Below w.heap.size w w' := by
  have hP : PartAt (w.alloc (.cells (partC of n) 24)) w.heap.size of n := PartAt.new w of n
  have hB : Below w.heap.size w (w.alloc (.cells (partC of n) 24)) := (Below.refl _ _).alloc (Nat.le_refl _) _
  have hr := hP.range
  go_enter Tryd.func32, Tryd.ntmps32
  go_wp2_with ((refine wpList_load_mid rfl 22 (.tmp 6) rfl w.heap.size 0 rfl (ofL of) _ hr Tryd.underlying22 rfl (sizeO of) ?_))
  generalize w.alloc (.cells (partC of n) 24) = W at *
  have hcN := hP.cellN
  go_loop [3, 8] (fun m i => ∃ c k : Nat, c ≤ 256 ∧ i = .int .i64 c ∧ m = .int .i64 k ∧ Hid (rgo of c = some k)) (fun _ i => 256 - (intOf i).toNat)
  case atStart => exact ⟨0, 0, by omega, rfl, rfl, Lib.hid rfl⟩
  case round =>
    obtain ⟨c, k, hc, rfl, rfl, HK⟩ := hrel
    have hkc := rgo_le of c k HK.out
    by_cases hlt : c < 256
    · have hx := index_of of c hlt
      have ho := hof c hlt
      have hdk : decide ((c : Int) < 256) = true := decide_eq_true (by omega)
      have HN : Hid (rgo of (c + 1) = if k < of c then none else if of c = k then some (k + 1) else some k) := Lib.hid (by simp only [rgo, HK.out])
      by_cases h1 : k < of c
      · have HR : Hid (prightB of n = false) := Lib.hid (by
          have e := HN.out; rw [if_pos h1] at e
          unfold prightB; rw [rgo_none of (c + 1) 256 (by omega) e])
        go_wp2
        go_ret
        rw [HR.out]
        exact ⟨rfl, hB⟩
      · by_cases h2 : of c = k
        · have hb1 : ((of c : Int) == (k : Int)) = true := beq_iff_eq.2 (by omega)
          have HR : Hid (rgo of (c + 1) = some (k + 1)) := Lib.hid (by rw [HN.out, if_neg h1, if_pos h2])
          have H2 := Lib.hid h2
          clear h2
          go_wp2
          go_round
          case rel => exact ⟨c + 1, k + 1, by omega, by go_num, by go_num, HR⟩
          case measure => simp [intOf]; omega
        · have hb1 : ((of c : Int) == (k : Int)) = false := beq_eq_false_iff_ne.2 (by omega)
          have HR : Hid (rgo of (c + 1) = some k) := Lib.hid (by rw [HN.out, if_neg h1, if_neg h2])
          go_wp2
          go_round
          case rel => exact ⟨c + 1, k, by omega, by go_num, rfl, HR⟩
          case measure => simp [intOf]; omega
    · have hc' : c = 256 := by omega
      subst hc'
      have HR : Hid (prightB of n = ((k : Int) == n)) := Lib.hid (by unfold prightB; rw [HK.out])
      go_wp2
      go_ret
      rw [HR.out]
      exact ⟨rfl, hB⟩
end Go.Proofs.YtmjjkamndlefmaaDoor
namespace Go.Proofs.YtmjjkamndlefmaaDoor
open Go.RowKit Sets
set_option maxRecDepth 100000 in
set_option maxHeartbeats 400000 in
theorem of_any (v : Value) (l : List Nat) (w : World) (h : BytesAt w v l) :
    Calls Tryd.prog 24 #[v] w fun e w' =>
      e = .returned (.agg #[.int .u64 (wd (ofN l) 0), .int .u64 (wd (ofN l) 1), .int .u64 (wd (ofN l) 2), .int .u64 (wd (ofN l) 3)]) ∧ Below w.heap.size w w' := by
  obtain ⟨hl, hm, a, cap, rfl, hc⟩ := h
  unfold maxLen at hm
  go_enter Tryd.func24, Tryd.ntmps24
  go_wp2
  go_loopw [8] (fun i wr => ∃ k n : Nat, i = .int .i64 k ∧ k ≤ l.length ∧ wr = ((w.alloc (.cells #[.int .u64 0, .int .u64 0, .int .u64 0, .int .u64 0] 54)).alloc (.cells #[.int .u64 (wd (ofN (l.take k)) 0), .int .u64 (wd (ofN (l.take k)) 1), .int .u64 (wd (ofN (l.take k)) 2), .int .u64 (wd (ofN (l.take k)) 3)] 54)).drewN n) (fun i _ => (l.length - intOf i).toNat)
  case atStart => exact ⟨0, 0, rfl, Nat.zero_le _, by simp [ofN, wd, World.drewN_zero]⟩
  case round =>
    obtain ⟨k, n, rfl, hk, rfl⟩ := hrel
    by_cases hlt : k < l.length
    · obtain ⟨b, o, rfl, hcell⟩ := hc k hlt
      clear hc
      have hbk := World.block_lt_of_cell? _ _ hcell
      have hbk1 : b < w.heap.size + 1 := Nat.lt_succ_of_lt hbk
      have hx : l.getD k 0 < 256 := by
        rw [List.getD_eq_getElem?_getD, List.getElem?_eq_getElem hlt]; exact hl _ (List.getElem_mem hlt)
      have HT := Lib.hid (ofN_take l k hlt)
      generalize l.getD k 0 = c at *
      have hq : (c : Int) / 64 = 0 ∨ (c : Int) / 64 = 1 ∨ (c : Int) / 64 = 2 ∨ (c : Int) / 64 = 3 := by omega
      rcases hq with hq | hq | hq | hq
      all_goals
        have hq2 : (c : Int).tdiv 64 = (c : Int) / 64 := Int.tdiv_eq_ediv_of_nonneg (by omega)
        rw [hq] at hq2
        have hz0 : IntKind.u8.wrap 0 = 0 := by decide
        have hz1 : IntKind.u8.wrap 1 = 1 := by decide
        have hz2 : IntKind.u8.wrap 2 = 2 := by decide
        have hz3 : IntKind.u8.wrap 3 = 3 := by decide
        go_wp2
        refine region_tail 7 (by kernel_rfl) (by kernel_rfl) ?_
        simp only [List.take_succ_cons, List.take_zero, List.drop_succ_cons, List.drop_zero]
        repeat (first | still_step | still_call ((bit_any _ _ (by omega) (by omega)).mono fun _ _ h => ⟨h.1, h.2.symm⟩))
        refine wpStill_nil ?_
        go_wp2
        refine ⟨⟨k + 1, n + 1, by go_num, by omega, ?_⟩, by simp [intOf]; omega⟩
        rw [HT.out]
        first
          | rw [bor_bit _ _ 0 (by omega), wd_keep _ c 1 (by omega), wd_keep _ c 2 (by omega), wd_keep _ c 3 (by omega)]
          | rw [bor_bit _ _ 1 (by omega), wd_keep _ c 0 (by omega), wd_keep _ c 2 (by omega), wd_keep _ c 3 (by omega)]
          | rw [bor_bit _ _ 2 (by omega), wd_keep _ c 0 (by omega), wd_keep _ c 1 (by omega), wd_keep _ c 3 (by omega)]
          | rw [bor_bit _ _ 3 (by omega), wd_keep _ c 0 (by omega), wd_keep _ c 1 (by omega), wd_keep _ c 2 (by omega)]
    · have hkl : k = l.length := by omega
      subst hkl
      rw [List.take_length]
      go_wp2
      refine bodyPost_ret (v := .agg #[.int .u64 (wd (ofN l) 0), .int .u64 (wd (ofN l) 1), .int .u64 (wd (ofN l) 2), .int .u64 (wd (ofN l) 3)]) (by simp [results, Tryd.results24, go_sem]) rfl ⟨rfl, ?_⟩
      repeat (first | refine Below.drew ?_ | refine below_drewN ?_ _ | refine Below.alloc ?_ (by simp <;> omega) _)
      exact Below.refl _ _
end Go.Proofs.YtmjjkamndlefmaaDoor
