/- Several texts in one. -/
import Derived.Test.YtplkhgmjcljjhaaDoorPqM5
import Derived.Test.YtplkhgmjcljjhaaDoorPq14
import Derived.Test.YtplkhgmjcljjhaaDoorPq40
namespace Go.Proofs.YtplkhgmjcljjhaaDoor
open Go.RowKit Sets Nf Df
namespace Mi
structure FdI (b1 p1 p2 p3 gN gO n : Nat) (O : Nat → Nat) (N : Nat → Int) (D : List Nat) (fv : Value) (W : World) : Prop where
  v1 : W.heap[p1]? = some (.cells #[.slice (some ⟨gN, 0, none⟩) n n] 31 (0, 0))
  v2 : W.heap[p2]? = some (.cells #[.slice (some ⟨gO, 0, none⟩) n n] 31 (0, 0))
  v3 : W.heap[p3]? = some (.cells #[fv] 31 (0, 0))
  nr : W.rowIs gN 3 n (fun i => .int .i64 (N i))
  orow : W.rowIs gO 3 n (fun i => .int .i64 (O i : Nat))
  fo : OwnN b1 W fv (zI D)
  lt : p1 < b1 ∧ p2 < b1 ∧ p3 < b1 ∧ gN < b1 ∧ gO < b1 ∧ b1 ≤ W.heap.size
  ne : p1 ≠ p3 ∧ p2 ≠ p3 ∧ gN ≠ gO
/-- What find leaves as it was. -/
structure FrF (p3 gN : Nat) (W : World) (fv : Value) (W' : World) (fv' : Value) : Prop where
  os : W'.os = W.os
  tape : W'.tape = W.tape
  output : W'.output = W.output
  size : W.heap.size ≤ W'.heap.size
  block : ∀ k, k < W.heap.size → k ≠ p3 → k ≠ gN → fv.ownBlock ≠ some k → W'.heap[k]? = W.heap[k]?
  own : ∀ g, fv'.ownBlock = some g → fv.ownBlock = some g ∨ W.heap.size ≤ g
theorem FrF.of_below {p3 gN : Nat} {W W' : World} (fv : Value) (h : Below W.heap.size W W') : FrF p3 gN W fv W' fv := ⟨h.os, h.tape, h.output, h.size, fun k hk _ _ _ => h.block k hk, fun _ h => .inl h⟩
theorem FrF.trans {p3 gN : Nat} {A B C : World} {u v x : Value} (h : FrF p3 gN A u B v) (k : FrF p3 gN B v C x) : FrF p3 gN A u C x :=
  ⟨k.os.trans h.os, k.tape.trans h.tape, k.output.trans h.output, Nat.le_trans h.size k.size, fun i h1 h2 h3 h4 => (k.block i (Nat.lt_of_lt_of_le h1 h.size) h2 h3 (fun e => by
    rcases h.own i e with e2 | e2
    · exact h4 e2
    · omega)).trans (h.block i h1 h2 h3 h4), fun g hg => by
    rcases k.own g hg with e | e
    · exact h.own g e
    · exact .inr (Nat.le_trans h.size e)⟩
section
variable {b1 p1 p2 p3 gN gO n : Nat} {O : Nat → Nat} {N : Nat → Int} {D : List Nat} {fv : Value} {W W' : World}
theorem FdI.stay (h : FdI b1 p1 p2 p3 gN gO n O N D fv W) (hb : Below W.heap.size W W') : FdI b1 p1 p2 p3 gN gO n O N D fv W' := by
  obtain ⟨l1, l2, l3, l4, l5, l6⟩ := h.lt
  exact ⟨(hb.block _ (by omega)).trans h.v1, (hb.block _ (by omega)).trans h.v2, (hb.block _ (by omega)).trans h.v3, World.rowIs.of_block h.nr (hb.block _ (by omega)), World.rowIs.of_block h.orow (hb.block _ (by omega)), own_stay h.fo hb, ⟨l1, l2, l3, l4, l5, Nat.le_trans l6 hb.size⟩, h.ne⟩
/-- Worlds that differ elsewhere. -/
theorem FdI.other (h : FdI b1 p1 p2 p3 gN gO n O N D fv W) (hs : W.heap.size ≤ W'.heap.size) (hk : ∀ k, k < b1 ∨ fv.ownBlock = some k → W'.heap[k]? = W.heap[k]?) : FdI b1 p1 p2 p3 gN gO n O N D fv W' := by
  obtain ⟨l1, l2, l3, l4, l5, l6⟩ := h.lt
  exact ⟨(hk _ (.inl l1)).trans h.v1, (hk _ (.inl l2)).trans h.v2, (hk _ (.inl l3)).trans h.v3, World.rowIs.of_block h.nr (hk _ (.inl l4)), World.rowIs.of_block h.orow (hk _ (.inl l5)), own_kept h.fo (fun g hg => hk g (.inr hg)), ⟨l1, l2, l3, l4, l5, Nat.le_trans l6 hs⟩, h.ne⟩
end
def upI (N : Nat → Int) (k : Nat) (v : Int) : Nat → Int := fun i => if i = k then v else N i
set_option maxHeartbeats 6400000 in
set_option maxRecDepth 100000 in
theorem find_old (b1 p1 p2 p3 gN gO n : Nat) (O : Nat → Nat) (N : Nat → Int) (D : List Nat) (fv : Value) (s : Nat) (w : World) (h : FdI b1 p1 p2 p3 gN gO n O N D fv w) (hs : s < n) (ho : O s < n) (hN : 0 ≤ N (O s)) :
    Calls Tryd.prog 52 #[.int .i64 s, .pointer (some ⟨p1, 0, none⟩), .pointer (some ⟨p2, 0, none⟩), .pointer (some ⟨p3, 0, none⟩)] w fun e w' => e = .returned (.int .i64 (N (O s))) ∧ Below w.heap.size w w' := by
  have HB := Lib.hid (h.stay ((Below.refl _ _).drew))
  have HBD : Hid (Below w.heap.size w w.drew) := Lib.hid ((Below.refl _ _).drew)
  have c1 : w.cell? ⟨p1, 0, none⟩ = some (.slice (some ⟨gN, 0, none⟩) n n) := by rw [cell_of_row w p1 0 _ _ _ h.v1]; rfl
  have c2 : w.cell? ⟨p2, 0, none⟩ = some (.slice (some ⟨gO, 0, none⟩) n n) := by rw [cell_of_row w p2 0 _ _ _ h.v2]; rfl
  have co := World.rowIs.cell h.orow hs
  have cn := World.rowIs.cell HB.out.nr ho
  have hsi : (s : Int) < (n : Int) := by omega
  have hoi : (O s : Int) < (n : Int) := by omega
  have hd : decide (N (O s) < 0) = false := decide_eq_false (by omega)
  clear h hs ho hN
  go_enter Tryd.func52, Tryd.ntmps52
  go_upto_region 1 with fail
  refine region_mix [(false, 0), (false, 1), (false, 2), (false, 3), (false, 4), (false, 5)] (fun w' => w' = w.drew) (by kernel_rfl) (by kernel_rfl) rfl ?_
  simp only [planOps, List.map_cons, List.map_nil, List.getD_cons_zero, List.getD_cons_succ, List.length_cons, List.length_nil, List.drop_succ_cons, List.drop_zero]
  refine mix_seg (seg := [_, _, _, _, _, _]) (rest := []) rfl rfl ?_
  intro ι hι F hF
  have f1 : ∀ n', (F n').cell? ⟨p1, 0, none⟩ = some (.slice (some ⟨gN, 0, none⟩) n n) := fun n => by rw [hF n]; exact c1
  have f2 : ∀ n', (F n').cell? ⟨p2, 0, none⟩ = some (.slice (some ⟨gO, 0, none⟩) n n) := fun n => by rw [hF n]; exact c2
  have f3 : ∀ n', (F n').cell? ⟨gO, s, none⟩ = some (.int .i64 (O s)) := fun n => by rw [hF n]; exact co
  iterate 6 (go_big_quiet_step (fail))
  refine wpQuiet_nil ?_
  clear f1 f2 f3 hF hι F c1 c2 co
  show wpList _ _ _ _ _ _
  generalize w.drew = w1 at *
  go_wp2_with fail
  refine NoPanic.normal ?_
  go_wp2_with fail
  go_ret
  exact ⟨rfl, HBD.out⟩
set_option maxHeartbeats 6400000 in
set_option maxRecDepth 100000 in
theorem find_new (b1 p1 p2 p3 gN gO n : Nat) (O : Nat → Nat) (N : Nat → Int) (D : List Nat) (fv : Value) (s : Nat) (w : World) (h : FdI b1 p1 p2 p3 gN gO n O N D fv w) (hs : s < n) (ho : O s < n) (hN : N (O s) < 0) (hD : D.length ≤ 90000) :
    Calls Tryd.prog 52 #[.int .i64 s, .pointer (some ⟨p1, 0, none⟩), .pointer (some ⟨p2, 0, none⟩), .pointer (some ⟨p3, 0, none⟩)] w fun e w' => e = .returned (.int .i64 (D.length : Nat)) ∧ ∃ fv', FdI b1 p1 p2 p3 gN gO n O (upI N (O s) (D.length : Nat)) (D ++ [s]) fv' w' ∧ FrF p3 gN w fv w' fv' := by
  have HB := Lib.hid (h.stay ((Below.refl _ _).drew))
  have HBD : Hid (Below w.heap.size w w.drew) := Lib.hid ((Below.refl _ _).drew)
  have c1 : w.cell? ⟨p1, 0, none⟩ = some (.slice (some ⟨gN, 0, none⟩) n n) := by rw [cell_of_row w p1 0 _ _ _ h.v1]; rfl
  have c2 : w.cell? ⟨p2, 0, none⟩ = some (.slice (some ⟨gO, 0, none⟩) n n) := by rw [cell_of_row w p2 0 _ _ _ h.v2]; rfl
  have co := World.rowIs.cell h.orow hs
  have hsi : (s : Int) < (n : Int) := by omega
  have hoi : (O s : Int) < (n : Int) := by omega
  have hd : decide (N (O s) < 0) = true := decide_eq_true hN
  have HO := Lib.hid ho
  have HDL := Lib.hid hD
  clear h hs ho hN hD
  go_enter Tryd.func52, Tryd.ntmps52
  go_upto_region 1 with fail
  refine region_mix [(false, 0), (false, 1), (false, 2), (false, 3), (false, 4), (false, 5)] (fun w' => w' = w.drew) (by kernel_rfl) (by kernel_rfl) rfl ?_
  simp only [planOps, List.map_cons, List.map_nil, List.getD_cons_zero, List.getD_cons_succ, List.length_cons, List.length_nil, List.drop_succ_cons, List.drop_zero]
  refine mix_seg (seg := [_, _, _, _, _, _]) (rest := []) rfl rfl ?_
  intro ι hι F hF
  have f1 : ∀ n', (F n').cell? ⟨p1, 0, none⟩ = some (.slice (some ⟨gN, 0, none⟩) n n) := fun n => by rw [hF n]; exact c1
  have f2 : ∀ n', (F n').cell? ⟨p2, 0, none⟩ = some (.slice (some ⟨gO, 0, none⟩) n n) := fun n => by rw [hF n]; exact c2
  have f3 : ∀ n', (F n').cell? ⟨gO, s, none⟩ = some (.int .i64 (O s)) := fun n => by rw [hF n]; exact co
  iterate 6 (go_big_quiet_step (fail))
  refine wpQuiet_nil ?_
  clear f1 f2 f3 hF hι F c1 c2 co
  show wpList _ _ _ _ _ _
  generalize w.drew = w1 at *
  have cn := World.rowIs.cell HB.out.nr HO.out
  have fn := World.rowIs.frozen HB.out.nr (O s)
  have c3 : w1.cell? ⟨p3, 0, none⟩ = some fv := by rw [cell_of_row w1 p3 0 _ _ _ HB.out.v3]; rfl
  obtain ⟨fa, fc, hfv, -⟩ := own_slice HB.out.fo
  rw [zI_len] at hfv
  subst hfv
  go_wp2_with fail
  refine NoPanic.normal ?_
  go_upto_region 4 with fail
  obtain ⟨l1, l2, l3, l4, l5, l6⟩ := HB.out.lt
  obtain ⟨n1, n2, n3⟩ := HB.out.ne
  obtain ⟨cg, hcg⟩ := row_typ HB.out.nr
  have hneg : ∀ {k c}, w1.heap[k]? = some (.cells c 31 (0, 0)) → k ≠ gN := fun hk => typ_ne hk hcg (by decide)
  have hs1 := hset w1 gN (O s) (.int .i64 (D.length : Nat))
  have hfo : (Value.slice fa D.length fc).ownBlock ≠ some gN := fun e => by have := (HB.out.fo.lt gN e).1; omega
  have HB2 : Hid (FdI b1 p1 p2 p3 gN gO n O (upI N (O s) (D.length : Nat)) D (.slice fa D.length fc) (w1.setCell ⟨gN, O s, none⟩ (.int .i64 (D.length : Nat)))) := Lib.hid ⟨(hs1 _ (hneg HB.out.v1)).trans HB.out.v1, (hs1 _ (hneg HB.out.v2)).trans HB.out.v2, (hs1 _ (hneg HB.out.v3)).trans HB.out.v3,
    World.rowIs.congr (World.rowIs.set HB.out.nr (O s) _) (fun i _ => by unfold upI; by_cases e : i = O s <;> simp [e]), World.rowIs.of_block HB.out.orow (hs1 _ n3.symm), own_kept HB.out.fo (fun g hg => hs1 g (fun e => hfo (e ▸ hg))), ⟨l1, l2, l3, l4, l5, by rw [setsz]; exact l6⟩, HB.out.ne⟩
  have HF2 : Hid (FrF p3 gN w (.slice fa D.length fc) (w1.setCell ⟨gN, O s, none⟩ (.int .i64 (D.length : Nat))) (.slice fa D.length fc)) := Lib.hid ((FrF.of_below _ HBD.out).trans ⟨rfl, rfl, rfl, by rw [setsz]; exact Nat.le_refl _, fun k _ _ h2 _ => hs1 k h2, fun _ h => .inl h⟩)
  clear l1 l2 l3 l4 l5 l6 n1 n2 n3 hcg hneg hs1 hfo cn fn c3 hd HBD HB
  generalize w1.setCell ⟨gN, O s, none⟩ (.int .i64 (D.length : Nat)) = w2 at *
  have c3 : w2.cell? ⟨p3, 0, none⟩ = some (.slice fa D.length fc) := by rw [cell_of_row w2 p3 0 _ _ _ HB2.out.v3]; rfl
  have hne3 : Hid ((Value.slice fa D.length fc).ownBlock ≠ some p3 ∧ p3 < w2.heap.size) := Lib.hid ⟨fun e => by have := (HB2.out.fo.lt p3 e).1; have := HB2.out.lt.2.2.1; omega, by have := HB2.out.lt; omega⟩
  go_upto_region 5 with (refine wpList_pushN rfl (.tmp 21) (.tmp 23) rfl b1 (.slice fa D.length fc) (zI D) s rfl HB2.out.fo rfl (by rw [zI_len]; have := HDL.out; omega) HB2.out.lt.2.2.2.2.2 ?_; intro v' w3 hoo hb ha; obtain ⟨a9, c9, hsv, -⟩ := own_slice hoo; rw [List.length_append] at hsv; subst hsv; have h3r := (ha.block p3 hne3.out.2 hne3.out.1).trans HB2.out.v3; have hc3 : w3.cell? ⟨p3, 0, none⟩ = some (.slice fa D.length fc) := by { rw [cell_of_row w3 p3 0 _ _ _ h3r]; rfl }; have hf3 := frozen_of_row w3 p3 0 _ _ h3r; have HO3 := Lib.hid hoo; have HB3 := Lib.hid hb; have HA3 : Hid (Ap w2 (.slice fa D.length fc) w3 (.slice a9 ((zI D).length + [(s : Int)].length) c9)) := Lib.hid ha; have H3R := Lib.hid h3r; clear hoo hb ha h3r c3)
  have hs4 := hset w3 p3 0 (.slice a9 ((zI D).length + [(s : Int)].length) c9)
  have HB4 : Hid (FdI b1 p1 p2 p3 gN gO n O (upI N (O s) (D.length : Nat)) (D ++ [s]) (.slice a9 ((zI D).length + [(s : Int)].length) c9) (w3.setCell ⟨p3, 0, none⟩ (.slice a9 ((zI D).length + [(s : Int)].length) c9))) := Lib.hid (by
    obtain ⟨l1, l2, l3, l4, l5, l6⟩ := HB2.out.lt
    obtain ⟨n1, n2, n3⟩ := HB2.out.ne
    obtain ⟨cg, hcg⟩ := row_typ HB2.out.nr
    obtain ⟨co, hco⟩ := row_typ HB2.out.orow
    have hold : ∀ k, k < b1 → w3.heap[k]? = w2.heap[k]? := fun k hk => HB3.out.block k hk
    refine ⟨(hs4 _ n1).trans ((hold _ l1).trans HB2.out.v1), (hs4 _ n2).trans ((hold _ l2).trans HB2.out.v2), by rw [heap_setCell_same _ _ _ _ _ _ H3R.out]; rfl, World.rowIs.of_block HB2.out.nr ((hs4 _ (typ_ne hcg HB2.out.v3 (by decide))).trans (hold _ l4)), World.rowIs.of_block HB2.out.orow ((hs4 _ (typ_ne hco HB2.out.v3 (by decide))).trans (hold _ l5)), ?_, ⟨l1, l2, l3, l4, l5, by rw [setsz]; exact Nat.le_trans l6 HB3.out.size⟩, HB2.out.ne⟩
    rw [zI_app]
    exact own_kept HO3.out (fun g hg => hs4 g (fun e => by have := (HO3.out.lt g hg).1; omega)))
  have HF4 : Hid (FrF p3 gN w2 (.slice fa D.length fc) (w3.setCell ⟨p3, 0, none⟩ (.slice a9 ((zI D).length + [(s : Int)].length) c9)) (.slice a9 ((zI D).length + [(s : Int)].length) c9)) := Lib.hid ⟨HB3.out.os, HB3.out.tape, HB3.out.output, by rw [setsz]; exact HA3.out.size, fun k h1 h2 _ h4 => (hs4 k h2).trans (HA3.out.block k h1 h4), HA3.out.own⟩
  have hcr := World.rowIs.cell HB4.out.nr HO.out
  rw [show upI N (O s) (D.length : Nat) (O s) = (D.length : Nat) from if_pos rfl] at hcr
  clear hs4 hc3 hf3 H3R HO3 HA3 HB3
  rw [show (zI D).length + [(s : Int)].length = (zI D).length + 1 from rfl] at HB4 HF4 hcr
  generalize w3.setCell ⟨p3, 0, none⟩ (.slice a9 ((zI D).length + 1) c9) = w4 at *
  go_wp2_with fail
  go_ret
  exact ⟨rfl, _, HB4.out, HF2.out.trans HF4.out⟩
end Mi
end Go.Proofs.YtplkhgmjcljjhaaDoor
namespace Go.Proofs.YtplkhgmjcljjhaaDoor
open Go.RowKit Sets Nf Df
namespace Mi
structure FoI (w0 : World) (s b1 q r lb p1 p2 p3 gN gO : Nat) (x : Dx) (d : Dm) (O : Nat → Nat) (N : Nat → Int) (D : List Nat) (fv nv fF : Value) (vs : List Value) (R : List (List Int)) (F : List Bool) (W : World) : Prop where
  fd : FdI b1 p1 p2 p3 gN gO d.R.length O N D fv W
  box : BoxD W q x d
  res : W.heap[r]? = some (.cells (dfC (fun _ => 0) 0 nilS nilS) 28 (0, 0))
  row : W.heap[lb]? = some (.cells (dfC d.of d.n nv fF) 28 (0, 0))
  own : OwnD b1 W R F nv fF vs
  ap : ∀ v ∈ vs, ∀ g, v.ownBlock = some g → fv.ownBlock ≠ some g
  low : q < b1 ∧ r < b1 ∧ b1 ≤ lb ∧ s ≤ b1 ∧ s ≤ p3 ∧ s ≤ gN
  bel : Below s w0 W
section
variable {w0 W W' : World} {s b1 q r lb p1 p2 p3 gN gO : Nat} {x : Dx} {d : Dm} {O : Nat → Nat} {N N' : Nat → Int} {D D' : List Nat} {fv fv' nv fF : Value} {vs : List Value} {R : List (List Int)} {F : List Bool}
theorem FoI.size (h : FoI w0 s b1 q r lb p1 p2 p3 gN gO x d O N D fv nv fF vs R F W) : b1 ≤ W.heap.size := h.fd.lt.2.2.2.2.2
theorem FoI.ssize (h : FoI w0 s b1 q r lb p1 p2 p3 gN gO x d O N D fv nv fF vs R F W) : s ≤ W.heap.size := Nat.le_trans h.low.2.2.2.1 h.size
theorem FoI.stay (h : FoI w0 s b1 q r lb p1 p2 p3 gN gO x d O N D fv nv fF vs R F W) (hb : Below W.heap.size W W') : FoI w0 s b1 q r lb p1 p2 p3 gN gO x d O N D fv nv fF vs R F W' :=
  ⟨h.fd.stay hb, h.box.stay hb, (hb.block _ (Array.getElem?_eq_some_iff.1 h.res).1).trans h.res, (hb.block _ (Array.getElem?_eq_some_iff.1 h.row).1).trans h.row, h.own.stay hb, h.ap, h.low, h.bel.trans (hb.mono h.ssize)⟩
theorem FoI.vsMem (h : FoI w0 s b1 q r lb p1 p2 p3 gN gO x d O N D fv nv fF vs R F W) {i : Nat} (hi : i < R.length) : vs.getD i nilS ∈ vs := getD_mem (by rw [h.own.len]; exact hi)
/-- find has been called. -/
theorem FoI.find (h : FoI w0 s b1 q r lb p1 p2 p3 gN gO x d O N D fv nv fF vs R F W) (hd : FdI b1 p1 p2 p3 gN gO d.R.length O N' D' fv' W') (hf : FrF p3 gN W fv W' fv') : FoI w0 s b1 q r lb p1 p2 p3 gN gO x d O N' D' fv' nv fF vs R F W' := by
  obtain ⟨l1, l2, l3, l4, l5, l6⟩ := h.fd.lt
  obtain ⟨m1, m2, m3, m4, m5, m6⟩ := h.low
  obtain ⟨cn, hcn⟩ := row_typ h.fd.nr
  have hfvt : ∀ {k}, fv.ownBlock = some k → ∃ cs, W.heap[k]? = some (.cells cs 3 (0, 0)) := fun hk => own_typ h.fd.fo hk
  have key : ∀ {k : Nat} {cs : Array Value} {t : TypeId}, W.heap[k]? = some (.cells cs t (0, 0)) → t ≠ 3 → k ≠ p3 → W'.heap[k]? = W.heap[k]? := fun hk ht hp => hf.block _ (Array.getElem?_eq_some_iff.1 hk).1 hp (typ_ne hk hcn ht) (fun e => by obtain ⟨cs, hc⟩ := hfvt e; exact typ_ne hk hc ht rfl)
  have hp3 : ∀ {k : Nat} {cs : Array Value}, W.heap[k]? = some (.cells cs 28 (0, 0)) → k ≠ p3 := fun hk => typ_ne hk h.fd.v3 (by decide)
  refine ⟨hd, ⟨(key h.box.row (by decide) (hp3 h.box.row)).trans h.box.row⟩, (key h.res (by decide) (hp3 h.res)).trans h.res, (key h.row (by decide) (hp3 h.row)).trans h.row, ⟨own_kept h.own.nx fun g hg => ?_, h.own.len, fun i hi => own_kept (h.own.each i hi) fun g hg => ?_, own_kept h.own.fl fun g hg => ?_⟩, fun v hv g hg e => ?_, h.low, h.bel.trans ⟨hf.os, hf.tape, hf.output, hf.size, fun k hk => ?_⟩⟩
  · obtain ⟨cs, hc⟩ := own_typ h.own.nx hg
    exact key hc (by decide) (by have := (h.own.nx.lt g hg).1; omega)
  · have h1 := (h.own.each i hi).lt g hg
    exact hf.block g h1.2 (by omega) (by omega) (h.ap _ (h.vsMem hi) g hg)
  · obtain ⟨cs, hc⟩ := own_typ h.own.fl hg
    exact key hc (by decide) (typ_ne hc h.fd.v3 (by decide))
  · obtain ⟨i, hi, rfl⟩ := List.getElem_of_mem hv
    rcases hf.own g e with e2 | e2
    · exact h.ap _ hv g hg e2
    · have hi2 : i < R.length := by rw [← h.own.len]; exact hi
      have h1 := (h.own.each i hi2).lt g (by rw [List.getD_eq_getElem?_getD, List.getElem?_eq_getElem hi]; exact hg)
      omega
  · exact hf.block k (by omega) (by omega) (by omega) (fun e => by have := (h.fd.fo.lt k e).1; omega)
/-- A block of its own, above b1, is written that is none of those. -/
theorem FoI.elsewhere (h : FoI w0 s b1 q r lb p1 p2 p3 gN gO x d O N D fv nv fF vs R F W) {g : Nat} {cs : Array Value} (hg : W.heap[g]? = some (.cells cs 3 (0, 0))) (hb : b1 ≤ g) (hn : fv.ownBlock ≠ some g) (hv : ∀ v ∈ vs, v.ownBlock ≠ some g) (i : Nat) (u : Value) :
    FoI w0 s b1 q r lb p1 p2 p3 gN gO x d O N D fv nv fF vs R F (W.setCell ⟨g, i, none⟩ u) := by
  have hs := hset W g i u
  obtain ⟨m1, m2, m3, m4, m5, m6⟩ := h.low
  refine ⟨h.fd.other (by rw [setsz]; exact Nat.le_refl _) (fun k hk => hs k (fun e => ?_)), ⟨(hs q (by omega)).trans h.box.row⟩, (hs r (by omega)).trans h.res, (hs lb (typ_ne h.row hg (by decide))).trans h.row, ⟨own_kept h.own.nx fun k hk => ?_, h.own.len, fun j hj => own_kept (h.own.each j hj) fun k hk => ?_, own_kept h.own.fl fun k hk => ?_⟩, h.ap, h.low, h.bel.setCell (by show s ≤ g; omega) _⟩
  · subst e
    rcases hk with hk | hk
    · omega
    · exact hn hk
  · obtain ⟨c, hc⟩ := own_typ h.own.nx hk
    exact hs k (typ_ne hc hg (by decide))
  · exact hs k (fun e => hv _ (h.vsMem hj) (e ▸ hk))
  · obtain ⟨c, hc⟩ := own_typ h.own.fl hk
    exact hs k (typ_ne hc hg (by decide))
/-- One more row of next states. -/
theorem FoI.pushN (h : FoI w0 s b1 q r lb p1 p2 p3 gN gO x d O N D fv nv fF vs R F W) {nv' v : Value} {row : List Int} (ho : W'.ownsRow b1 31 1 nv' (R.length + 1) (vs ++ [v])) (hv : OwnN b1 W v row) (hb : Below b1 W W') (ha : Ap W nv W' nv') (hap : ∀ g, v.ownBlock = some g → fv.ownBlock ≠ some g) :
    FoI w0 s b1 q r lb p1 p2 p3 gN gO x d O N D fv nv' fF (vs ++ [v]) (R ++ [row]) F (W'.setCell ⟨lb, 257, none⟩ nv') := by
  have hs := hset W' lb 257 nv'
  obtain ⟨m1, m2, m3, m4, m5, m6⟩ := h.low
  have hnvt : ∀ {k}, nv.ownBlock = some k → ∃ cs, W.heap[k]? = some (.cells cs 31 (0, 0)) := fun hk => own_typ h.own.nx hk
  have key : ∀ {k : Nat} {cs : Array Value} {t : TypeId}, W.heap[k]? = some (.cells cs t (0, 0)) → t ≠ 31 → W'.heap[k]? = W.heap[k]? := fun hk ht => ha.block _ (Array.getElem?_eq_some_iff.1 hk).1 (fun e => by obtain ⟨cs, hc⟩ := hnvt e; exact typ_ne hk hc ht rfl)
  have hr2 := (key h.row (by decide)).trans h.row
  have keyI : ∀ {v : Value} {l : List Int}, OwnN b1 W v l → OwnN b1 (W'.setCell ⟨lb, 257, none⟩ nv') v l := fun {v l} h0 => own_kept h0 fun g hg => by
    obtain ⟨cs, hc⟩ := own_typ h0 hg
    rw [hs g (typ_ne hc h.row (by decide))]
    exact key hc (by decide)
  refine ⟨h.fd.other (by rw [setsz]; exact ha.size) (fun k hk => ?_), ⟨(hs q (by omega)).trans ((hb.block q m1).trans h.box.row)⟩, (hs r (by omega)).trans ((hb.block r m2).trans h.res), ?_, ⟨?_, by simp [h.own.len], fun i hi => ?_, ?_⟩, fun u hu g hg => ?_, h.low, (h.bel.trans (hb.mono m4)).setCell (by show s ≤ lb; omega) _⟩
  · rcases hk with hk | hk
    · rw [hs k (by omega)]; exact hb.block k hk
    · obtain ⟨cs, hc⟩ := own_typ h.fd.fo hk
      rw [hs k (typ_ne hc h.row (by decide))]; exact key hc (by decide)
  · rw [heap_setCell_same _ _ _ _ _ _ hr2, dfC_setN]
  · rw [List.length_append, List.length_singleton]
    refine own_kept ho fun g hg => hs g (fun e => ?_)
    obtain ⟨cs, hc⟩ := own_typ ho hg
    exact typ_ne hc hr2 (by decide) e
  · rw [List.length_append, List.length_singleton] at hi
    by_cases e : i < R.length
    · rw [List.getD_eq_getElem?_getD, List.getElem?_append_left (by rw [h.own.len]; exact e), ← List.getD_eq_getElem?_getD, List.getD_eq_getElem?_getD (l := R ++ [row]), List.getElem?_append_left e, ← List.getD_eq_getElem?_getD]
      exact keyI (h.own.each i e)
    · have e2 : i = R.length := by omega
      rw [List.getD_eq_getElem?_getD, List.getElem?_append_right (by rw [h.own.len]; omega), List.getD_eq_getElem?_getD (l := R ++ [row]), List.getElem?_append_right (by omega), h.own.len, e2, Nat.sub_self]
      exact keyI hv
  · refine own_kept h.own.fl fun g hg => ?_
    obtain ⟨cs, hc⟩ := own_typ h.own.fl hg
    rw [hs g (typ_ne hc h.row (by decide))]; exact key hc (by decide)
  · rcases List.mem_append.1 hu with hu | hu
    · exact h.ap u hu g hg
    · rw [List.mem_singleton] at hu; exact hap g (hu ▸ hg)
theorem FoI.pushF (h : FoI w0 s b1 q r lb p1 p2 p3 gN gO x d O N D fv nv fF vs R F W) {fF' : Value} {b : Bool} (ho : W'.ownsRow b1 4 1 fF' (F.length + 1) (bL F ++ [.bool b])) (hb : Below b1 W W') (ha : Ap W fF W' fF') :
    FoI w0 s b1 q r lb p1 p2 p3 gN gO x d O N D fv nv fF' vs R (F ++ [b]) (W'.setCell ⟨lb, 258, none⟩ fF') := by
  have hs := hset W' lb 258 fF'
  obtain ⟨m1, m2, m3, m4, m5, m6⟩ := h.low
  have key : ∀ {k : Nat} {cs : Array Value} {t : TypeId}, W.heap[k]? = some (.cells cs t (0, 0)) → t ≠ 4 → W'.heap[k]? = W.heap[k]? := fun hk ht => ha.block _ (Array.getElem?_eq_some_iff.1 hk).1 (fun e => by obtain ⟨cs, hc⟩ := own_typ h.own.fl e; exact typ_ne hk hc ht rfl)
  have hr2 := (key h.row (by decide)).trans h.row
  have keyI : ∀ {k : Nat} {cs : Array Value} {t : TypeId}, W.heap[k]? = some (.cells cs t (0, 0)) → t ≠ 4 → t ≠ 28 → (W'.setCell ⟨lb, 258, none⟩ fF').heap[k]? = W.heap[k]? := fun hk h1 h2 => by
    rw [hs _ (typ_ne hk h.row h2)]; exact key hk h1
  refine ⟨h.fd.other (by rw [setsz]; exact ha.size) (fun k hk => ?_), ⟨(hs q (by omega)).trans ((hb.block q m1).trans h.box.row)⟩, (hs r (by omega)).trans ((hb.block r m2).trans h.res), ?_, ⟨own_kept h.own.nx fun g hg => ?_, h.own.len, fun i hi => own_kept (h.own.each i hi) fun g hg => ?_, ?_⟩, h.ap, h.low, (h.bel.trans (hb.mono m4)).setCell (by show s ≤ lb; omega) _⟩
  · rcases hk with hk | hk
    · rw [hs k (by omega)]; exact hb.block k hk
    · obtain ⟨cs, hc⟩ := own_typ h.fd.fo hk
      exact keyI hc (by decide) (by decide)
  · rw [heap_setCell_same _ _ _ _ _ _ hr2, dfC_setF]
  · obtain ⟨cs, hc⟩ := own_typ h.own.nx hg
    exact keyI hc (by decide) (by decide)
  · obtain ⟨cs, hc⟩ := own_typ (h.own.each i hi) hg
    exact keyI hc (by decide) (by decide)
  · rw [List.length_append, List.length_singleton, show bL (F ++ [b]) = bL F ++ [.bool b] from by unfold bL; rw [List.map_append]; rfl]
    refine own_kept ho fun g hg => hs g (fun e => ?_)
    obtain ⟨cs, hc⟩ := own_typ ho hg
    exact typ_ne hc hr2 (by decide) e
end
/-- The least state that is alike. -/
def rpO (O : Nat → Nat) (s : Nat) : Nat := ((List.range (s + 1)).find? fun t => O t == O s).getD s
theorem rpO_is (O : Nat → Nat) (s : Nat) : O (rpO O s) = O s ∧ rpO O s ≤ s := by
  unfold rpO
  cases h : (List.range (s + 1)).find? fun t => O t == O s with
  | none => exact ⟨rfl, Nat.le_refl _⟩
  | some t =>
    have h1 := List.find?_some h
    have h2 := List.mem_of_find?_eq_some h
    rw [List.mem_range] at h2
    exact ⟨by simpa using h1, by show t ≤ s; omega⟩
theorem rpO_least (O : Nat → Nat) (s t : Nat) (h : O t = O s) : rpO O s ≤ t := by
  by_cases hts : t ≤ s
  · unfold rpO
    cases hf : (List.range (s + 1)).find? fun t => O t == O s with
    | none =>
      have := List.find?_eq_none.1 hf t (List.mem_range.2 (by omega))
      simp [h] at this
    | some u =>
      show u ≤ t
      rw [List.find?_range_eq_some] at hf
      rcases Nat.lt_or_ge t u with hlt | hge
      · have := hf.2.2 t hlt
        simp [h] at this
      · exact hge
  · have := (rpO_is O s).2
    omega
theorem rpO_eq (O : Nat → Nat) {s t : Nat} (h : O s = O t) : rpO O s = rpO O t := by
  have h1 := rpO_least O s (rpO O t) ((rpO_is O t).1.trans h.symm)
  have h2 := rpO_least O t (rpO O s) ((rpO_is O s).1.trans h)
  omega
theorem rpO_iff (O : Nat → Nat) (s t : Nat) : rpO O s = rpO O t ↔ O s = O t := ⟨fun e => by rw [← (rpO_is O s).1, e, (rpO_is O t).1], rpO_eq O⟩
/-- What the numbers of find say, of the keys that are found. -/
def NuI (O : Nat → Nat) (n : Nat) (N : Nat → Int) (L : List Nat) : Prop := ∀ s, s < n → N (O s) = if rpO O s ∈ L then ((ix L (rpO O s) : Nat) : Int) else -1
theorem NuI.put {O : Nat → Nat} {n : Nat} {N : Nat → Int} {L : List Nat} (h : NuI O n N L) {s : Nat} (hs : rpO O s ∉ L) : NuI O n (upI N (O s) (L.length : Nat)) (L ++ [rpO O s]) := fun t ht => by
  unfold upI
  by_cases e : O t = O s
  · rw [if_pos e, rpO_eq O e, if_pos (by simp)]
    have := ix_put L (rpO O s)
    rw [put_new hs, ix_out hs] at this
    rw [this]
  · rw [if_neg e, h t ht]
    have hne : rpO O t ≠ rpO O s := fun h2 => e ((rpO_iff O t s).1 h2)
    by_cases hm : rpO O t ∈ L
    · rw [if_pos hm, if_pos (List.mem_append_left _ hm), ix_app _ hm]
    · rw [if_neg hm, if_neg (by simp [hm, hne])]
end Mi
end Go.Proofs.YtplkhgmjcljjhaaDoor
namespace Go.Proofs.YtplkhgmjcljjhaaDoor
open Go.RowKit Sets Nf Df
namespace Mi
/-- The states in the order in which they are found. -/
inductive Gn (into : Nat → Nat → Nat) (nc s0 : Nat) : Nat → List Nat → Prop
  | start : Gn into nc s0 0 [s0]
  | step {i : Nat} {L : List Nat} {s : Nat} : Gn into nc s0 i L → L[i]? = some s → Gn into nc s0 (i + 1) (puts (into s) L nc)
theorem find_any (b1 p1 p2 p3 gN gO n : Nat) (O : Nat → Nat) (N : Nat → Int) (D L : List Nat) (fv : Value) (s : Nat) (w : World) (h : FdI b1 p1 p2 p3 gN gO n O N D fv w) (hn : NuI O n N L) (hD : D.map (rpO O) = L) (hDn : ∀ t ∈ D, t < n) (hs : s < n) (hO : ∀ i, i < n → O i < n) (hLn : L.Nodup) (hnn : n ≤ 90000) :
    Calls Tryd.prog 52 #[.int .i64 s, .pointer (some ⟨p1, 0, none⟩), .pointer (some ⟨p2, 0, none⟩), .pointer (some ⟨p3, 0, none⟩)] w fun e w' => e = .returned (.int .i64 (ix (put L (rpO O s)) (rpO O s) : Nat)) ∧
      ∃ N' D' fv', FdI b1 p1 p2 p3 gN gO n O N' D' fv' w' ∧ FrF p3 gN w fv w' fv' ∧ NuI O n N' (put L (rpO O s)) ∧ D'.map (rpO O) = put L (rpO O s) ∧ ∀ t ∈ D', t < n := by
  have hlen : D.length = L.length := by rw [← hD, List.length_map]
  have hDl : D.length ≤ n := by
    rw [hlen]
    refine nodup_few hLn (fun y hy => ?_)
    rw [← hD] at hy
    obtain ⟨t, ht, rfl⟩ := List.mem_map.1 hy
    have := (rpO_is O t).2
    have := hDn t ht
    omega
  by_cases hm : rpO O s ∈ L
  · have hN := hn s hs
    rw [if_pos hm] at hN
    refine (find_old b1 p1 p2 p3 gN gO n O N D fv s w h hs (hO s hs) (by omega)).mono ?_
    rintro e w' ⟨rfl, hb⟩
    rw [put_old hm]
    exact ⟨by rw [hN], N, D, fv, h.stay hb, FrF.of_below _ hb, hn, hD, hDn⟩
  · have hN := hn s hs
    rw [if_neg hm] at hN
    refine (find_new b1 p1 p2 p3 gN gO n O N D fv s w h hs (hO s hs) (by omega) (by omega)).mono ?_
    rintro e w' ⟨rfl, fv', h1, h2⟩
    rw [hlen] at h1 ⊢
    have hix := ix_put L (rpO O s)
    rw [ix_out hm] at hix
    refine ⟨by rw [hix], _, _, fv', h1, h2, ?_, by rw [List.map_append, hD, put_new hm]; rfl, fun t ht => ?_⟩
    · rw [put_new hm]; exact hn.put hm
    · rcases List.mem_append.1 ht with ht | ht
      · exact hDn t ht
      · rw [List.mem_singleton] at ht; rw [ht]; exact hs
/-- What the folding makes of an automaton. -/
structure Fold (d : Dm) (nc : Nat) (O : Nat → Nat) (L : List Nat) (d' : Dm) : Prop where
  of : d'.of = d.of
  n : d'.n = d.n
  mki : Mk (fun k c => rpO O (goR d.R k c)) (fun k => d.F.getD k false) nc (rpO O 0) (fun k => k < d.R.length ∧ rpO O k = k) L d'.R d'.F
  gn : Gn (fun k c => rpO O (goR d.R k c)) nc (rpO O 0) d'.R.length L
  all : d'.R.length = L.length
theorem ix_late {f : Nat → Nat} {L : List Nat} {c m : Nat} (h : c < m) : ix (put (puts f L c) (f c)) (f c) = ix (puts f L m) (f c) := by
  obtain ⟨M, hM⟩ := puts_pre f L (c + 1) (m - (c + 1))
  rw [show c + 1 + (m - (c + 1)) = m by omega] at hM
  rw [hM]
  exact (ix_app M ((mem_put _ _ _).2 (.inr rfl))).symm
/-- The row in the making: the first c classes are there. -/
def nxR (f : Nat → Nat) (L : List Nat) (nc c : Nat) : Nat → Value := fun j => .int .i64 (if j < c then ((ix (puts f L nc) (f j) : Nat) : Int) else 0)
theorem nxR_next (f : Nat → Nat) (L : List Nat) {nc c : Nat} (h : c < nc) (j : Nat) : nxR f L nc (c + 1) j = if j = c then .int .i64 (ix (put (puts f L c) (f c)) (f c) : Nat) else nxR f L nc c j := by
  unfold nxR
  by_cases e : j = c
  · rw [if_pos e, if_pos (by omega), ix_late h, e]
  · rw [if_neg e]
    by_cases h2 : j < c
    · rw [if_pos h2, if_pos (by omega)]
    · rw [if_neg h2, if_neg (by omega)]
theorem own_row {W : World} {b1 g nc : Nat} {l : List Int} (hr : W.rowIs g 3 nc (fun j => .int .i64 (l.getD j 0))) (hl : l.length = nc) (hb : b1 ≤ g) (hn : nc ≤ 1000) : OwnN b1 W (.slice (some ⟨g, 0, none⟩) nc nc) l := by
  obtain ⟨c, hc, hs, hg⟩ := hr
  unfold OwnN
  rw [hl]
  refine ⟨by rw [is64_length, hl, Nat.mul_one], .inr ⟨g, nc, c, rfl, hb, hc, Nat.le_refl _, by unfold maxLen; omega, by omega, ?_⟩⟩
  apply List.ext_getElem?
  intro i
  rw [List.getElem?_take]
  unfold is64
  rw [List.getElem?_map]
  by_cases hi : i < nc
  · rw [if_pos (by omega), Array.getElem?_toList, hg i hi]
    show some (Value.int .i64 (l.getD i 0)) = _
    rw [List.getD_eq_getElem?_getD, List.getElem?_eq_getElem (by omega)]; rfl
  · rw [if_neg (by omega), List.getElem?_eq_none (by omega)]; rfl
set_option maxHeartbeats 12800000 in
set_option maxRecDepth 100000 in
theorem folded_any (x : Dx) (d : Dm) (nc gO : Nat) (O : Nat → Nat) (w : World) (h : DAt w x d) (hr : RRt d.R nc) (hdn : d.n = (nc : Int)) (hfl : d.F.length = d.R.length) (hn : d.R.length ≤ 1000) (hnc : nc ≤ 256)
    (hg : w.rowIs gO 3 d.R.length (fun i => .int .i64 (O i : Nat))) (hO : ∀ i, i < d.R.length → O i < d.R.length) (hk : ∀ s t, s < d.R.length → t < d.R.length → (O s = O t ↔ Alk nc (goR d.R) (fun s => d.F.getD s false) s t)) :
    Calls Tryd.prog 24 #[.agg (dvC x d), .slice (some ⟨gO, 0, none⟩) d.R.length d.R.length] w fun e w' => ∃ z d' L, e = .returned (.agg (dvC z d')) ∧ Fold d nc O L d' ∧ OwnDm w.heap.size w' z d' ∧ Below w.heap.size w w' := by
  have HD0 := Lib.hid h
  have HRR := Lib.hid hr
  have HDN := Lib.hid hdn
  have HFL := Lib.hid hfl
  have HN := Lib.hid (And.intro hn hnc)
  have HGR := Lib.hid hg
  have HO := Lib.hid hO
  have HK := Lib.hid hk
  clear h hr hdn hfl hn hnc hg hO hk
  have hmf : ∀ (fn : Fn) (first cap : Array Value) (w : World), (Instr.makeFunc fn first cap).run Tryd.prog w = .ok (.func fn first cap) w := fun _ _ _ _ => rfl
  have hzd := zeroD
  go_enter Tryd.func24, Tryd.ntmps24
  go_upto_region 1 with fail
  obtain ⟨s, hs⟩ : ∃ s, Hid (w.heap.size = s) := ⟨_, Lib.hid rfl⟩
  have hal2 := (Below.refl _ (w.alloc (.cells (dvC x d) 28))).alloc (Nat.le_refl _) (.cells #[.slice (some ⟨gO, 0, none⟩) d.R.length d.R.length] 31)
  have hal3 := (Below.refl _ ((w.alloc (.cells (dvC x d) 28)).alloc (.cells #[.slice (some ⟨gO, 0, none⟩) d.R.length d.R.length] 31))).alloc (Nat.le_refl _) (.cells (dfC (fun _ => 0) 0 nilS nilS) 28)
  have HX1 := Lib.hid (((BoxD.new w x d).stay hal2).stay hal3)
  have H21 := Lib.hid ((hal3.block _ (by simp)).trans (heap_alloc_new (w.alloc (.cells (dvC x d) 28)) (.cells #[.slice (some ⟨gO, 0, none⟩) d.R.length d.R.length] 31)))
  have HR1 := Lib.hid (heap_alloc_new ((w.alloc (.cells (dvC x d) 28)).alloc (.cells #[.slice (some ⟨gO, 0, none⟩) d.R.length d.R.length] 31)) (.cells (dfC (fun _ => 0) 0 nilS nilS) 28))
  have HB1 := Lib.hid ((((Below.refl w.heap.size w).alloc (Nat.le_refl _) (.cells (dvC x d) 28)).alloc (by simp) (.cells #[.slice (some ⟨gO, 0, none⟩) d.R.length d.R.length] 31)).alloc (by simp; omega) (.cells (dfC (fun _ => 0) 0 nilS nilS) 28))
  have HZ1 : Hid ((((w.alloc (.cells (dvC x d) 28)).alloc (.cells #[.slice (some ⟨gO, 0, none⟩) d.R.length d.R.length] 31)).alloc (.cells (dfC (fun _ => 0) 0 nilS nilS) 28)).heap.size = w.heap.size + 3) := Lib.hid (by simp)
  have e1 : (w.alloc (.cells (dvC x d) 28)).heap.size = w.heap.size + 1 := by simp
  have e2 : ((w.alloc (.cells (dvC x d) 28)).alloc (.cells #[.slice (some ⟨gO, 0, none⟩) d.R.length d.R.length] 31)).heap.size = w.heap.size + 2 := by simp
  rw [e1] at H21
  rw [e2] at HR1
  clear hal2 hal3 e1 e2
  generalize ((w.alloc (.cells (dvC x d) 28)).alloc (.cells #[.slice (some ⟨gO, 0, none⟩) d.R.length d.R.length] 31)).alloc (.cells (dfC (fun _ => 0) 0 nilS nilS) 28) = w1 at *
  rw [hs.out] at HX1 H21 HR1 HB1 HZ1 ⊢
  have c2 : w1.cell? ⟨s + 1, 0, none⟩ = some (.slice (some ⟨gO, 0, none⟩) d.R.length d.R.length) := by rw [cell_of_row w1 (s + 1) 0 _ _ _ H21.out]; rfl
  have c2a : (w1.alloc (.cells #[.int .i64 (-1)] 3)).cell? ⟨s + 1, 0, none⟩ = some (.slice (some ⟨gO, 0, none⟩) d.R.length d.R.length) := by rw [World.cell?_alloc_past _ _ _ (World.block_lt_of_cell? _ _ c2)]; exact c2
  have HRP : Hid (∀ W b, W.cell? ⟨b, 0, none⟩ = some (.int .i64 (-1)) → Calls Tryd.prog 51 #[.slice (some ⟨b, 0, none⟩) 1 1, .int .i64 (d.R.length : Int)] W fun e w' => ∃ g, e = .returned (.slice (some ⟨g, 0, none⟩) d.R.length d.R.length) ∧ W.heap.size ≤ g ∧ w'.heap[g]? = some (.cells (rpL d.R.length d.R.length).toArray 3 (0, 0)) ∧ Below W.heap.size W w') := Lib.hid (fun W b hb => repeat_any b d.R.length W hb HN.out.1)
  go_upto_region 2 with (go_at_call 51; refine (HRP.out _ _ (by rw [World.cell?_alloc_new]; rfl)).mono ?_; rintro e w2 ⟨gN, rfl, hg1, hg2, hb2⟩; have HG2 := Lib.hid (And.intro hg1 hg2); have HB2 := Lib.hid hb2; clear hg1 hg2 hb2)
  clear c2 c2a HRP
  go_upto_region 3 with fail
  obtain ⟨p1, hp1⟩ : ∃ p1, Hid (w2.heap.size = p1) := ⟨_, Lib.hid rfl⟩
  have HSZ : Hid (s + 4 ≤ gN ∧ gN < p1) := Lib.hid (by
    have h1 := HG2.out.1
    have h2 := (Array.getElem?_eq_some_iff.1 HG2.out.2).1
    have h3 := HZ1.out
    rw [show (w1.alloc (.cells #[.int .i64 (-1)] 3)).heap.size = w1.heap.size + 1 from by simp] at h1
    have := hp1.out
    omega)
  have HB12 : Hid (Below w1.heap.size w1 w2) := Lib.hid (((Below.refl w1.heap.size w1).alloc (Nat.le_refl _) _).trans (HB2.out.mono (by simp)))
  have hal4 := (Below.refl w2.heap.size w2).alloc (Nat.le_refl _) (.cells #[.slice (some ⟨gN, 0, none⟩) d.R.length d.R.length] 31)
  have hal5 := hal4.alloc (by simp) (.cells #[.slice none 0 0] 31)
  have HV1 : Hid (((w2.alloc (.cells #[.slice (some ⟨gN, 0, none⟩) d.R.length d.R.length] 31)).alloc (.cells #[.slice none 0 0] 31)).heap[p1]? = some (.cells #[.slice (some ⟨gN, 0, none⟩) d.R.length d.R.length] 31 (0, 0))) := Lib.hid (DfR.keep1 (DfR.new1 w2 _ hp1.out.symm) _)
  have HV3 : Hid (((w2.alloc (.cells #[.slice (some ⟨gN, 0, none⟩) d.R.length d.R.length] 31)).alloc (.cells #[.slice none 0 0] 31)).heap[p1 + 1]? = some (.cells #[.slice none 0 0] 31 (0, 0))) := Lib.hid (DfR.new1 _ _ (by rw [← hp1.out]; simp))
  have HB3 : Hid (Below w2.heap.size w2 ((w2.alloc (.cells #[.slice (some ⟨gN, 0, none⟩) d.R.length d.R.length] 31)).alloc (.cells #[.slice none 0 0] 31))) := Lib.hid hal5
  have HZ3 : Hid (((w2.alloc (.cells #[.slice (some ⟨gN, 0, none⟩) d.R.length d.R.length] 31)).alloc (.cells #[.slice none 0 0] 31)).heap.size = p1 + 2) := Lib.hid (by rw [← hp1.out]; simp)
  clear hal4 hal5
  rw [hp1.out]
  generalize (w2.alloc (.cells #[.slice (some ⟨gN, 0, none⟩) d.R.length d.R.length] 31)).alloc (.cells #[.slice none 0 0] 31) = w3 at *
  have HB13 : Hid (Below w1.heap.size w1 w3) := Lib.hid (HB12.out.trans (HB3.out.mono HB12.out.size))
  have HGO : Hid (gO < s) := Lib.hid (by rw [← hs.out]; exact World.rowIs.lt HGR.out)
  have HFD : Hid (FdI (p1 + 2) p1 (s + 1) (p1 + 1) gN gO d.R.length O (fun _ => -1) [] (.slice none 0 0) w3) := Lib.hid (by
    have h1 := HZ1.out
    have h2 := HSZ.out
    have h3 := HGO.out
    refine ⟨HV1.out, (HB13.out.block _ (by omega)).trans H21.out, HV3.out, ?_, ?_, OwnN.nil _ _, ⟨by omega, by omega, by omega, by omega, by omega, by rw [HZ3.out]; exact Nat.le_refl _⟩, ⟨by omega, by omega, by omega⟩⟩
    · refine ⟨_, (HB3.out.block gN (by rw [hp1.out]; exact h2.2)).trans HG2.out.2, by rw [List.size_toArray, rpL_len _ _ (Nat.le_refl _)], fun i hi => ?_⟩
      rw [List.getElem?_toArray]
      exact rpL_get _ _ _ hi
    · exact World.rowIs.of_block HGR.out ((HB13.out.block gO (by omega)).trans (HB1.out.block gO h3)))
  have HBX : Hid (BoxD w3 s x d) := Lib.hid (HX1.out.kept HB13.out (by rw [HZ1.out]; omega))
  have HRS : Hid (w3.heap[s + 2]? = some (.cells (dfC (fun _ => 0) 0 nilS nilS) 28 (0, 0))) := Lib.hid ((HB13.out.block _ (by rw [HZ1.out]; omega)).trans HR1.out)
  have HBS : Hid (Below s w w3) := Lib.hid (HB1.out.trans (HB13.out.mono (by rw [HZ1.out]; omega)))
  clear HX1 H21 HR1 HB1 HG2 HB2 HB12 HV1 HV3 HB3 HB13
  have HPO := Lib.hid HRR.out.pos
  have HFI := Lib.hid (find_any (p1 + 2) p1 (s + 1) (p1 + 1) gN gO d.R.length O (fun _ => -1) [] [] (.slice none 0 0) 0 w3 HFD.out (fun t _ => by simp) rfl (fun t ht => by cases ht) HPO.out HO.out List.nodup_nil (by have := HN.out.1; omega))
  go_upto_region 5 with (go_at_call 52; refine HFI.out.mono ?_; rintro e w4 ⟨rfl, N4, D4, fv4, h1, h2, h3, h4, h5⟩; have HFD4 := Lib.hid h1; have HFF4 := Lib.hid h2; have HNU4 := Lib.hid h3; have HDL4 := Lib.hid (And.intro h4 h5); clear h1 h2 h3 h4 h5)
  have HX4 : Hid (BoxD w4 s x d ∧ w4.heap[s + 2]? = some (.cells (dfC (fun _ => 0) 0 nilS nilS) 28 (0, 0)) ∧ Below s w w4) := Lib.hid (by
    have h1 := HSZ.out
    have h2 := HZ3.out
    have hb : ∀ k, k < s + 3 → w4.heap[k]? = w3.heap[k]? := fun k hk => HFF4.out.block k (by omega) (by omega) (by omega) (fun e => by cases e)
    exact ⟨⟨(hb s (by omega)).trans HBX.out.row⟩, (hb _ (by omega)).trans HRS.out, HBS.out.trans ⟨HFF4.out.os, HFF4.out.tape, HFF4.out.output, HFF4.out.size, fun k hk => hb k (by omega)⟩⟩)
  clear HFD HBX HRS HBS HFI HFF4
  go_upto_region 6 with (first
    | (refine wpList_load_mid rfl 24 _ rfl s 0 rfl (partC d.of d.n).toList _ (partC_mid _ _ _ _ _ _ HX4.out.1.row) Tryd.underlying24 rfl (sizePL _ _) ?_; rw [Array.toArray_toList])
    | (refine wpList_build_df rfl (.tmp 22) rfl d.of d.n rfl ?_)
    | (refine DfR.wpList_lay_df rfl (.tmp 8) (.tmp 23) rfl d.of d.n rfl rfl ?_))
  rw [show ∀ a : Act, a.put none undef = a from fun _ => rfl]
  obtain ⟨lb, hlb⟩ : ∃ lb, Hid (w4.heap.size = lb) := ⟨_, Lib.hid rfl⟩
  obtain ⟨into, hinto⟩ : ∃ into, Hid ((fun k c => rpO O (goR d.R k c)) = into) := ⟨_, Lib.hid rfl⟩
  obtain ⟨fin, hfin⟩ : ∃ fin : Nat → Bool, Hid ((fun k => d.F.getD k false) = fin) := ⟨_, Lib.hid rfl⟩
  have HFO5 : Hid (FoI w s (p1 + 2) s (s + 2) lb p1 (s + 1) (p1 + 1) gN gO x d O N4 D4 fv4 nilS nilS [] [] [] (w4.alloc (.cells (dfC d.of d.n nilS nilS) 28))) := Lib.hid (by
    have h1 := HSZ.out
    have h2 := HFD4.out.lt
    have hal := (Below.refl w4.heap.size w4).alloc (Nat.le_refl _) (.cells (dfC d.of d.n nilS nilS) 28)
    exact ⟨HFD4.out.stay hal, HX4.out.1.stay hal, (hal.block _ (Array.getElem?_eq_some_iff.1 HX4.out.2.1).1).trans HX4.out.2.1, by rw [← hlb.out]; exact heap_alloc_new w4 _, OwnD.nil _ _, fun v hv => (by cases hv), ⟨by omega, by omega, by rw [← hlb.out]; omega, by omega, by omega, by omega⟩, HX4.out.2.2.trans (hal.mono (by omega))⟩)
  have HMK5 : Hid (Mk into fin nc (rpO O 0) (fun k => k < d.R.length ∧ rpO O k = k) [rpO O 0] [] []) := Lib.hid (Mk.start ⟨Nat.lt_of_le_of_lt (rpO_is O 0).2 HPO.out, rpO_eq O (rpO_is O 0).1⟩)
  have HGN5 : Hid (Gn into nc (rpO O 0) 0 [rpO O 0]) := Lib.hid .start
  have hp0 : put ([] : List Nat) (rpO O 0) = [rpO O 0] := rfl
  rw [hp0] at HNU4 HDL4
  rw [hlb.out]
  clear HFD4 HX4 hp0 HZ3 HSZ HZ1 HGR
  generalize w4.alloc (.cells (dfC d.of d.n nilS nilS) 28) = w5 at *
  go_wp2_with fail
  go_loopw [9] (fun v wr => ∃ (i : Nat) (N : Nat → Int) (D L : List Nat) (fv nv fF : Value) (vs : List Value) (R : List (List Int)) (F : List Bool), v = .int .i64 i ∧ Hid (i = R.length) ∧ Hid (FoI w s (p1 + 2) s (s + 2) lb p1 (s + 1) (p1 + 1) gN gO x d O N D fv nv fF vs R F wr) ∧ Hid (NuI O d.R.length N L) ∧ Hid (D.map (rpO O) = L ∧ ∀ t ∈ D, t < d.R.length) ∧
    Hid (Mk into fin nc (rpO O 0) (fun k => k < d.R.length ∧ rpO O k = k) L R F) ∧ Hid (Gn into nc (rpO O 0) R.length L)) (fun v _ => ((d.R.length : Int) - intOf v).toNat)
  case atStart => exact ⟨0, N4, D4, _, fv4, nilS, nilS, [], [], [], rfl, Lib.hid rfl, HFO5, HNU4, HDL4, HMK5, HGN5⟩
  case round =>
    clear HFO5 HNU4 HDL4 HMK5 HGN5
    obtain ⟨i, N, D, L, fv, nv, fF, vs, R, F, rfl, HI, HFO, HNU, HDL, HMK, HGN⟩ := hrel
    generalize hwr : wr = w6 at *
    clear hwr wr w5
    have HLD : Hid (L.length = D.length) := Lib.hid (by rw [← HDL.out.1, List.length_map])
    have HLn : Hid (L.length ≤ d.R.length) := Lib.hid (nodup_few HMK.out.nd (fun k hk => (HMK.out.ok k hk).1))
    have c3 : w6.cell? ⟨p1 + 1, 0, none⟩ = some fv := by rw [cell_of_row w6 (p1 + 1) 0 _ _ _ HFO.out.fd.v3]; rfl
    obtain ⟨fa, fc, hfv, -⟩ := own_slice HFO.out.fd.fo
    rw [zI_len] at hfv
    subst hfv
    by_cases hlt : i < D.length
    · have hdd : decide ((i : Int) < (D.length : Int)) = true := decide_eq_true (by omega)
      have hd2 : decide (i < D.length) = true := decide_eq_true hlt
      have HJ := Lib.hid hlt
      have hji : (i : Int) < (D.length : Int) := by omega
      have hnums : NumsIn w6 fa (zI D) := by
        obtain ⟨a3, c3', e3, h3⟩ := HFO.out.fd.fo.nums
        rw [zI_len] at e3
        injection e3 with e3 _ _
        rw [e3]; exact h3
      obtain ⟨bf, bo, rfl, hcf⟩ := hnums i (by rw [zI_len]; exact hlt)
      rw [zI_get D i hlt] at hcf
      have HDJ := Lib.hid (getD_some hlt)
      have HTS := Lib.hid (HDL.out.2 _ (List.mem_of_getElem? HDJ.out))
      clear hlt hnums
      generalize D.getD i 0 = ts at *
      go_upto_region 10 with fail
      clear c3 hcf hdd hd2
      obtain ⟨k, hk⟩ : ∃ k, Hid (rpO O ts = k) := ⟨_, Lib.hid rfl⟩
      have HKO : Hid (O k = O ts ∧ k < d.R.length) := Lib.hid (by rw [← hk.out]; exact ⟨(rpO_is O ts).1, Nat.lt_of_le_of_lt (rpO_is O ts).2 HTS.out⟩)
      have HLK : Hid (L[R.length]? = some k) := Lib.hid (by rw [← HI.out, ← HDL.out.1, List.getElem?_map, HDJ.out, ← hk.out]; rfl)
      have HAK := Lib.hid ((HK.out k ts HKO.out.2 HTS.out).1 HKO.out.1)
      have HIC : Hid (∀ c, c < nc → rpO O (goR d.R ts c) = into k c ∧ goR d.R ts c < d.R.length) := Lib.hid (fun c hc => by
        have g1 := (HRR.out.go HTS.out hc).2.2
        have g2 := (HRR.out.go HKO.out.2 hc).2.2
        refine ⟨?_, g1⟩
        rw [← hinto.out]
        exact (rpO_eq O ((HK.out _ _ g2 g1).2 (HAK.out.step hc))).symm)
      have HFK : Hid (d.F.getD ts false = fin k) := Lib.hid (by rw [← hfin.out]; exact HAK.out.fin.symm)
      have c256 := HFO.out.box.c256
      rw [HDN.out] at c256
      obtain ⟨i0, hi0, hz0⟩ := Option.map_eq_some_iff.1 infoInt
      simp only [Prod.mk.injEq] at hz0
      have HI0 := Lib.hid hi0
      have HZ0 := Lib.hid hz0
      clear hi0 hz0
      go_upto_region 11 with (refine wpList_make_row _ rfl (.tmp 36) (.tmp 36) 31 rfl 3 i0 (.int .i64 0) Tryd.underlying31 HI0.out HZ0.out.1 HZ0.out.2.1 rfl .i64 .i64 nc rfl rfl (by rw [HZ0.out.2.2]; have := HN.out; omega) (by have := HN.out; omega) ?_)
      clear c256 HI0 HZ0
      have hal := (Below.refl w6.heap.size w6).alloc (Nat.le_refl _) (.cells (madeCells #[.int .i64 0] nc) 3)
      have HFO7 := Lib.hid (HFO.out.stay hal)
      obtain ⟨xg, hxg⟩ : ∃ xg, Hid (w6.heap.size = xg) := ⟨_, Lib.hid rfl⟩
      have HXR : Hid ((w6.alloc (.cells (madeCells #[.int .i64 0] nc) 3)).rowIs xg 3 nc (nxR (into k) L nc 0)) := Lib.hid (World.rowIs.congr (by rw [← hxg.out]; exact World.rowIs_made w6 _ _ _) (fun j _ => by unfold nxR; rw [if_neg (Nat.not_lt_zero j)]))
      have HXV : Hid (p1 + 2 ≤ xg ∧ ∀ v ∈ vs, v.ownBlock ≠ some xg) := Lib.hid (by
        rw [← hxg.out]
        refine ⟨HFO.out.size, fun v hv e => ?_⟩
        obtain ⟨j, hj, rfl⟩ := List.getElem_of_mem hv
        have h1 := (HFO.out.own.each j (by rw [← HFO.out.own.len]; exact hj)).lt w6.heap.size (by rw [List.getD_eq_getElem?_getD, List.getElem?_eq_getElem hj]; exact e)
        omega)
      have HXF : Hid ((Value.slice (some ⟨bf, bo, none⟩) D.length fc).ownBlock ≠ some xg) := Lib.hid (fun e => by have := (HFO.out.fd.fo.lt xg e).2; have := hxg.out; omega)
      rw [hxg.out]
      clear hal HFO
      generalize w6.alloc (.cells (madeCells #[.int .i64 0] nc) 3) = w7 at *
      have HD7 := Lib.hid (HD0.out.kept (hs.out ▸ HFO7.out.bel))
      obtain ⟨b3, o3, y3, cy3, hxa, hcj, hnu⟩ := HD7.out.nx ts HTS.out
      have c257 := HFO7.out.box.c257
      rw [hxa] at c257
      have HLen := Lib.hid (HRR.out.row _ (getD_mem (d := []) HTS.out)).1
      have HNU0 : Hid (NumsIn w (y3) (d.R.getD ts [])) := Lib.hid (by
        obtain ⟨b4, o4, y4, cy4, hxa4, hcj4, hnu4⟩ := HD0.out.nx ts HTS.out
        rw [hxa] at hxa4
        injection hxa4 with hxa4
        injection hxa4 with h1 h2
        subst h1
        subst h2
        have h3 := (HFO7.out.bel.cell (by rw [← hs.out]; exact World.block_lt_of_cell? _ _ hcj4)).trans hcj4
        rw [hcj] at h3
        injection h3 with h3
        injection h3 with h3 _ _
        rw [h3]; exact hnu4)
      have HGO2 := Lib.hid (fun c (hc : c < nc) => (HRR.out.go HTS.out hc).2.1)
      have hti : (ts : Int) < (d.R.length : Int) := by have := HTS.out; omega
      have HLN := HLen.out
      rw [HLN] at hcj
      clear hnu HLN hxa
      generalize hrow : d.R.getD ts [] = row at *
      clear hrow
      go_wp2_with fail
      clear c257 hcj
      generalize hfv9 : Value.slice (some ⟨bf, bo, none⟩) D.length fc = fv at *
      clear hfv9
      go_loopw [44] (fun v wr => ∃ (c : Nat) (N : Nat → Int) (D : List Nat) (fv : Value), v = .int .i64 c ∧ c ≤ nc ∧ Hid (FoI w s (p1 + 2) s (s + 2) lb p1 (s + 1) (p1 + 1) gN gO x d O N D fv nv fF vs R F wr) ∧ Hid (NuI O d.R.length N (puts (into k) L c)) ∧ Hid (D.map (rpO O) = puts (into k) L c ∧ ∀ t ∈ D, t < d.R.length) ∧ Hid (wr.rowIs xg 3 nc (nxR (into k) L nc c)) ∧ Hid (fv.ownBlock ≠ some xg)) (fun v _ => ((nc : Int) - intOf v).toNat)
      case atStart => exact ⟨0, N, D, fv, rfl, Nat.zero_le _, HFO7, HNU, HDL, HXR, HXF⟩
      case round =>
        clear HFO7 HNU HDL HXR HXF hti HD7
        obtain ⟨c, N2, D2, fv2, rfl, hc, HFO8, HNU8, HDL8, HXR8, HXF8⟩ := hrel
        generalize hwr : wr = w8 at *
        clear hwr wr w7
        by_cases hlt : c < nc
        · have hdd : decide ((c : Int) < (nc : Int)) = true := decide_eq_true (by omega)
          have hd2 : decide (c < nc) = true := decide_eq_true hlt
          have HC := Lib.hid hlt
          have hci : (c : Int) < (nc : Int) := by omega
          have HW2 : Hid (wrap64 ((c : Int) + 1) = ((c + 1 : Nat) : Int)) := Lib.hid (wrap_big (by have := HN.out; omega))
          obtain ⟨b5, o5, hy3, hc0⟩ := HNU0.out c (by rw [HLen.out]; exact hlt)
          have hcc := (HFO8.out.bel.cell (by rw [← hs.out]; exact World.block_lt_of_cell? _ _ hc0)).trans hc0
          rw [HGO2.out c hlt] at hcc
          rw [hy3]
          have HIK := Lib.hid (HIC.out c hlt)
          have HXN := Lib.hid (nxR_next (into k) L hlt)
          have HPN := Lib.hid (puts_nodup HMK.out.nd (into k) c)
          have HPS : Hid (puts (into k) L (c + 1) = put (puts (into k) L c) (into k c)) := Lib.hid rfl
          clear hlt hc0
          generalize goR d.R ts c = tc at *
          have HFI := Lib.hid (find_any (p1 + 2) p1 (s + 1) (p1 + 1) gN gO d.R.length O N2 D2 (puts (into k) L c) fv2 tc w8 HFO8.out.fd HNU8.out HDL8.out.1 HDL8.out.2 HIK.out.2 HO.out HPN.out (by have := HN.out.1; omega))
          rw [HIK.out.1] at HFI
          go_upto_region 15 with (go_at_call 52; refine HFI.out.mono ?_; rintro e w9 ⟨rfl, N9, D9, fv9, h1, h2, h3, h4, h5⟩; have HFO9 := Lib.hid (HFO8.out.find h1 h2); have HFF9 := Lib.hid h2; have HNU9 := Lib.hid h3; have HDL9 := Lib.hid (And.intro h4 h5); have hxo := h2.block xg (World.rowIs.lt HXR8.out) (by { obtain ⟨cs, hcs⟩ := row_typ HXR8.out; exact typ_ne hcs HFO8.out.fd.v3 (by decide) }) (by { have := HXV.out.1; have := HFO8.out.fd.lt.2.2.2.1; omega }) HXF8.out; have HXR9 := Lib.hid (World.rowIs.of_block HXR8.out hxo); have hxc := World.rowIs.cell HXR9.out HC.out; have hxf := World.rowIs.frozen HXR9.out c; clear h1 h2 h3 h4 h5 hxo)
          have HXF9 : Hid (fv9.ownBlock ≠ some xg) := Lib.hid (fun e => by
            rcases HFF9.out.own xg e with h | h
            · exact HXF8.out h
            · have := World.rowIs.lt HXR8.out; omega)
          clear hxc hxf hcc
          obtain ⟨cs9, hcs9⟩ := row_typ HXR9.out
          have HFO10 := Lib.hid (HFO9.out.elsewhere hcs9 HXV.out.1 HXF9.out HXV.out.2 c (.int .i64 (ix (put (puts (into k) L c) (into k c)) (into k c) : Nat)))
          have HXR10 := Lib.hid (World.rowIs.congr (World.rowIs.set HXR9.out c (.int .i64 (ix (put (puts (into k) L c) (into k c)) (into k c) : Nat))) (fun j _ => (HXN.out j).symm))
          clear hcs9
          go_wp2_with fail
          go_roundw
          case rel => exact ⟨c + 1, N9, D9, fv9, by rw [HW2.out], HC.out, HFO10, by rw [HPS.out]; exact HNU9, by rw [HPS.out]; exact HDL9, HXR10, HXF9⟩
          case measure => rw [HW2.out]; exact meas8 HC.out
        · have hdd : decide ((c : Int) < (nc : Int)) = false := decide_eq_false (by omega)
          have hd2 : decide (c < nc) = false := decide_eq_false hlt
          obtain rfl : c = nc := by omega
          clear hlt hc
          have HOR : Hid (OwnN (p1 + 2) w8 (.slice (some ⟨xg, 0, none⟩) c c) (rowTo (into k) L c)) := Lib.hid (own_row (World.rowIs.congr HXR8.out (fun j hj => by unfold nxR; rw [if_pos hj, rowTo_get _ _ _ _ hj])) (rowTo_len _ _ _) HXV.out.1 (by have := HN.out.2; omega))
          have HRn : Hid (R.length ≤ 1000 ∧ F.length ≤ 1000) := Lib.hid (by have := HMK.out.len; have := HMK.out.flen; have := HLn.out; have := HN.out.1; omega)
          have c257 : w8.cell? ⟨lb, 257, none⟩ = some nv := by rw [cell_of_row w8 lb 257 _ _ _ HFO8.out.row]; exact dfC_nv _ _ _ _
          obtain ⟨an, cn, hnv, -⟩ := own_slice HFO8.out.own.nx
          have HNV := Lib.hid hnv
          clear hnv
          rw [HNV.out] at c257
          go_upto_region 17 with (refine wpList_push 25 31 nilS 1 24 Tryd.underlying25 DfR.infoSl rfl (by decide) rfl (.tmp 57) (.tmp 59) rfl (p1 + 2) nv R.length vs (by exact HNV.out.symm) HFO8.out.own.nx [.slice (some ⟨xg, 0, none⟩) c c] _ rfl rfl (fun u hu => by rw [List.mem_singleton] at hu; rw [hu]; rfl) rfl (by have := HRn.out; omega) (by decide) HFO8.out.size ?_; intro nv2 w9 ho9 hb9 ha9; obtain ⟨a9, c9, hnv2, -⟩ := own_slice ho9; subst hnv2; have HO9 := Lib.hid ho9; have HB9 := Lib.hid hb9; have HA9 := Lib.hid ha9; have hr9 := (ha9.block lb (Array.getElem?_eq_some_iff.1 HFO8.out.row).1 (fun e => by { obtain ⟨cs, hcs⟩ := own_typ HFO8.out.own.nx e; exact typ_ne HFO8.out.row hcs (by decide) rfl })).trans HFO8.out.row; have c9d : w9.cell? ⟨lb, 257, none⟩ = some nv := by { rw [cell_of_row w9 lb 257 _ _ _ hr9]; exact dfC_nv _ _ _ _ }; have z9d := frozen_of_row w9 lb 257 _ _ hr9; clear ho9 hb9 ha9 hr9 c257)
          have HFO10 := Lib.hid (HFO8.out.pushN HO9.out HOR.out HB9.out HA9.out (fun g hg => by
            simp [Value.ownBlock] at hg
            rw [← hg]; exact HXF8.out))
          clear c9d z9d HO9 HB9 HA9 HOR HXR8 HFO8 HNV
          generalize w9.setCell ⟨lb, 257, none⟩ (.slice a9 (R.length + 1) c9) = w10 at *
          generalize Value.slice a9 (R.length + 1) c9 = nv9 at *
          have HD10 := Lib.hid (HD0.out.kept (hs.out ▸ HFO10.out.bel))
          have HTF : Hid (ts < d.F.length) := Lib.hid (by rw [HFL.out]; exact HTS.out)
          obtain ⟨b2, o2, hxb, hcb⟩ := HD10.out.fl ts HTF.out
          rw [HFK.out] at hcb
          have hti : (ts : Int) < (d.F.length : Int) := by have := HTF.out; omega
          have HB2L : Hid (b2 < s) := Lib.hid (by
            obtain ⟨b3, o3, h3, h4⟩ := HD0.out.fl ts HTF.out
            rw [hxb] at h3
            injection h3 with h3
            injection h3 with h3 _
            rw [h3, ← hs.out]
            exact World.block_lt_of_cell? _ _ h4)
          have HXB := Lib.hid hxb
          have HC0 : Hid (w10.drew.cell? ⟨lb, 258, none⟩ = some fF ∧ w10.drew.cell? ⟨s, 258, none⟩ = some (.slice (some ⟨b2, o2, none⟩) d.F.length x.bc) ∧ w10.drew.cell? ⟨b2, o2 + ts, none⟩ = some (.bool (fin k))) := Lib.hid ⟨by
            show w10.cell? _ = _
            rw [cell_of_row w10 lb 258 _ _ _ HFO10.out.row]; exact dfC_fv _ _ _ _, by rw [← hxb]; exact HFO10.out.box.c258, hcb⟩
          clear hxb hcb HD10
          refine region_mix [(false, 0), (false, 1), (false, 2), (false, 3), (false, 4), (false, 5), (false, 6), (true, 7), (true, 8), (false, 9)] (fun w' => w'.cell? ⟨lb, 258, none⟩ = some fF ∧ w'.cell? ⟨s, 258, none⟩ = some (.slice (some ⟨b2, o2, none⟩) d.F.length x.bc) ∧ w'.cell? ⟨b2, o2 + ts, none⟩ = some (.bool (fin k))) (by kernel_rfl) (by kernel_rfl) HC0.out ?_
          simp only [planOps, List.map_cons, List.map_nil, List.getD_cons_zero, List.getD_cons_succ, List.length_cons, List.length_nil, List.drop_succ_cons, List.drop_zero]
          refine mix_seg (seg := [_, _, _, _, _, _, _]) rfl HC0.out ?_
          intro ι hι F2 hF
          have f1 := fun n => (hF n).1
          have f2 := fun n => (hF n).2.1
          have f3 := fun n => (hF n).2.2
          iterate 7 (go_big_quiet_step (fail))
          refine wpQuiet_nil ?_
          clear f1 f2 f3 hF hι F2
          have HFO11 := Lib.hid (HFO10.out.stay ((Below.refl _ _).drew))
          clear HFO10
          generalize w10.drew = w11 at *
          refine mix_eff (fun K' hK => ?_)
          go_wp2_with fail
          have hp1' := HC0.out.1
          have hp2 := HC0.out.2.1
          have hp3 := HC0.out.2.2
          refine mix_on hK ⟨by rw [World.cell?_alloc_past _ _ _ (World.block_lt_of_cell? _ _ hp1')]; exact hp1', by rw [World.cell?_alloc_past _ _ _ (World.block_lt_of_cell? _ _ hp2)]; exact hp2, by rw [World.cell?_alloc_past _ _ _ (World.block_lt_of_cell? _ _ hp3)]; exact hp3⟩ ?_
          clear hK K' hp1' hp2
          refine mix_eff (fun K' hK => ?_)
          refine wpList_push 26 4 (.bool false) 1 1 Tryd.underlying26 DfR.infoBl rfl (by decide) rfl (.tmp 63) (.tmp 69) rfl (p1 + 2) fF F.length (bL F) rfl HFO11.out.own.fl [.bool (fin k)] _ rfl rfl (fun u hu => by rw [List.mem_singleton] at hu; rw [hu]; rfl) rfl (by have := HRn.out; omega) (by decide) HFO11.out.size ?_
          intro fF2 w12 ho12 hb12 ha12
          obtain ⟨a10, c10, hfF2, -⟩ := own_slice ho12
          have hnd : ∀ {k : Nat} {cs : Array Value}, w11.heap[k]? = some (.cells cs 28 (0, 0)) → fF.ownBlock ≠ some k := fun {k cs} hk e => by
            obtain ⟨cs', hc⟩ := own_typ HFO11.out.own.fl e
            exact typ_ne hk hc (by decide) rfl
          have hr12 := (ha12.block lb (Array.getElem?_eq_some_iff.1 HFO11.out.row).1 (hnd HFO11.out.row)).trans HFO11.out.row
          have hx12 := (ha12.block s (Array.getElem?_eq_some_iff.1 HFO11.out.box.row).1 (hnd HFO11.out.box.row)).trans HFO11.out.box.row
          have hC : w12.cell? ⟨lb, 258, none⟩ = some fF ∧ w12.cell? ⟨s, 258, none⟩ = some (.slice (some ⟨b2, o2, none⟩) d.F.length x.bc) ∧ w12.cell? ⟨b2, o2 + ts, none⟩ = some (.bool (fin k)) := ⟨by rw [cell_of_row w12 lb 258 _ _ _ hr12]; exact dfC_fv _ _ _ _, by rw [cell_of_row w12 s 258 _ _ _ hx12, ← HXB.out]; exact dfC_fv _ _ _ _, (hb12.cell (Nat.lt_of_lt_of_le HB2L.out (HFO11.out.low.2.2.2.1))).trans hp3⟩
          have hz := frozen_of_row w12 lb 258 _ _ hr12
          have HFO13 := Lib.hid (HFO11.out.pushF ho12 hb12 ha12)
          subst hfF2
          clear hr12 hx12 hnd ho12 hb12 ha12 HFO11 hp3 HC0
          refine wpList_nil ?_
          refine mix_on hK hC ?_
          clear hK K'
          refine mix_seg (seg := [_]) (rest := []) rfl hC ?_
          intro ι hι F2 hF
          try simp only [Act.put, List.setIfInBounds_toArray, List.set_cons_zero, List.set_cons_succ]
          iterate 1 (go_big_quiet_step (fail))
          refine wpQuiet_nil ?_
          clear hF hι F2
          show wpList _ _ _ _ _ _
          have c15 := hC.1
          clear hC
          go_wp2_with fail
          refine NoPanic.normal ?_
          clear c15 hz hti
          have HW1 : Hid (wrap64 ((i : Int) + 1) = ((i + 1 : Nat) : Int)) := Lib.hid (wrap_big (by have := HI.out; have := HRn.out; omega))
          have HSTP : Hid (Mk into fin c (rpO O 0) (fun k => k < d.R.length ∧ rpO O k = k) (puts (into k) L c) (R ++ [rowTo (into k) L c]) (F ++ [fin k])) := Lib.hid (HMK.out.step HLK.out (fun t e ht he => by
            have g1 := (HRR.out.go ht.1 he).2.2
            rw [← hinto.out]
            exact ⟨Nat.lt_of_le_of_lt (rpO_is O _).2 g1, rpO_eq O (rpO_is O _).1⟩))
          have HGNS : Hid (Gn into c (rpO O 0) (R ++ [rowTo (into k) L c]).length (puts (into k) L c)) := Lib.hid (by rw [List.length_append]; exact .step HGN.out HLK.out)
          have HIL : Hid (i < d.R.length) := Lib.hid (by have := HJ.out; have := HLD.out; have := HLn.out; omega)
          go_wp2_with fail
          go_roundw
          case rel => exact ⟨i + 1, N2, D2, _, fv2, nv9, _, _, _, _, by rw [HW1.out], Lib.hid (by rw [List.length_append, HI.out]; rfl), HFO13, HNU8, HDL8, HSTP, HGNS⟩
          case measure => rw [HW1.out]; exact meas8 HIL.out
    · have hdd : decide ((i : Int) < (D.length : Int)) = false := decide_eq_false (by omega)
      have hd2 : decide (i < D.length) = false := decide_eq_false hlt
      have HAL : Hid (R.length = L.length) := Lib.hid (by have := HMK.out.len; have := HLD.out; have := HI.out; omega)
      clear hlt
      obtain ⟨a2, k2, hnv, -⟩ := own_slice HFO.out.own.nx
      obtain ⟨a3, k3, hfv, -⟩ := own_slice HFO.out.own.fl
      have HNV := Lib.hid hnv
      have HFV := Lib.hid hfv
      obtain ⟨z, hzz⟩ : ∃ z : Dx, Hid (z = ⟨a2, k2, a3, k3⟩) := ⟨_, Lib.hid rfl⟩
      have HDV : Hid (dfC d.of d.n nv fF = dvC z ⟨d.of, d.n, R, F⟩) := Lib.hid (by rw [hzz.out, hnv, hfv]; rfl)
      have HBX : Hid (BoxD w6 lb z ⟨d.of, d.n, R, F⟩) := Lib.hid ⟨by rw [← HDV.out]; exact HFO.out.row⟩
      have HRS := Lib.hid HFO.out.res
      clear hnv hfv
      go_wp2_with (first
        | (refine wpList_load_df rfl _ rfl lb z ⟨d.of, d.n, R, F⟩ rfl HBX.out ?_)
        | (refine wpList_store_row rfl 28 (.tmp 4) (.tmp 72) rfl (s + 2) (dvC z ⟨d.of, d.n, R, F⟩) rfl rfl 28 _ HRS.out (sizeDf _ _ _ _) (by unfold dvC; rw [dfC_size, dfC_size]) (oneDf _ _ _ _ _ _ _ _) ?_))
      refine bodyPost_ret (v := .agg (dvC z ⟨d.of, d.n, R, F⟩)) (results_cell_row (p := 4) Tryd.results24 _ _ (s + 2) 28 _ (0, 0) _ rfl (setRow_heap w6 _ _ _ _ _ HRS.out) Tryd.underlying28 rfl (sizeDf _ _ _ _)) rfl ⟨z, ⟨d.of, d.n, R, F⟩, L, rfl, ⟨rfl, rfl, ?_, ?_, HAL.out⟩, ?_, ?_⟩
      · rw [hinto.out, hfin.out]; exact HMK.out
      · rw [hinto.out]; exact HGN.out
      · rw [hs.out]
        have ho := HFO.out.own.kept (w' := w6.setRow (s + 2) (dvC z ⟨d.of, d.n, R, F⟩)) fun k cs t hc ht => setRow_other _ _ _ _ (fun e => by
          rw [e, HRS.out] at hc; injection hc with hc; injection hc with _ hc; subst hc
          rcases ht with h | h | h <;> exact absurd h (by decide))
        rw [HNV.out, HFV.out] at ho
        refine ⟨vs, ?_⟩
        rw [hzz.out]
        rw [hzz.out] at ho
        have hsb := HFO.out.low.2.2.2.1
        exact ⟨own_mono ho.nx hsb, ho.len, fun j hj => own_mono (ho.each j hj) hsb, own_mono ho.fl hsb⟩
      · rw [hs.out]
        exact But.below HFO.out.bel (But.setRow _ _ _) (by omega) HFO.out.ssize
end Mi
end Go.Proofs.YtplkhgmjcljjhaaDoor
