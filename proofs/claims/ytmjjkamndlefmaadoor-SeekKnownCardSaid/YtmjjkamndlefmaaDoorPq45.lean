/- Several texts in one. -/
import Derived.Test.YtmjjkamndlefmaaDoorPq44
import Derived.Test.YtmjjkamndlefmaaDoorPq19
import Derived.Test.YtmjjkamndlefmaaDoorPq34
namespace Go.Proofs.YtmjjkamndlefmaaDoor
open Go.RowKit Sets Nf Cls Df DfK DfR
namespace Df
theorem l3_n : nh (same L3) 256 = 4 := by decide +kernel
theorem some_st : stTo someM someM.sp.length = L3 := by decide +kernel
theorem some_rt : Rt someM := (right_iff _).1 some_right
theorem some_H : (List.range 4).map (hasN someM (cls (same L3))) = [0, 1, 2, 4] := by decide +kernel
def r5 : Rd := ⟨1, [6, 0, 0], [0, 1, 2, 4], 2, true⟩
theorem some_rd : rdOf someM (cls (same L3)) 4 = r5 := by
  unfold rdOf
  rw [some_H, show grp someM.fi = 1 from by decide +kernel, show someM.fo.map grp = [6, 0, 0] from by decide +kernel, show lastK someM someM.la.length = 2 from by decide +kernel]
  rfl
def S5 : List (Nat × Bool) := [(0, false), (0, true), (1, true), (2, true), (4, true)]
theorem s5_in : S5.all (fun s => (List.range 4).all fun c => S5.contains (intoS r5 s c)) = true := by decide +kernel
theorem s5_step {s : Nat × Bool} {c : Nat} (hs : s ∈ S5) (hc : c < 4) : intoS r5 s c ∈ S5 := by
  have := List.all_eq_true.1 (List.all_eq_true.1 s5_in s hs) c (List.mem_range.2 hc)
  exact List.contains_iff_mem.1 this
theorem rc_s5 {s : Nat × Bool} (h : Rc (intoS r5) 4 (0, false) s) : s ∈ S5 := by
  induction h with
  | start => decide
  | step _ hc ih => exact s5_step ih hc
theorem Done.next {σ : Type} [DecidableEq σ] {into : σ → Nat → σ} {fin : σ → Bool} {s0 : σ} {Ok : σ → Prop} {L : List σ} {d : Dm} (h : Done into fin s0 Ok L d) {nc : Nat} (hn : d.n = nc) {s : σ} {c : Nat} (hs : s ∈ L) (hc : c < nc) : into s c ∈ L := by
  obtain ⟨nc', hn', -, hm⟩ := h.nc
  obtain rfl : nc = nc' := by omega
  obtain ⟨i, hi⟩ := List.getElem?_of_mem hs
  exact (hm.row i s (by rw [h.all]; exact (List.getElem?_eq_some_iff.1 hi).1) hi).2 c hc
theorem Done.first {σ : Type} [DecidableEq σ] {into : σ → Nat → σ} {fin : σ → Bool} {s0 : σ} {Ok : σ → Prop} {L : List σ} {d : Dm} (h : Done into fin s0 Ok L d) : s0 ∈ L := by
  obtain ⟨nc', -, -, hm⟩ := h.nc
  exact List.mem_of_getElem? hm.hd
theorem Done.okL {σ : Type} [DecidableEq σ] {into : σ → Nat → σ} {fin : σ → Bool} {s0 : σ} {Ok : σ → Prop} {L : List σ} {d : Dm} (h : Done into fin s0 Ok L d) : L.Nodup ∧ ∀ s ∈ L, Ok s := by
  obtain ⟨nc', -, -, hm⟩ := h.nc
  exact ⟨hm.nd, hm.ok⟩
theorem some_five {L : List (Nat × Bool)} {d : Dm} (h : Done (intoS (rdOf someM (cls (same L3)) 4)) (finS (rdOf someM (cls (same L3)) 4)) (0, false) (OkB someM (cls (same L3)) 4) L d) (hn : d.n = (4 : Nat)) : d.R.length = 5 := by
  rw [some_rd] at h
  have hok := h.okL
  have h1 : L.length ≤ 5 := nodup_len L S5 hok.1 (fun s hs => by
    have := (hok.2 s hs).2
    rw [some_rd] at this
    exact rc_s5 this)
  have m0 := h.first
  have m1 : (0, true) ∈ L := by have := h.next hn m0 (show 0 < 4 by decide); rwa [show intoS r5 (0, false) 0 = (0, true) from by decide +kernel] at this
  have m2 : (1, true) ∈ L := by have := h.next hn m0 (show 1 < 4 by decide); rwa [show intoS r5 (0, false) 1 = (1, true) from by decide +kernel] at this
  have m3 : (2, true) ∈ L := by have := h.next hn m2 (show 2 < 4 by decide); rwa [show intoS r5 (1, true) 2 = (2, true) from by decide +kernel] at this
  have m4 : (4, true) ∈ L := by have := h.next hn m2 (show 3 < 4 by decide); rwa [show intoS r5 (1, true) 3 = (4, true) from by decide +kernel] at this
  have h2 : 5 ≤ L.length := nodup_len S5 L (by decide) (fun s hs => by
    simp [S5] at hs
    rcases hs with rfl | rfl | rfl | rfl | rfl <;> assumption)
  rw [h.all]; omega
/-- What Build makes takes just what the machine takes. -/
theorem build_takes {m : Mc} {of : Nat → Nat} {nc : Nat} (hr : Rt m) (hp : prightB of nc = true) (hw : Whole m of) {L : List (Nat × Bool)} {d : Dm} (hdo : d.of = of) (h : Done (intoS (rdOf m of nc)) (finS (rdOf m of nc)) (0, false) (OkB m of nc) L d) (w : List Nat) (hcw : ∀ c ∈ w, c < 256) : takesD d w = takesM m w := by
  obtain ⟨k, hk, -, hof⟩ := pright_is hp
  obtain rfl : nc = k := by omega
  rw [h.takes w hcw, hdo]
  exact takes_runs hr hp hof hw w hcw
theorem wpList_lay_dv {ops : Array Oper} {rest : List Oper} {o : Oper} {a : Act} {w : World} {Q : Exit → Act → World → Prop} (hgd : o.guard = none) (x y : Operand)
    (ho : o.op = .store 28 x y) (z : Dx) (d : Dm) (hx : a.eval x = .pointer (some ⟨w.heap.size, 0, none⟩)) (hy : a.eval y = .agg (dvC z d))
    (h : wpList Tryd.prog ops Q rest (a.put o.dst undef) (w.alloc (.cells (dvC z d) 28))) : wpList Tryd.prog ops Q (o :: rest) a (w.alloc (.cells (dfC (fun _ => 0) 0 nilS nilS) 28)) := by
  refine wpList_store_row hgd 28 x y ho w.heap.size (dvC z d) hx hy 28 (dfC (fun _ => 0) 0 nilS nilS) (heap_alloc_new w _) (sizeDf _ _ _ _) (by unfold dvC; rw [dfC_size, dfC_size]) (oneDf _ _ _ _ _ _ _ _) ?_
  rw [World.setRow_alloc_new]
  exact h
theorem wp_load_dv {o : Oper} {a : Act} {w : World} {K : Act → World → Prop} {Q : Exit → Act → World → Prop} (X : Operand) (ho : o.op = .load 28 X) (B : Nat) (x : Dx) (d : Dm) (hx : a.eval X = .pointer (some ⟨B, 0, none⟩)) (hc : BoxD w B x d)
    (h : K (a.put o.dst (.agg (dvC x d))) w) : o.wp Tryd.prog a w K Q :=
  wp_load_row 28 X ho B hx 28 (dvC x d) (0, 0) _ hc.row Tryd.underlying28 rfl (sizeDf _ _ _ _) h
end Df
end Go.Proofs.YtmjjkamndlefmaaDoor
namespace Go.Proofs.YtmjjkamndlefmaaDoor
open Go.RowKit Sets Nf Cls Df DfK DfR
theorem u8s_app (D E : List Nat) : u8s (D ++ E) = u8s D ++ u8s E := List.map_append
theorem u8s_ones (L : List Nat) : ∀ u ∈ u8s L, u.oneCell' = true := by
  intro u hu
  unfold u8s at hu
  obtain ⟨c, -, rfl⟩ := List.mem_map.1 hu
  rfl
theorem bytesAt_cell {w : World} {ad : Addr} {cap : Nat} {L : List Nat} (h : BytesAt w (.slice (some ad) L.length cap) L) (j : Nat) (u : Value) (hj : (u8s L)[j]? = some u) : w.cell? (ad.add j) = some u := by
  obtain ⟨-, -, a, cap', e, hc⟩ := h
  injection e with e _ _
  have hl := (List.getElem?_eq_some_iff.1 hj).1
  unfold u8s at hl hj
  rw [List.length_map] at hl
  obtain ⟨b, o, e2, hq⟩ := hc j hl
  rw [← e] at e2
  injection e2 with e2
  subst e2
  rw [Addr.add_lit, hq, ← hj, List.getElem?_map, List.getElem?_eq_getElem hl, List.getD_eq_getElem?_getD, List.getElem?_eq_getElem hl]; rfl
theorem run_append_bytes (w : World) (base : Nat) (ty : TypeId) (v x : Value) (D L : List Nat) (hown : w.ownsRow base 5 1 v D.length (u8s D)) (hin : BytesAt w x L) (hb : D.length + L.length ≤ 1000) (hbase : base ≤ w.heap.size) :
    ∃ v' w', (Builtin.append_ #[35, 35] ty #[v, x]).run Tryd.prog w = .ok v' w' ∧ w'.ownsRow base 5 1 v' (D ++ L).length (u8s (D ++ L)) ∧ Below base w w' := by
  obtain ⟨i0, hi, hz0, hz1, hz2⟩ := info_parts infoB
  have hin' := hin
  obtain ⟨-, -, a, cap, rfl, hc⟩ := hin'
  cases a with
  | some ad =>
    obtain ⟨v', w', hr, h1, h2, -⟩ := run_append_own (P := Tryd.prog) w base 35 ty 5 i0 _ 1 1 Tryd.underlying35 hi hz0 hz1 hz2 rfl (by decide) v D.length (u8s D) hown ad L.length cap (u8s L) (by unfold u8s; rw [List.length_map]; omega) (bytesAt_cell hin) (u8s_ones L) (by unfold maxLen; omega) (by omega) hbase
    refine ⟨v', w', hr, ?_, (Below.refl _ _).grown h2 hbase (fun j hj => (hown.lt j hj).1)⟩
    rw [u8s_app, List.length_append]
    exact h1
  | none =>
    have hL : L = [] := by
      cases L with
      | nil => rfl
      | cons S L => obtain ⟨b, o, e, -⟩ := hc 0 (by simp); cases e
    subst hL
    refine ⟨v, w, ?_, by rw [List.append_nil]; exact hown, Below.refl _ _⟩
    obtain ⟨base', cap', rfl, hcap⟩ := owns_slice hown
    have hle : D.length + 0 ≤ cap' := hcap
    cases base' <;> simp [Builtin.append_, run_underlying Tryd.underlying35, sizeOf, typeInfo, hi, Builtin.lenOf, Builtin.firstCells, loadCells, hcap, storeCells]
theorem wpList_append_bytes {ops : Array Oper} {rest : List Oper} {o : Oper} {a : Act} {w : World} {Q : Exit → Act → World → Prop} (hgd : o.guard = none) (s x : Operand)
    (ho : o.op = .call { callee := .builtin .append, args := #[s, x], argTypes := #[35, 35] }) (base : Nat) (D L : List Nat)
    (hown : w.ownsRow base 5 1 (a.eval s) D.length (u8s D)) (hin : BytesAt w (a.eval x) L) (hb : D.length + L.length ≤ 1000) (hbase : base ≤ w.heap.size)
    (h : ∀ v' w', w'.ownsRow base 5 1 v' (D ++ L).length (u8s (D ++ L)) → Below base w w' → wpList Tryd.prog ops Q rest (a.put o.dst v') w') : wpList Tryd.prog ops Q (o :: rest) a w :=
  wpList_plain hgd fun _ hK => by
    obtain ⟨v', w', hr, h1, h2⟩ := run_append_bytes w base o.type _ _ D L hown hin hb hbase
    unfold Oper.wp execOp
    simp only [ho, resolve, invoke, builtin, Sem.run_bind, Sem.run_pure, Result.andThen_ok, List.map_toArray, List.map_cons, List.map_nil, hr]
    exact hK _ _ (h v' w' h1 h2)
namespace Df
/-- The least byte of a class. -/
def lead (of : Nat → Nat) (j : Nat) : Nat := (listN (clsSet of 256 j)).headD 0
theorem lead_spec (of : Nat → Nat) (j c : Nat) (hc : c < 256) (h : of c = j) : lead of j < 256 ∧ of (lead of j) = j ∧ (listN (clsSet of 256 j)).take 1 = [lead of j] := by
  have hm : c ∈ listN (clsSet of 256 j) := (mem_listN _ _).2 ⟨hc, by rw [clsSet_bit, h, decide_eq_true hc]; simp⟩
  unfold lead
  cases hl : listN (clsSet of 256 j) with
  | nil => rw [hl] at hm; cases hm
  | cons b l =>
    have hb : b ∈ listN (clsSet of 256 j) := by rw [hl]; exact List.mem_cons_self ..
    obtain ⟨h1, h2⟩ := (mem_listN _ _).1 hb
    rw [clsSet_bit] at h2
    simp only [Bool.and_eq_true, beq_iff_eq] at h2
    exact ⟨h1, h2.2, rfl⟩
def leads (of : Nat → Nat) (n : Nat) : List Nat := (List.range n).map (lead of)
theorem leads_len (of : Nat → Nat) (n : Nat) : (leads of n).length = n := by simp [leads]
theorem leads_succ (of : Nat → Nat) (n : Nat) : leads of (n + 1) = leads of n ++ [lead of n] := by unfold leads; rw [List.range_succ, List.map_append]; rfl
theorem leads_get (of : Nat → Nat) (n j : Nat) (h : j < n) : (leads of n).getD j 0 = lead of j := by unfold leads; rw [List.getD_eq_getElem?_getD]; simp [h]
end Df
end Go.Proofs.YtmjjkamndlefmaaDoor
namespace Go.Proofs.YtmjjkamndlefmaaDoor
open Go.RowKit Sets Nf Cls Df DfK DfR
namespace Df
/-- Rows that stay, automata that stay, all below s as it was. -/
structure Kp (s : Nat) (w : World) (l : List (Nat × Obj)) (ds : List (Dx × Dm)) (W : World) : Prop where
  rows : ∀ p ∈ l, W.heap[p.1]? = some p.2
  das : ∀ p ∈ ds, DAt W p.1 p.2
  bel : Below s w W
  size : s ≤ W.heap.size
section
variable {s : Nat} {w W W' : World} {l : List (Nat × Obj)} {ds : List (Dx × Dm)}
theorem Kp.stay (h : Kp s w l ds W) (hb : Below W.heap.size W W') : Kp s w l ds W' :=
  ⟨fun p hp => (hb.block _ (Array.getElem?_eq_some_iff.1 (h.rows p hp)).1).trans (h.rows p hp), fun p hp => (h.das p hp).kept hb, h.bel.trans (hb.mono h.size), Nat.le_trans h.size hb.size⟩
theorem Kp.push (h : Kp s w l ds W) (o : Obj) : Kp s w ((W.heap.size, o) :: l) ds (W.alloc o) := by
  have hal := (Below.refl W.heap.size W).alloc (Nat.le_refl _) o
  have h2 := h.stay hal
  refine ⟨fun p hp => ?_, h2.das, h2.bel, h2.size⟩
  rcases List.mem_cons.1 hp with rfl | hp
  · exact heap_alloc_new W o
  · exact h2.rows p hp
theorem Kp.addD (h : Kp s w l ds W) {z : Dx} {d : Dm} (hd : DAt W z d) : Kp s w l ((z, d) :: ds) W :=
  ⟨h.rows, fun p hp => by
    rcases List.mem_cons.1 hp with rfl | hp
    · exact hd
    · exact h.das p hp, h.bel, h.size⟩
end
/-- What is told of a machine's automaton. -/
structure Bd (m : Mc) (of : Nat → Nat) (nc : Nat) (d : Dm) : Prop where
  fine : DFine d
  right : DRt d
  of : d.of = of
  n : d.n = (nc : Int)
  few : d.R.length ≤ 257
  takes : ∀ t : ByteArray, takesD d (Nf.bs t) = takesM m (Nf.bs t)
theorem build_any (x : Ma) (m : Mc) (of : Nat → Nat) (nc : Nat) (w : World) (h : MAt w x m) (hf : Fine m) (h8 : m.sp.length ≤ 8) (hp : prightB of nc = true) (hw : Whole m of) (hT : Tab w) :
    Calls Tryd.prog 20 #[.agg (mc x m), .agg (partC of nc), .pointer none] w fun e w' => ∃ z d, e = .returned (.tuple #[.agg (dvC z d), .int .i64 (if rightM m then 0 else 1)]) ∧ Below w.heap.size w w' ∧ (rightM m = true → OwnDm w.heap.size w' z d ∧ Bd m of nc d) := by
  cases hr : rightM m with
  | false =>
    refine (build_bad x m of nc (.pointer none) w h hf hr).mono ?_
    rintro e w' ⟨rfl, hb⟩
    exact ⟨⟨none, 0, none, 0⟩, ⟨fun _ => 0, 0, [], []⟩, rfl, hb, fun h => by cases h⟩
  | true =>
    have hrt := (right_iff m).1 hr
    refine (build_ok x m of nc none 0 w h hf hrt h8 hp hw hT (fun q hq => by cases hq) (fun q hq => by cases hq) (fun q hq => by cases hq) (by decide) (fun q hq => by cases hq)).mono ?_
    rintro e w' ⟨hb, (⟨L, z, d, rfl, hof, hn, ho, hd, -, -⟩ | ⟨q, L, hq, -⟩)⟩
    · have hl := ok_few h8 L hd.okL.1 (fun s hs => (hd.okL.2 s hs).1)
      exact ⟨z, d, rfl, hb.below, fun _ => ⟨ho, hd.fine (by omega), (dright_iff d).1 hd.right, hof, hn, by rw [hd.all]; exact hl, fun t => build_takes hrt hp hw hof hd _ (Nf.bs_lt t)⟩⟩
    · cases hq
theorem not_right {d : Dm} (h : DRt d) : DRt (notD d) := ⟨h.pr, h.pos, by show (d.F.map _).length = _; rw [List.length_map]; exact h.fl, h.row⟩
theorem not_fine {d : Dm} (h : DFine d) : DFine (notD d) := ⟨h.many, by show (d.F.map _).length ≤ _; rw [List.length_map]; exact h.fin, h.each, h.of⟩
theorem st_lt {d : Dm} (h : DRt d) : ∀ (l : List Nat) (i : Nat), (∀ c ∈ l, c < 256) → i < d.R.length → l.foldl (goD d) i < d.R.length
  | [], _, _, hi => hi
  | c :: l, _, hl, hi => st_lt h l _ (fun x hx => hl x (List.mem_cons_of_mem _ hx)) (h.of hi (hl c (List.mem_cons_self ..))).2.2
theorem not_takes {d : Dm} (h : DRt d) (l : List Nat) (hl : ∀ c ∈ l, c < 256) : takesD (notD d) l = !(takesD d l) := by
  have h1 := (dright_iff d).2 h
  have h2 := (dright_iff _).2 (not_right h)
  unfold takesD
  rw [h1, h2, Bool.true_and, Bool.true_and]
  have hs := st_lt h l 0 hl h.pos
  show (d.F.map (!·)).getD (l.foldl (goD (notD d)) 0) false = _
  have hg : goD (notD d) = goD d := rfl
  rw [hg]
  generalize l.foldl (goD d) 0 = i at *
  have hi : i < d.F.length := by rw [h.fl]; exact hs
  rw [List.getD_eq_getElem?_getD, List.getElem?_map, List.getD_eq_getElem?_getD, List.getElem?_eq_getElem hi]; rfl
theorem fold_pair (a b : Dm) (of : Nat → Nat) (ha : a.of = of) (hb : b.of = of) : ∀ (l : List Nat) (i j : Nat), l.foldl (fun t c => intoP a b t (of c)) (i, j) = (l.foldl (goD a) i, l.foldl (goD b) j)
  | [], _, _ => rfl
  | c :: l, i, j => by
    rw [List.foldl_cons, List.foldl_cons, List.foldl_cons, show intoP a b (i, j) (of c) = (goD a i c, goD b j c) from by unfold intoP goC goD; rw [ha, hb]]
    exact fold_pair a b of ha hb l _ _
end Df
end Go.Proofs.YtmjjkamndlefmaaDoor
