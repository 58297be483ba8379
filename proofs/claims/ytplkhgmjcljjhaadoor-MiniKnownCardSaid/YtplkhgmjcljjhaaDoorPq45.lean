/- Several texts in one. -/
import Derived.Test.YtplkhgmjcljjhaaDoorPq44
namespace Go.Proofs.YtplkhgmjcljjhaaDoor
open Go.RowKit Sets Nf Cls Df DfK DfR
namespace Df
theorem l3_n : nh (same L3) 256 = 4 := by decide +kernel
theorem some_st : stTo someM someM.sp.length = L3 := by decide +kernel
theorem some_rt : Rt someM := (right_iff _).1 some_right
theorem some_H : (List.range 4).map (hasN someM (cls (same L3))) = [0, 1, 2, 4] := by decide +kernel
def r5 : Rd := ⟨1, [6, 0, 0], [0, 1, 2, 4], 2, true⟩
theorem some_rd : rdOf someM (cls (same L3)) 4 = r5 := by
  unfold rdOf
  rw [some_H, show grp someM.fi = 1 from by decide +kernel, show someM.fo.map grp = [6, 0, 0] from by decide +kernel, show lastK someM someM.la.length = 2 from by decide +kernel]
  rfl
def S5 : List (Nat × Bool) := [(0, false), (0, true), (1, true), (2, true), (4, true)]
theorem s5_in : S5.all (fun s => (List.range 4).all fun c => S5.contains (intoS r5 s c)) = true := by decide +kernel
theorem s5_step {s : Nat × Bool} {c : Nat} (hs : s ∈ S5) (hc : c < 4) : intoS r5 s c ∈ S5 := by
  have := List.all_eq_true.1 (List.all_eq_true.1 s5_in s hs) c (List.mem_range.2 hc)
  exact List.contains_iff_mem.1 this
theorem rc_s5 {s : Nat × Bool} (h : Rc (intoS r5) 4 (0, false) s) : s ∈ S5 := by
  induction h with
  | start => decide
  | step _ hc ih => exact s5_step ih hc
theorem Done.next {σ : Type} [DecidableEq σ] {into : σ → Nat → σ} {fin : σ → Bool} {s0 : σ} {Ok : σ → Prop} {L : List σ} {d : Dm} (h : Done into fin s0 Ok L d) {nc : Nat} (hn : d.n = nc) {s : σ} {c : Nat} (hs : s ∈ L) (hc : c < nc) : into s c ∈ L := by
  obtain ⟨nc', hn', -, hm⟩ := h.nc
  obtain rfl : nc = nc' := by omega
  obtain ⟨i, hi⟩ := List.getElem?_of_mem hs
  exact (hm.row i s (by rw [h.all]; exact (List.getElem?_eq_some_iff.1 hi).1) hi).2 c hc
theorem Done.first {σ : Type} [DecidableEq σ] {into : σ → Nat → σ} {fin : σ → Bool} {s0 : σ} {Ok : σ → Prop} {L : List σ} {d : Dm} (h : Done into fin s0 Ok L d) : s0 ∈ L := by
  obtain ⟨nc', -, -, hm⟩ := h.nc
  exact List.mem_of_getElem? hm.hd
theorem Done.okL {σ : Type} [DecidableEq σ] {into : σ → Nat → σ} {fin : σ → Bool} {s0 : σ} {Ok : σ → Prop} {L : List σ} {d : Dm} (h : Done into fin s0 Ok L d) : L.Nodup ∧ ∀ s ∈ L, Ok s := by
  obtain ⟨nc', -, -, hm⟩ := h.nc
  exact ⟨hm.nd, hm.ok⟩
theorem some_five {L : List (Nat × Bool)} {d : Dm} (h : Done (intoS (rdOf someM (cls (same L3)) 4)) (finS (rdOf someM (cls (same L3)) 4)) (0, false) (OkB someM (cls (same L3)) 4) L d) (hn : d.n = (4 : Nat)) : d.R.length = 5 := by
  rw [some_rd] at h
  have hok := h.okL
  have h1 : L.length ≤ 5 := nodup_len L S5 hok.1 (fun s hs => by
    have := (hok.2 s hs).2
    rw [some_rd] at this
    exact rc_s5 this)
  have m0 := h.first
  have m1 : (0, true) ∈ L := by have := h.next hn m0 (show 0 < 4 by decide); rwa [show intoS r5 (0, false) 0 = (0, true) from by decide +kernel] at this
  have m2 : (1, true) ∈ L := by have := h.next hn m0 (show 1 < 4 by decide); rwa [show intoS r5 (0, false) 1 = (1, true) from by decide +kernel] at this
  have m3 : (2, true) ∈ L := by have := h.next hn m2 (show 2 < 4 by decide); rwa [show intoS r5 (1, true) 2 = (2, true) from by decide +kernel] at this
  have m4 : (4, true) ∈ L := by have := h.next hn m2 (show 3 < 4 by decide); rwa [show intoS r5 (1, true) 3 = (4, true) from by decide +kernel] at this
  have h2 : 5 ≤ L.length := nodup_len S5 L (by decide) (fun s hs => by
    simp [S5] at hs
    rcases hs with rfl | rfl | rfl | rfl | rfl <;> assumption)
  rw [h.all]; omega
/-- What Build makes takes just what the machine takes. -/
theorem build_takes {m : Mc} {of : Nat → Nat} {nc : Nat} (hr : Rt m) (hp : prightB of nc = true) (hw : Whole m of) {L : List (Nat × Bool)} {d : Dm} (hdo : d.of = of) (h : Done (intoS (rdOf m of nc)) (finS (rdOf m of nc)) (0, false) (OkB m of nc) L d) (w : List Nat) (hcw : ∀ c ∈ w, c < 256) : takesD d w = takesM m w := by
  obtain ⟨k, hk, -, hof⟩ := pright_is hp
  obtain rfl : nc = k := by omega
  rw [h.takes w hcw, hdo]
  exact takes_runs hr hp hof hw w hcw
theorem wpList_lay_dv {ops : Array Oper} {rest : List Oper} {o : Oper} {a : Act} {w : World} {Q : Exit → Act → World → Prop} (hgd : o.guard = none) (x y : Operand)
    (ho : o.op = .store 28 x y) (z : Dx) (d : Dm) (hx : a.eval x = .pointer (some ⟨w.heap.size, 0, none⟩)) (hy : a.eval y = .agg (dvC z d))
    (h : wpList Tryd.prog ops Q rest (a.put o.dst undef) (w.alloc (.cells (dvC z d) 28))) : wpList Tryd.prog ops Q (o :: rest) a (w.alloc (.cells (dfC (fun _ => 0) 0 nilS nilS) 28)) := by
  refine wpList_store_row hgd 28 x y ho w.heap.size (dvC z d) hx hy 28 (dfC (fun _ => 0) 0 nilS nilS) (heap_alloc_new w _) (sizeDf _ _ _ _) (by unfold dvC; rw [dfC_size, dfC_size]) (oneDf _ _ _ _ _ _ _ _) ?_
  rw [World.setRow_alloc_new]
  exact h
theorem wp_load_dv {o : Oper} {a : Act} {w : World} {K : Act → World → Prop} {Q : Exit → Act → World → Prop} (X : Operand) (ho : o.op = .load 28 X) (B : Nat) (x : Dx) (d : Dm) (hx : a.eval X = .pointer (some ⟨B, 0, none⟩)) (hc : BoxD w B x d)
    (h : K (a.put o.dst (.agg (dvC x d))) w) : o.wp Tryd.prog a w K Q :=
  wp_load_row 28 X ho B hx 28 (dvC x d) (0, 0) _ hc.row Tryd.underlying28 rfl (sizeDf _ _ _ _) h
end Df
end Go.Proofs.YtplkhgmjcljjhaaDoor
namespace Go.Proofs.YtplkhgmjcljjhaaDoor
open Go.RowKit Sets Nf Cls Df DfK DfR
namespace Df
/-- Rows that stay, automata that stay, all below s as it was. -/
structure Kp (s : Nat) (w : World) (l : List (Nat × Obj)) (ds : List (Dx × Dm)) (W : World) : Prop where
  rows : ∀ p ∈ l, W.heap[p.1]? = some p.2
  das : ∀ p ∈ ds, DAt W p.1 p.2
  bel : Below s w W
  size : s ≤ W.heap.size
section
variable {s : Nat} {w W W' : World} {l : List (Nat × Obj)} {ds : List (Dx × Dm)}
theorem Kp.stay (h : Kp s w l ds W) (hb : Below W.heap.size W W') : Kp s w l ds W' :=
  ⟨fun p hp => (hb.block _ (Array.getElem?_eq_some_iff.1 (h.rows p hp)).1).trans (h.rows p hp), fun p hp => (h.das p hp).kept hb, h.bel.trans (hb.mono h.size), Nat.le_trans h.size hb.size⟩
theorem Kp.push (h : Kp s w l ds W) (o : Obj) : Kp s w ((W.heap.size, o) :: l) ds (W.alloc o) := by
  have hal := (Below.refl W.heap.size W).alloc (Nat.le_refl _) o
  have h2 := h.stay hal
  refine ⟨fun p hp => ?_, h2.das, h2.bel, h2.size⟩
  rcases List.mem_cons.1 hp with rfl | hp
  · exact heap_alloc_new W o
  · exact h2.rows p hp
theorem Kp.addD (h : Kp s w l ds W) {z : Dx} {d : Dm} (hd : DAt W z d) : Kp s w l ((z, d) :: ds) W :=
  ⟨h.rows, fun p hp => by
    rcases List.mem_cons.1 hp with rfl | hp
    · exact hd
    · exact h.das p hp, h.bel, h.size⟩
end
/-- What is told of a machine's automaton. -/
structure Bd (m : Mc) (of : Nat → Nat) (nc : Nat) (d : Dm) : Prop where
  fine : DFine d
  right : DRt d
  of : d.of = of
  n : d.n = (nc : Int)
  few : d.R.length ≤ 257
  takes : ∀ t : ByteArray, takesD d (Nf.bs t) = takesM m (Nf.bs t)
theorem build_any (x : Ma) (m : Mc) (of : Nat → Nat) (nc : Nat) (w : World) (h : MAt w x m) (hf : Fine m) (h8 : m.sp.length ≤ 8) (hp : prightB of nc = true) (hw : Whole m of) (hT : Tab w) :
    Calls Tryd.prog 17 #[.agg (mc x m), .agg (partC of nc), .pointer none] w fun e w' => ∃ z d, e = .returned (.tuple #[.agg (dvC z d), .int .i64 (if rightM m then 0 else 1)]) ∧ Below w.heap.size w w' ∧ (rightM m = true → OwnDm w.heap.size w' z d ∧ Bd m of nc d) := by
  cases hr : rightM m with
  | false =>
    refine (build_bad x m of nc (.pointer none) w h hf hr).mono ?_
    rintro e w' ⟨rfl, hb⟩
    exact ⟨⟨none, 0, none, 0⟩, ⟨fun _ => 0, 0, [], []⟩, rfl, hb, fun h => by cases h⟩
  | true =>
    have hrt := (right_iff m).1 hr
    refine (build_ok x m of nc none 0 w h hf hrt h8 hp hw hT (fun q hq => by cases hq) (fun q hq => by cases hq) (fun q hq => by cases hq) (by decide) (fun q hq => by cases hq)).mono ?_
    rintro e w' ⟨hb, (⟨L, z, d, rfl, hof, hn, ho, hd, -, -⟩ | ⟨q, L, hq, -⟩)⟩
    · have hl := ok_few h8 L hd.okL.1 (fun s hs => (hd.okL.2 s hs).1)
      exact ⟨z, d, rfl, hb.below, fun _ => ⟨ho, hd.fine (by omega), (dright_iff d).1 hd.right, hof, hn, by rw [hd.all]; exact hl, fun t => build_takes hrt hp hw hof hd _ (Nf.bs_lt t)⟩⟩
    · cases hq
theorem not_right {d : Dm} (h : DRt d) : DRt (notD d) := ⟨h.pr, h.pos, by show (d.F.map _).length = _; rw [List.length_map]; exact h.fl, h.row⟩
theorem not_fine {d : Dm} (h : DFine d) : DFine (notD d) := ⟨h.many, by show (d.F.map _).length ≤ _; rw [List.length_map]; exact h.fin, h.each, h.of⟩
theorem st_lt {d : Dm} (h : DRt d) : ∀ (l : List Nat) (i : Nat), (∀ c ∈ l, c < 256) → i < d.R.length → l.foldl (goD d) i < d.R.length
  | [], _, _, hi => hi
  | c :: l, _, hl, hi => st_lt h l _ (fun x hx => hl x (List.mem_cons_of_mem _ hx)) (h.of hi (hl c (List.mem_cons_self ..))).2.2
theorem not_takes {d : Dm} (h : DRt d) (l : List Nat) (hl : ∀ c ∈ l, c < 256) : takesD (notD d) l = !(takesD d l) := by
  have h1 := (dright_iff d).2 h
  have h2 := (dright_iff _).2 (not_right h)
  unfold takesD
  rw [h1, h2, Bool.true_and, Bool.true_and]
  have hs := st_lt h l 0 hl h.pos
  show (d.F.map (!·)).getD (l.foldl (goD (notD d)) 0) false = _
  have hg : goD (notD d) = goD d := rfl
  rw [hg]
  generalize l.foldl (goD d) 0 = i at *
  have hi : i < d.F.length := by rw [h.fl]; exact hs
  rw [List.getD_eq_getElem?_getD, List.getElem?_map, List.getD_eq_getElem?_getD, List.getElem?_eq_getElem hi]; rfl
theorem fold_pair (a b : Dm) (of : Nat → Nat) (ha : a.of = of) (hb : b.of = of) : ∀ (l : List Nat) (i j : Nat), l.foldl (fun t c => intoP a b t (of c)) (i, j) = (l.foldl (goD a) i, l.foldl (goD b) j)
  | [], _, _ => rfl
  | c :: l, i, j => by
    rw [List.foldl_cons, List.foldl_cons, List.foldl_cons, show intoP a b (i, j) (of c) = (goD a i c, goD b j c) from by unfold intoP goC goD; rw [ha, hb]]
    exact fold_pair a b of ha hb l _ _
theorem both_any (x y : Dx) (a b : Dm) (how nc : Nat) (w : World) (hA : DAt w x a) (hB : DAt w y b) (hfa : DFine a) (hfb : DFine b) (hra : DRt a) (hrb : DRt b) (hof : a.of = b.of) (hna : a.n = nc) (hnb : b.n = nc) (hh : how = 1 ∨ how = 2 ∨ how = 3)
    (hla : a.R.length ≤ 257) (hlb : b.R.length ≤ 257) :
    Calls Tryd.prog 23 #[.agg (dvC x a), .agg (dvC y b), .int .u8 how, .pointer none] w fun e w' => ∃ z d, e = .returned (.tuple #[.agg (dvC z d), .int .i64 0]) ∧ DAt w' z d ∧ DFine d ∧ DRt d ∧ (∀ t : ByteArray, takesD d (Nf.bs t) = joinB how (takesD a (Nf.bs t)) (takesD b (Nf.bs t))) ∧ Below w.heap.size w w' := by
  have hsm : a.R.length * b.R.length ≤ 90000 := Nat.le_trans (Nat.mul_le_mul hla hlb) (by decide)
  obtain ⟨nc', hn', hc⟩ := both_ok x y a b how none 0 w hA hB hfa hfb hra hrb hof (hna.trans hnb.symm) hh hsm (fun q hq => by cases hq) (fun q hq => by cases hq) (fun q hq => by cases hq) (by decide)
  obtain rfl : nc = nc' := by omega
  refine hc.mono ?_
  rintro e w' ⟨hb, (⟨L, z, d, rfl, hdo, hdn, ho, hd, -, -⟩ | ⟨q, L, hq, -⟩)⟩
  · have hl := okp_few a b nc L hd.okL.1 hd.okL.2
    refine ⟨z, d, rfl, ho.at, hd.fine (by omega), (dright_iff d).1 hd.right, fun t => ?_, hb.below⟩
    rw [hd.takes _ (Nf.bs_lt t), hdo, fold_pair a b a.of rfl hof.symm]
    unfold finP takesD
    rw [(dright_iff a).2 hra, (dright_iff b).2 hrb, Bool.true_and, Bool.true_and]
  · cases hq
end Df
end Go.Proofs.YtplkhgmjcljjhaaDoor
