/- Several texts in one. -/
import Derived.Test.YtplkhgmjcljjhaaDoorPqM2
import Derived.Test.YtplkhgmjcljjhaaDoorPq11
namespace Go.Proofs.YtplkhgmjcljjhaaDoor
open Go.RowKit Sets Nf
namespace Mi
/-- Steps: from which state, by which class. -/
abbrev St := Nat × Nat
def gC (E : List St) (c : Nat) : List Nat := (E.filter fun e => e.2 == c).map (·.1)
theorem gC_snoc (E : List St) (e : St) (c : Nat) : gC (E ++ [e]) c = if c = e.2 then gC E c ++ [e.1] else gC E c := by
  unfold gC
  rw [List.filter_append, List.map_append]
  by_cases h : c = e.2
  · rw [if_pos h, h]; simp
  · rw [if_neg h]
    have : (e.2 == c) = false := by rw [beq_eq_false_iff_ne]; exact fun h2 => h h2.symm
    simp [this]
/-- The steps into the first j states of a block. -/
def gE (I : Nat → List St) (S : Nat → Nat) (fr j : Nat) : List St := (List.range j).flatMap fun i => I (S (fr + i))
theorem gE_next (I : Nat → List St) (S : Nat → Nat) (fr j : Nat) : gE I S fr (j + 1) = gE I S fr j ++ I (S (fr + j)) := by
  unfold gE
  rw [List.range_succ, List.flatMap_append]; simp
structure IntoOk (n nc : Nat) (δ : Nat → Nat → Nat) (I : Nat → List St) : Prop where
  mem : ∀ t, t < n → ∀ e : St, e ∈ I t ↔ e.1 < n ∧ e.2 < nc ∧ δ e.1 e.2 = t
  nd : ∀ t, t < n → (I t).Nodup
section
variable {n nc : Nat} {δ : Nat → Nat → Nat} {I : Nat → List St} {S P O : Nat → Nat} {L : List Bl} {R : List Nat}
theorem IntoOk.len (h : IntoOk n nc δ I) {t : Nat} (ht : t < n) : (I t).length ≤ n * nc := by
  have := Df.nodup_len (I t) ((List.range n).flatMap fun a => (List.range nc).map fun b => (a, b)) (h.nd t ht) (fun e he => by
    obtain ⟨h1, h2, _⟩ := (h.mem t ht e).1 he
    exact List.mem_flatMap.2 ⟨e.1, List.mem_range.2 h1, List.mem_map.2 ⟨e.2, List.mem_range.2 h2, rfl⟩⟩)
  have hl : ∀ k : Nat, ((List.range k).flatMap fun a : Nat => (List.range nc).map fun b : Nat => (a, b)).length = k * nc := fun k => by
    induction k with
    | zero => simp
    | succ k ih =>
      rw [List.range_succ, List.flatMap_append, List.length_append, ih]
      simp [Nat.succ_mul]
  rw [hl] at this
  exact this
theorem gE_mem (h : IntoOk n nc δ I) (hp : Pa n S P O L) {i : Nat} (hi : i < L.length) (e : St) : e ∈ gE I S (gb L i).1 ((gb L i).2.1 - (gb L i).1) ↔ e.1 < n ∧ e.2 < nc ∧ (δ e.1 e.2 < n ∧ O (δ e.1 e.2) = i) := by
  have hb := hp.bl i hi
  unfold gE
  rw [List.mem_flatMap]
  constructor
  · rintro ⟨j, hj, he⟩
    rw [List.mem_range] at hj
    have hs := hp.sp ((gb L i).1 + j) (by omega)
    obtain ⟨h1, h2, h3⟩ := (h.mem _ hs.1 e).1 he
    refine ⟨h1, h2, by rw [h3]; exact hs.1, ?_⟩
    rw [h3]
    exact (hp.iff _ i hs.1 hi).2 (by rw [hs.2]; omega)
  · rintro ⟨h1, h2, h3, h4⟩
    have hr := (hp.iff _ i h3 hi).1 h4
    refine ⟨P (δ e.1 e.2) - (gb L i).1, List.mem_range.2 (by omega), ?_⟩
    rw [show (gb L i).1 + (P (δ e.1 e.2) - (gb L i).1) = P (δ e.1 e.2) from by omega, (hp.ps _ h3).2]
    exact (h.mem _ h3 e).2 ⟨h1, h2, rfl⟩
theorem gE_nodup (h : IntoOk n nc δ I) (hp : Pa n S P O L) (fr : Nat) : ∀ j, fr + j ≤ n → (gE I S fr j).Nodup
  | 0, _ => by simp [gE]
  | j + 1, hj => by
    rw [gE_next, List.nodup_append]
    have hs := hp.sp (fr + j) (by omega)
    refine ⟨gE_nodup h hp fr j (by omega), h.nd _ hs.1, fun a ha b hb e => ?_⟩
    subst e
    unfold gE at ha
    rw [List.mem_flatMap] at ha
    obtain ⟨i, hi, ha⟩ := ha
    rw [List.mem_range] at hi
    have hs2 := hp.sp (fr + i) (by omega)
    have e1 := ((h.mem _ hs.1 a).1 hb).2.2
    have e2 := ((h.mem _ hs2.1 a).1 ha).2.2
    have : fr + i = fr + j := by rw [← hs2.2, ← e2, e1, hs.2]
    omega
theorem gC_nodup {E : List St} (h : E.Nodup) (c : Nat) : (gC E c).Nodup := by
  unfold gC
  rw [List.nodup_iff_pairwise_ne, List.pairwise_map]
  refine List.Pairwise.imp_of_mem ?_ (List.nodup_iff_pairwise_ne.1 (h.sublist List.filter_sublist))
  intro a b ha hb hne he
  apply hne
  have h1 := (List.mem_filter.1 ha).2
  have h2 := (List.mem_filter.1 hb).2
  simp at h1 h2
  exact Prod.ext he (h1.trans h2.symm)
theorem gC_mem {E : List St} (c s : Nat) : s ∈ gC E c ↔ (s, c) ∈ E := by
  unfold gC
  rw [List.mem_map]
  constructor
  · rintro ⟨⟨a, b⟩, he, rfl⟩
    have := List.mem_filter.1 he
    simp at this
    obtain ⟨h1, rfl⟩ := this
    exact h1
  · intro h
    exact ⟨(s, c), List.mem_filter.2 ⟨h, by simp⟩, rfl⟩
end
/-- A step's cells. -/
def sp2 (e : St) : List Value := [.int .i32 e.1, .int .u8 e.2]
theorem sizeSt (e : St) : (Tryd.prog.info? 145).map (·.size) = some (sp2 e).length := by
  show _ = some 2
  kernel_rfl
theorem oneSt (e : St) : ((sp2 e).toArray).all (·.oneCell') = true := by simp [sp2, Value.oneCell']
def StepsIn (W : World) (a : Option Addr) (L : List St) : Prop := ∀ j, j < L.length → ∃ b o, a = some ⟨b, o, none⟩ ∧ W.rangeAt b (o + j * 2) (sp2 (L.getD j (0, 0)))
def IntoIn (W : World) (ib : Nat) (ia : Nat → Option Addr) (ic : Nat → Nat) (n : Nat) (I : Nat → List St) : Prop := ∀ s, s < n → W.cell? ⟨ib, s, none⟩ = some (.slice (ia s) (I s).length (ic s)) ∧ StepsIn W (ia s) (I s)
/-- The blocks of the lists of origins. -/
def OrF (A nc : Nat) (vs : Nat → Value) : Nat → Prop := fun q => q = A ∨ ∃ c, c < nc ∧ (vs c).ownBlock = some q
def FO (Fx : Nat → Prop) (A nc : Nat) (vs : Nat → Value) : Nat → Prop := fun q => Fx q ∨ OrF A nc vs q
structure OrI (s0 : Nat) (Fx : Nat → Prop) (A nc : Nat) (vs : Nat → Value) (ls : Nat → List Nat) (W : World) : Prop where
  row : W.rowIs A 31 nc vs
  own : ∀ c, c < nc → OwnN s0 W (vs c) (zI (ls c))
  apart : ∀ i j, i < nc → j < nc → i ≠ j → ∀ g, (vs i).ownBlock = some g → (vs j).ownBlock ≠ some g
  notA : ∀ j, j < nc → (vs j).ownBlock ≠ some A
  low : s0 ≤ A
  off : ∀ q, Fx q → ¬ OrF A nc vs q
theorem Mv.fo {s0 A nc : Nat} {Fx : Nat → Prop} {vs : Nat → Value} {W W' : World} (h : Mv s0 (FO Fx A nc vs) W W') : Mv s0 Fx W W' := ⟨h.below, fun q hq => h.fx q (.inl hq)⟩
section
variable {s0 A nc : Nat} {Fx : Nat → Prop} {vs : Nat → Value} {ls : Nat → List Nat} {W W' : World} {x : Ad} {n : Nat} {S P O : Nat → Nat} {L : List Bl} {T R K : List Nat} {lv tv rv : Value}
theorem OrI.congr (h : OrI s0 Fx A nc vs ls W) {ls' : Nat → List Nat} (e : ∀ c, c < nc → ls' c = ls c) : OrI s0 Fx A nc vs ls' W := { h with own := fun c hc => by rw [e c hc]; exact h.own c hc }
theorem OrI.kept (h : OrI s0 Fx A nc vs ls W) (hk : ∀ q, OrF A nc vs q → W'.heap[q]? = W.heap[q]?) : OrI s0 Fx A nc vs ls W' :=
  { h with row := World.rowIs.of_block h.row (hk A (.inl rfl)), own := fun c hc => own_kept (h.own c hc) (fun g hg => hk g (.inr ⟨c, hc, hg⟩)) }
theorem OrI.mv (h : OrI s0 Fx A nc vs ls W) (hm : Mv s0 (FO Fx A nc vs) W W') : OrI s0 Fx A nc vs ls W' := h.kept fun q hq => hm.fx q (.inr hq)
theorem OrI.lt (h : OrI s0 Fx A nc vs ls W) : ∀ q, OrF A nc vs q → q < W.heap.size := fun q hq => by
  rcases hq with rfl | ⟨c, hc, hq⟩
  · exact World.rowIs.lt h.row
  · exact ((h.own c hc).lt q hq).2
/-- The blocks of states in a world that differs at none of their places. -/
theorem BkAt.other {Gx : Nat → Prop} (h : BkAt s0 Fx x n S P O L T R K lv tv rv W) (hs : W.heap.size ≤ W'.heap.size) (hk : ∀ q, q < W.heap.size → (q = x.b ∨ q = x.s ∨ q = x.p ∨ q = x.o ∨ q = x.m ∨ lv.ownBlock = some q ∨ tv.ownBlock = some q ∨ rv.ownBlock = some q) → W'.heap[q]? = W.heap[q]?)
    (hg : ∀ q, Gx q → Fx q ∨ (W.heap.size ≤ q ∧ q < W'.heap.size)) : BkAt s0 Gx x n S P O L T R K lv tv rv W' := by
  have hlb := h.ltb
  have hls := World.rowIs.lt h.st
  have hlp := World.rowIs.lt h.pl
  have hlo := World.rowIs.lt h.of
  have hlm := h.mp.lt
  refine ⟨(hk _ hlb (.inl rfl)).trans h.row, World.rowIs.of_block h.st (hk _ hls (.inr (.inl rfl))), World.rowIs.of_block h.pl (hk _ hlp (.inr (.inr (.inl rfl)))), World.rowIs.of_block h.of (hk _ hlo (.inr (.inr (.inr (.inl rfl))))),
    own_kept h.li (fun q hq => hk q (h.li.lt q hq).2 (.inr (.inr (.inr (.inr (.inr (.inl hq))))))), own_kept h.tch (fun q hq => hk q (h.tch.lt q hq).2 (.inr (.inr (.inr (.inr (.inr (.inr (.inl hq)))))))), own_kept h.rw (fun q hq => hk q (h.rw.lt q hq).2 (.inr (.inr (.inr (.inr (.inr (.inr (.inr hq)))))))),
    h.mp.of (hk _ hlm (.inr (.inr (.inr (.inr (.inl rfl)))))), h.sp, h.tn, h.rn, fun q hq => ?_, h.low⟩
  rcases hg q hq with hq | ⟨h1, h2⟩
  · exact ⟨Nat.lt_of_lt_of_le (h.off q hq).1 hs, (h.off q hq).2⟩
  · refine ⟨h2, ⟨fun e => by omega, fun e => by omega, fun e => by omega, fun e => by omega, fun e => by omega⟩, fun e => ?_, fun e => ?_, fun e => ?_⟩
    · have := (h.li.lt _ e).2; omega
    · have := (h.tch.lt _ e).2; omega
    · have := (h.rw.lt _ e).2; omega
theorem BkAt.offO (h : BkAt s0 (FO Fx A nc vs) x n S P O L T R K lv tv rv W) (q : Nat) (hq : q = x.b ∨ q = x.s ∨ q = x.p ∨ q = x.o ∨ q = x.m ∨ lv.ownBlock = some q ∨ tv.ownBlock = some q ∨ rv.ownBlock = some q) : ¬ FO Fx A nc vs q := fun hf => by
  obtain ⟨_, ⟨h1, h2, h3, h4, h5⟩, h6, h7, h8⟩ := h.off q hf
  rcases hq with e | e | e | e | e | e | e | e
  · exact h1 e
  · exact h2 e
  · exact h3 e
  · exact h4 e
  · exact h5 e
  · exact h6 e
  · exact h7 e
  · exact h8 e
/-- The origins of one class are written anew. -/
theorem OrI.put (h : OrI s0 Fx A nc vs ls W) (hb : BkAt s0 (FO Fx A nc vs) x n S P O L T R K lv tv rv W) {c : Nat} (hc : c < nc) {v' : Value} {l' : List Nat} (ho : OwnN s0 W' v' (zI l')) (hbl : Below s0 W W') (ha : Ap W (vs c) W' v') :
    OrI s0 Fx A nc (fun j => if j = c then v' else vs j) (fun j => if j = c then l' else ls j) (W'.setCell ⟨A, c, none⟩ v') ∧
    BkAt s0 (FO Fx A nc (fun j => if j = c then v' else vs j)) x n S P O L T R K lv tv rv (W'.setCell ⟨A, c, none⟩ v') ∧ Mv s0 Fx W (W'.setCell ⟨A, c, none⟩ v') := by
  have hA : A < W.heap.size := World.rowIs.lt h.row
  have hrow : W'.rowIs A 31 nc vs := World.rowIs.of_block h.row (ha.block A hA (h.notA c hc))
  have hnA : v'.ownBlock ≠ some A := fun e => by
    rcases ha.own A e with h3 | h3
    · exact h.notA c hc h3
    · omega
  have hs := hset W' A c v'
  have hsz : (W'.setCell ⟨A, c, none⟩ v').heap.size = W'.heap.size := setsz W' A c v'
  have hkk : ∀ q, q < W.heap.size → q ≠ A → (vs c).ownBlock ≠ some q → (W'.setCell ⟨A, c, none⟩ v').heap[q]? = W.heap[q]? := fun q h1 h2 h3 => (hs q h2).trans (ha.block q h1 h3)
  have hfresh : ∀ q, q < nc → q ≠ c → ∀ y, (vs q).ownBlock = some y → v'.ownBlock ≠ some y := fun q hq hne y hy e => by
    rcases ha.own y e with h3 | h3
    · exact h.apart q c hq hc hne y hy h3
    · have := ((h.own q hq).lt y hy).2; omega
  refine ⟨⟨World.rowIs.set hrow c v', fun j hj => ?_, fun i j hi hj hne g hg => ?_, fun j hj => ?_, h.low, fun q hq hf => ?_⟩, hb.other (by rw [hsz]; exact ha.size) (fun q hq hm => ?_) (fun q hq => ?_), ⟨hbl.setCell h.low _, fun q hq => ?_⟩⟩
  · by_cases e : j = c
    · subst e
      show OwnN _ _ (if j = j then v' else vs j) (zI (if j = j then l' else ls j))
      rw [if_pos rfl, if_pos rfl]
      exact own_kept ho fun g hg => hs g (fun e => hnA (by rw [hg, e]))
    · show OwnN _ _ (if j = c then v' else vs j) (zI (if j = c then l' else ls j))
      rw [if_neg e, if_neg e]
      exact own_kept (h.own j hj) fun g hg => hkk g ((h.own j hj).lt g hg).2 (fun e2 => h.notA j hj (by rw [hg, e2])) (fun e2 => h.apart j c hj hc e g hg e2)
  · by_cases ei : i = c
    · subst ei
      have ej : ¬ j = i := fun e => hne e.symm
      simp only [if_true] at hg
      show (if j = i then v' else vs j).ownBlock ≠ _
      rw [if_neg ej]
      exact fun e => hfresh j hj ej g e hg
    · simp only [if_neg ei] at hg
      show (if j = c then v' else vs j).ownBlock ≠ _
      by_cases ej : j = c
      · rw [if_pos ej]; exact hfresh i hi ei g hg
      · rw [if_neg ej]; exact h.apart i j hi hj hne g hg
  · show (if j = c then v' else vs j).ownBlock ≠ _
    by_cases e : j = c
    · rw [if_pos e]; exact hnA
    · rw [if_neg e]; exact h.notA j hj
  · have hql := (hb.off q (.inl hq)).1
    rcases hf with rfl | ⟨j, hj, hf⟩
    · exact h.off _ hq (.inl rfl)
    · by_cases e : j = c
      · simp only [if_pos e] at hf
        rcases ha.own q hf with h3 | h3
        · exact h.off q hq (.inr ⟨c, hc, h3⟩)
        · omega
      · simp only [if_neg e] at hf
        exact h.off q hq (.inr ⟨j, hj, hf⟩)
  · have hno := hb.offO q hm
    exact hkk q hq (fun e => hno (.inr (.inl e))) (fun e => hno (.inr (.inr ⟨c, hc, e⟩)))
  · rcases hq with hq | rfl | ⟨j, hj, hq⟩
    · exact .inl (.inl hq)
    · exact .inl (.inr (.inl rfl))
    · by_cases e : j = c
      · simp only [if_pos e] at hq
        rcases ha.own q hq with h3 | h3
        · exact .inl (.inr (.inr ⟨c, hc, h3⟩))
        · exact .inr ⟨h3, by rw [hsz]; exact (ho.lt q hq).2⟩
      · simp only [if_neg e] at hq
        exact .inl (.inr (.inr ⟨j, hj, hq⟩))
  · exact hkk q (hb.off q (.inl hq)).1 (fun e => h.off q hq (.inl e)) (fun e => h.off q hq (.inr ⟨c, hc, e⟩))
end
end Mi
end Go.Proofs.YtplkhgmjcljjhaaDoor
namespace Go.Proofs.YtplkhgmjcljjhaaDoor
open Go.RowKit Sets Nf
namespace Mi
theorem wpList_load_step {ops : Array Oper} {rest : List Oper} {o : Oper} {a : Act} {w : World} {Q : Exit → Act → World → Prop} (hgd : o.guard = none) (x : Operand) (ho : o.op = .load 145 x)
    (b q : Nat) (e : St) (hx : a.eval x = .pointer (some ⟨b, q, none⟩)) (hc : w.rangeAt b q (sp2 e)) (h : wpList Tryd.prog ops Q rest (a.put o.dst (.agg (sp2 e).toArray)) w) : wpList Tryd.prog ops Q (o :: rest) a w :=
  wpList_load_mid hgd 145 x ho b q hx (sp2 e) _ hc Tryd.underlying145 rfl (sizeSt e) h
theorem wpList_store_step {ops : Array Oper} {rest : List Oper} {o : Oper} {a : Act} {w : World} {Q : Exit → Act → World → Prop} (hgd : o.guard = none) (x y : Operand)
    (ho : o.op = .store 145 x y) (e : St) (hx : a.eval x = .pointer (some ⟨w.heap.size, 0, none⟩)) (hy : a.eval y = .agg (sp2 e).toArray)
    (h : wpList Tryd.prog ops Q rest (a.put o.dst undef) (w.alloc (.cells #[.int .i32 e.1, .int .u8 e.2] 145))) : wpList Tryd.prog ops Q (o :: rest) a (w.alloc (.cells #[.int .i32 0, .int .u8 0] 145)) := by
  refine wpList_store_row hgd 145 x y ho w.heap.size (sp2 e).toArray hx hy 145 _ (heap_alloc_new w _) (sizeSt e) rfl (oneSt e) ?_
  rw [World.setRow_alloc_new]
  exact h
theorem gE_few {n nc : Nat} {δ : Nat → Nat → Nat} {I : Nat → List St} {S P O : Nat → Nat} {L : List Bl} (h : IntoOk n nc δ I) (hp : Pa n S P O L) {fr j : Nat} (hj : fr + (j + 1) ≤ n) (q c : Nat) : (gC (gE I S fr j ++ (I (S (fr + j))).take q) c).length ≤ n := by
  have hsub : List.Sublist (gE I S fr j ++ (I (S (fr + j))).take q) (gE I S fr (j + 1)) := by
    rw [gE_next]
    exact List.Sublist.append_left (List.take_sublist _ _) _
  refine nodup_few (gC_nodup ((gE_nodup h hp fr (j + 1) hj).sublist hsub) c) (fun s hs => ?_)
  rw [gC_mem] at hs
  have h2 := hsub.subset hs
  unfold gE at h2
  rw [List.mem_flatMap] at h2
  obtain ⟨i, hi, h2⟩ := h2
  rw [List.mem_range] at hi
  exact ((h.mem _ (hp.sp (fr + i) (by omega)).1 (s, c)).1 h2).1
theorem wrap_big {j : Nat} (h : j ≤ 1000000000) : wrap64 ((j : Int) + 1) = ((j + 1 : Nat) : Int) := wrap_one h
theorem take_next (l : List St) {q : Nat} (h : q < l.length) : l.take (q + 1) = l.take q ++ [l.getD q (0, 0)] := by
  rw [List.take_add_one, List.getElem?_eq_getElem h, List.getD_eq_getElem?_getD, List.getElem?_eq_getElem h]; rfl
set_option maxHeartbeats 6400000 in
set_option maxRecDepth 100000 in
theorem look_any {s0 : Nat} {Fx : Nat → Prop} (x : Ad) (A nc : Nat) (vs : Nat → Value) (n : Nat) (S P O : Nat → Nat) (L : List Bl) (R : List Nat) (g c : Nat) (tv rv : Value) (i : Nat) (δ : Nat → Nat → Nat) (I : Nat → List St) (F : Nat → Bool) (ib : Nat) (ia : Nat → Option Addr) (ic : Nat → Nat) (w : World)
    (h : BkAt s0 (FO Fx A nc vs) x n S P O L [] R R (.slice (some ⟨g, 0, none⟩) L.length c) tv rv w) (ho : OrI s0 Fx A nc vs (fun _ => []) w) (hg : x.gv = .slice (some ⟨A, 0, none⟩) nc nc) (hiv : x.iv = .slice (some ⟨ib, 0, none⟩) n n) (hin : ∀ W, Mv s0 Fx w W → IntoIn W ib ia ic n I) (hI : IntoOk n nc δ I)
    (hf : Fr n S P O L R) (hi : i < L.length) (hn : n ≤ 90000) (hnc : nc ≤ 256) (hd : ∀ s c, s < n → c < nc → δ s c < n) (hst : StabK n nc δ O R (fun s => O s = i) 0) (hal : ∀ s t, s < n → t < n → Alk nc δ F s t → O s = O t) :
    Calls Tryd.prog 55 #[.pointer (some ⟨x.b, 0, none⟩), .int .i64 i] w fun e w' => e = .returned (.tuple #[]) ∧ ∃ S' P' O' L' R' g' c' tv' rv' vs',
      BkAt s0 (FO Fx A nc vs') x n S' P' O' L' [] R' R' (.slice (some ⟨g', 0, none⟩) L'.length c') tv' rv' w' ∧ OrI s0 Fx A nc vs' (fun _ => []) w' ∧ Mv s0 Fx w w' ∧ Fr n S' P' O' L' R' ∧ PRel n O R L.length O' R' L'.length ∧ Stab n nc δ O' R' ∧ ∀ s t, s < n → t < n → Alk nc δ F s t → O' s = O' t := by
  have HB := Lib.hid h
  have HO := Lib.hid ho
  have HG := Lib.hid hg
  have HIN := Lib.hid hin
  have HIV := Lib.hid hiv
  have HIO := Lib.hid hI
  have HF := Lib.hid hf
  have HI := Lib.hid hi
  have HN := Lib.hid (And.intro hn hnc)
  have HD := Lib.hid hd
  have HST := Lib.hid hst
  have HAL := Lib.hid hal
  have HBL := Lib.hid (hf.pa.bl i hi)
  have HEM := Lib.hid (gE_mem hI hf.pa hi)
  have HEN := Lib.hid (gE_nodup hI hf.pa (gb L i).1 ((gb L i).2.1 - (gb L i).1) (by have := hf.pa.bl i hi; omega))
  have c0 := h.cells.1
  have c3 := h.cells.2.2.2.1
  have l0 := (h.lcell hi).1
  have l1 := (h.lcell hi).2.1
  have hii : (i : Int) < (L.length : Int) := by omega
  clear h ho hg hin hiv hI hf hi hn hnc hd hst hal
  obtain ⟨b, hbl⟩ : ∃ b, Hid (gb L i = b) := ⟨_, Lib.hid rfl⟩
  rw [hbl.out] at l0 l1 HBL HEM HEN
  obtain ⟨fr, tq, mk⟩ := b
  simp only [] at l0 l1 HBL HEM HEN
  go_enter Tryd.func55, Tryd.ntmps55
  go_upto_region 0 with fail
  have h1 : (fr : Int) ≤ (tq : Int) := by have := HBL.out; omega
  have h2 : (tq : Int) ≤ (n : Int) := by have := HBL.out; omega
  have hnf : ¬ n = fr := by have := HBL.out; omega
  go_quiet (fail)
  have HB1 := Lib.hid (HB.out.stay (below_drewN (Below.refl w.heap.size w) nq))
  have HV1 := Lib.hid (HB.out.mv (below_drewN (Below.refl w.heap.size w) nq)).fo
  have HO1 := Lib.hid (HO.out.mv (HB.out.mv (below_drewN (Below.refl w.heap.size w) nq)))
  clear c0 c3 l0 l1 h1 h2 hnf HB HO hii
  generalize w.drewN nq = w1 at *
  go_wp2_with fail
  obtain ⟨m, hm⟩ : ∃ m, Hid (tq - fr = m) := ⟨_, Lib.hid rfl⟩
  rw [hm.out] at HEM HEN ⊢
  have HFM : Hid (fr + m ≤ n ∧ tq = fr + m) := Lib.hid (by have := HBL.out; have := hm.out; omega)
  go_loopw [32] (fun v wr => ∃ (j : Nat) (vs1 : Nat → Value), v = .int .i64 j ∧ j ≤ m ∧ Hid (BkAt s0 (FO Fx A nc vs1) x n S P O L [] R R (.slice (some ⟨g, 0, none⟩) L.length c) tv rv wr) ∧ Hid (OrI s0 Fx A nc vs1 (gC (gE I S fr j)) wr) ∧ Hid (Mv s0 Fx w wr)) (fun v _ => ((m : Int) - intOf v).toNat)
  case atStart => exact ⟨0, vs, rfl, Nat.zero_le _, HB1, HO1, HV1⟩
  case round =>
    clear HB1 HO1 HV1
    obtain ⟨j, vs1, rfl, hj, HB2, HO2, HV2⟩ := hrel
    generalize hwr : wr = w2 at *
    clear hwr wr w1
    by_cases hlt : j < m
    · have hdd : decide ((j : Int) < (m : Int)) = true := decide_eq_true (by omega)
      have hd2 : decide (j < m) = true := decide_eq_true hlt
      have HJ := Lib.hid hlt
      have HFJ : Hid (fr + j < n ∧ fr + (j + 1) ≤ n) := Lib.hid (by have := HFM.out; omega)
      have HSJ := Lib.hid (HF.out.pa.sp (fr + j) HFJ.out.1)
      have cs := World.rowIs.cell HB2.out.st HFJ.out.1
      have c5 := HB2.out.cells.2.2.2.2.2.1
      have hsi : ((S (fr + j) : Nat) : Int) < (n : Int) := by have := HSJ.out; omega
      have hji : (j : Int) < (m : Int) := by omega
      have HW1 : Hid (wrap64 ((j : Int) + 1) = ((j + 1 : Nat) : Int)) := Lib.hid (wrap_big (by have := HFJ.out; have := HN.out; omega))
      rw [HIV.out] at c5
      obtain ⟨hcs, -⟩ := HIN.out w2 HV2.out _ HSJ.out.1
      have HGF := Lib.hid (fun q c => gE_few HIO.out HF.out.pa HFJ.out.2 q c)
      have HGN := Lib.hid (gE_next I S fr j)
      have HLI : Hid ((I (S (fr + j))).length ≤ 1000000000) := Lib.hid (by
        have h1 := HIO.out.len HSJ.out.1
        have h2 : n * nc ≤ 90000 * 256 := Nat.mul_le_mul HN.out.1 HN.out.2
        omega)
      have HMI := Lib.hid (HIO.out.mem _ HSJ.out.1)
      clear hlt
      generalize S (fr + j) = s at *
      generalize hIs : I s = Is at *
      have HIS := Lib.hid hIs
      clear hIs
      go_wp2_with fail
      clear cs c5 hcs
      go_loopw [44] (fun v wr => ∃ (q : Nat) (vs2 : Nat → Value), v = .int .i64 q ∧ q ≤ Is.length ∧ Hid (BkAt s0 (FO Fx A nc vs2) x n S P O L [] R R (.slice (some ⟨g, 0, none⟩) L.length c) tv rv wr) ∧ Hid (OrI s0 Fx A nc vs2 (gC (gE I S fr j ++ Is.take q)) wr) ∧ Hid (Mv s0 Fx w wr)) (fun v _ => ((Is.length : Int) - intOf v).toNat)
      case atStart => exact ⟨0, vs1, rfl, Nat.zero_le _, HB2, Lib.hid (by rw [List.take_zero, List.append_nil]; exact HO2.out), HV2⟩
      case round =>
        clear HB2 HO2
        obtain ⟨q, vs2, rfl, hq, HB3, HO3, HV3⟩ := hrel
        generalize hwr : wr = w3 at *
        clear hwr wr
        by_cases hlt : q < Is.length
        · have hdd : decide ((q : Int) < (Is.length : Int)) = true := decide_eq_true (by omega)
          have hd2 : decide (q < Is.length) = true := decide_eq_true hlt
          have HQ := Lib.hid hlt
          obtain ⟨-, hst⟩ := HIN.out w3 HV3.out s HSJ.out.1
          rw [HIS.out] at hst
          obtain ⟨b2, o2, hia, hrg⟩ := hst q hlt
          rw [hia]
          have HRG := Lib.hid hrg
          have HME := Lib.hid ((HMI.out (Is.getD q (0, 0))).1 (by rw [List.getD_eq_getElem?_getD, List.getElem?_eq_getElem hlt]; exact List.getElem_mem hlt))
          have HTN := Lib.hid (take_next Is hlt)
          have hqi : (q : Int) < (Is.length : Int) := by omega
          have HW2 : Hid (wrap64 ((q : Int) + 1) = ((q + 1 : Nat) : Int)) := Lib.hid (wrap_big (by have := HLI.out; omega))
          clear hst hrg hlt
          generalize Is.getD q (0, 0) = e at *
          go_upto_region 6 with first
            | (refine wpList_load_step rfl (.tmp 46) rfl b2 (o2 + q * 2) e rfl HRG.out ?_)
            | (refine wpList_store_step rfl (.tmp 7) (.tmp 47) rfl e rfl rfl ?_)
          rw [show ∀ a : Act, a.put none undef = a from fun _ => rfl]
          have hal := (Below.refl w3.heap.size w3).alloc (Nat.le_refl _) (.cells #[.int .i32 e.1, .int .u8 e.2] 145)
          have hsr := heap_alloc_new w3 (.cells #[.int .i32 e.1, .int .u8 e.2] 145)
          have HB4 := Lib.hid (HB3.out.stay (hal.trans ((Below.refl _ _).drew)))
          have hmv := HB3.out.mv (hal.trans ((Below.refl _ _).drew))
          have HO4 := Lib.hid (HO3.out.mv hmv)
          have HV4 := Lib.hid (HV3.out.trans hmv.fo)
          have HSB : Hid ((vs2 e.2).ownBlock ≠ some w3.heap.size) := Lib.hid (fun e2 => absurd ((HO3.out.own e.2 HME.out.2.1).lt _ e2).2 (Nat.lt_irrefl _))
          clear hal hmv HB3 HO3 HV3 HRG
          generalize w3.alloc (.cells #[.int .i32 e.1, .int .u8 e.2] 145) = w4 at *
          generalize w3.heap.size = sb at *
          have HC0 : Hid (w4.drew.cell? ⟨x.b, 6, none⟩ = some (.slice (some ⟨A, 0, none⟩) nc nc) ∧ w4.drew.cell? ⟨sb, 0, none⟩ = some (.int .i32 e.1) ∧ w4.drew.cell? ⟨sb, 1, none⟩ = some (.int .u8 e.2) ∧ w4.drew.cell? ⟨A, e.2, none⟩ = some (vs2 e.2)) := Lib.hid ⟨HG.out ▸ HB4.out.cells.2.2.2.2.2.2.1, by show w4.cell? _ = _; rw [cell_of_row w4 sb 0 _ _ _ hsr]; rfl, by show w4.cell? _ = _; rw [cell_of_row w4 sb 1 _ _ _ hsr]; rfl, World.rowIs.cell HO4.out.row HME.out.2.1⟩
          clear hsr
          have hei : (e.2 : Int) < (nc : Int) := by have := HME.out; omega
          have hcv : wrap64 (e.1 : Int) = (e.1 : Int) := wrap_nat (by have := HME.out; have := HN.out; omega)
          refine region_mix [(false, 0), (false, 1), (false, 2), (false, 3), (false, 4), (false, 5), (false, 6), (false, 7), (false, 8), (false, 9), (false, 10), (false, 11), (false, 12), (false, 13), (false, 14), (false, 15), (false, 16), (true, 17), (true, 18), (false, 19)] (fun w' => w'.cell? ⟨x.b, 6, none⟩ = some (.slice (some ⟨A, 0, none⟩) nc nc) ∧ w'.cell? ⟨sb, 0, none⟩ = some (.int .i32 e.1) ∧ w'.cell? ⟨sb, 1, none⟩ = some (.int .u8 e.2) ∧ w'.cell? ⟨A, e.2, none⟩ = some (vs2 e.2)) (by kernel_rfl) (by kernel_rfl) HC0.out ?_
          simp only [planOps, List.map_cons, List.map_nil, List.getD_cons_zero, List.getD_cons_succ, List.length_cons, List.length_nil, List.drop_succ_cons, List.drop_zero]
          refine mix_seg (seg := [_, _, _, _, _, _, _, _, _, _, _, _, _, _, _, _, _]) rfl HC0.out ?_
          intro ι hι F hF
          have f1 := fun n => (hF n).1
          have f2 := fun n => (hF n).2.1
          have f3 := fun n => (hF n).2.2.1
          have f4 := fun n => (hF n).2.2.2
          iterate 17 (go_big_quiet_step (fail))
          refine wpQuiet_nil ?_
          clear f1 f2 f3 f4 hF hι F
          generalize w4.drew = w5 at *
          refine mix_eff (fun K' hK => ?_)
          go_wp2_with fail
          refine mix_on hK ⟨by rw [World.cell?_alloc_past _ _ _ (World.block_lt_of_cell? _ _ HC0.out.1)]; exact HC0.out.1, by rw [World.cell?_alloc_past _ _ _ (World.block_lt_of_cell? _ _ HC0.out.2.1)]; exact HC0.out.2.1, by rw [World.cell?_alloc_past _ _ _ (World.block_lt_of_cell? _ _ HC0.out.2.2.1)]; exact HC0.out.2.2.1, by rw [World.cell?_alloc_past _ _ _ (World.block_lt_of_cell? _ _ HC0.out.2.2.2)]; exact HC0.out.2.2.2⟩ ?_
          clear hK K'
          refine mix_eff (fun K' hK => ?_)
          refine wpList_pushN rfl (.tmp 61) (.tmp 65) rfl s0 (vs2 e.2) (zI (gC (gE I S fr j ++ Is.take q) e.2)) e.1 rfl (HO4.out.own e.2 HME.out.2.1) rfl (by rw [zI_len]; have := HGF.out q e.2; have := HN.out; omega) HB4.out.s0le ?_
          intro v' w6 ho hb ha
          have hno := HB4.out.offO x.b (.inl rfl)
          have hbo : (vs2 e.2).ownBlock ≠ some x.b := fun e2 => hno (.inr (.inr ⟨e.2, HME.out.2.1, e2⟩))
          have HPU := Lib.hid (HO4.out.put HB4.out HME.out.2.1 (l' := gC (gE I S fr j ++ Is.take q) e.2 ++ [e.1]) (by rw [zI_app]; exact ho) hb ha)
          have hC : w6.cell? ⟨x.b, 6, none⟩ = some (.slice (some ⟨A, 0, none⟩) nc nc) ∧ w6.cell? ⟨sb, 0, none⟩ = some (.int .i32 e.1) ∧ w6.cell? ⟨sb, 1, none⟩ = some (.int .u8 e.2) ∧ w6.cell? ⟨A, e.2, none⟩ = some (vs2 e.2) := ⟨(World.cell?_of_block (w := w5) (ha.block x.b HB4.out.ltb hbo)).trans HC0.out.1, (World.cell?_of_block (w := w5) (ha.block sb (World.block_lt_of_cell? _ _ HC0.out.2.1) HSB.out)).trans HC0.out.2.1, (World.cell?_of_block (w := w5) (ha.block sb (World.block_lt_of_cell? _ _ HC0.out.2.1) HSB.out)).trans HC0.out.2.2.1, (World.cell?_of_block (w := w5) (ha.block A (World.rowIs.lt HO4.out.row) (HO4.out.notA e.2 HME.out.2.1))).trans HC0.out.2.2.2⟩
          have hfz : w6.frozen? ⟨A, e.2, none⟩ = false := by
            obtain ⟨cs, hcs⟩ := row_typ HO4.out.row
            exact frozen_of_row w6 A e.2 cs _ ((ha.block A (World.rowIs.lt HO4.out.row) (HO4.out.notA e.2 HME.out.2.1)).trans hcs)
          obtain ⟨a9, c9, hsv, -⟩ := own_slice ho
          rw [List.length_append] at hsv
          subst hsv
          clear ho hb ha hno hbo
          refine wpList_nil ?_
          refine mix_on hK hC ?_
          clear hK K'
          refine mix_seg (seg := [_]) (rest := []) rfl hC ?_
          intro ι hι F hF
          try simp only [Act.put, List.setIfInBounds_toArray, List.set_cons_zero, List.set_cons_succ]
          have f1 := fun n => (hF n).1
          iterate 1 (go_big_quiet_step (fail))
          refine wpQuiet_nil ?_
          clear f1 hF hι F
          have hcA := hC.2.2.2
          clear hC
          show wpList _ _ _ _ _ _
          go_wp2_with fail
          refine NoPanic.normal ?_
          clear hcA hfz HC0
          have HX5 : Hid (∀ c', c' < nc → gC (gE I S fr j ++ Is.take (q + 1)) c' = if c' = e.2 then gC (gE I S fr j ++ Is.take q) e.2 ++ [e.1] else gC (gE I S fr j ++ Is.take q) c') := Lib.hid (fun c' _ => by
            rw [HTN.out, ← List.append_assoc, gC_snoc]
            by_cases h : c' = e.2
            · rw [if_pos h, if_pos h, h]
            · rw [if_neg h, if_neg h])
          go_wp2_with fail
          go_roundw
          case rel => exact ⟨q + 1, _, by rw [HW2.out], HQ.out, Lib.hid HPU.out.2.1, Lib.hid (HPU.out.1.congr HX5.out), Lib.hid (HV4.out.trans HPU.out.2.2)⟩
          case measure => rw [HW2.out]; exact meas8 HQ.out
        · have hdd : decide ((q : Int) < (Is.length : Int)) = false := decide_eq_false (by omega)
          have hd2 : decide (q < Is.length) = false := decide_eq_false hlt
          obtain rfl : q = Is.length := by omega
          clear hlt hq
          have HX5 : Hid (∀ c', c' < nc → gC (gE I S fr (j + 1)) c' = gC (gE I S fr j ++ Is.take Is.length) c') := Lib.hid (fun c' _ => by rw [HGN.out, List.take_length])
          go_wp2_with fail
          go_roundw
          case rel => exact ⟨j + 1, vs2, by rw [HW1.out], HJ.out, HB3, Lib.hid (HO3.out.congr HX5.out), HV3⟩
          case measure => rw [HW1.out]; exact meas8 HJ.out
    · have hdd : decide ((j : Int) < (m : Int)) = false := decide_eq_false (by omega)
      have hd2 : decide (j < m) = false := decide_eq_false hlt
      obtain rfl : j = m := by omega
      clear hlt hj
      have c6 := HB2.out.cells.2.2.2.2.2.2.1
      rw [HG.out] at c6
      generalize hEE : gE I S fr j = EE at *
      clear hEE
      go_wp2_with fail
      clear c6 hdd hd2
      have HGK := Lib.hid (fun k => gC_nodup HEN.out k)
      have HGM : Hid (∀ k s, s ∈ gC EE k ↔ s < n ∧ k < nc ∧ δ s k < n ∧ O (δ s k) = i) := Lib.hid (fun k s => by rw [gC_mem]; exact HEM.out (s, k))
      go_loopw [75] (fun v wr => ∃ (k : Nat) (S1 P1 O1 : Nat → Nat) (L1 : List Bl) (R1 : List Nat) (g1 c1 : Nat) (tv1 rv1 : Value) (vs1 : Nat → Value), v = .int .i64 k ∧ k ≤ nc ∧ Hid (BkAt s0 (FO Fx A nc vs1) x n S1 P1 O1 L1 [] R1 R1 (.slice (some ⟨g1, 0, none⟩) L1.length c1) tv1 rv1 wr) ∧ Hid (OrI s0 Fx A nc vs1 (fun c => if c < k then [] else gC EE c) wr) ∧
        Hid (Fr n S1 P1 O1 L1 R1) ∧ Hid (PRel n O R L.length O1 R1 L1.length) ∧ Hid (StabK n nc δ O1 R1 (fun s => O s = i) k) ∧ Hid (∀ s t, s < n → t < n → Alk nc δ F s t → O1 s = O1 t) ∧ Hid (Mv s0 Fx w wr)) (fun v _ => ((nc : Int) - intOf v).toNat)
      case atStart => exact ⟨0, S, P, O, L, R, g, c, tv, rv, vs1, rfl, Nat.zero_le _, HB2, Lib.hid (HO2.out.congr (fun c _ => if_neg (Nat.not_lt_zero c))), HF, Lib.hid (PRel.refl ..), HST, HAL, HV2⟩
      case round =>
        clear HB2 HO2 HV2 vs1
        obtain ⟨k, S1, P1, O1, L1, R1, g1, c1, tv1, rv1, vs1, rfl, hk, HB3, HO3, HF1, HP1, HS1, HA1, HV3⟩ := hrel
        generalize hwr : wr = w3 at *
        clear hwr wr
        by_cases hlt : k < nc
        · have hdd : decide ((k : Int) < (nc : Int)) = true := decide_eq_true (by omega)
          have hd2 : decide (k < nc) = true := decide_eq_true hlt
          have HK := Lib.hid hlt
          have HLS : Hid ((if k < k then [] else gC EE k) = gC EE k) := Lib.hid (if_neg (Nat.lt_irrefl k))
          have hown := HO3.out.own k hlt
          rw [HLS.out] at hown
          obtain ⟨AA, CC, hva, -⟩ := own_slice hown
          rw [zI_len] at hva
          replace hva := Lib.hid hva
          have hck := World.rowIs.cell HO3.out.row hlt
          rw [hva.out] at hck
          have HNU : Hid (∀ W, Mv s0 (FO Fx A nc vs1) w3 W → NumsIn W AA (zI (gC EE k))) := Lib.hid (fun W hW => by
            have h1 := (HO3.out.mv hW).own k HK.out
            rw [HLS.out] at h1
            obtain ⟨a1, c1, e1, h2⟩ := h1.nums
            rw [hva.out] at e1
            injection e1 with e1 _ _
            rw [e1]; exact h2)
          have hki : (k : Int) < (nc : Int) := by omega
          have HW1 : Hid (wrap64 ((k : Int) + 1) = ((k + 1 : Nat) : Int)) := Lib.hid (wrap_big (by have := HN.out; omega))
          have HLK : Hid (∀ c, c < nc → (if c < k + 1 then [] else gC EE c) = (if c = k then [] else (if c < k then [] else gC EE c))) := Lib.hid (fun c _ => by
            by_cases h : c = k
            · rw [if_pos (by omega), if_pos h]
            · rw [if_neg h]
              by_cases h2 : c < k
              · rw [if_pos h2, if_pos (by omega)]
              · rw [if_neg h2, if_neg (by omega)])
          clear hlt hown
          go_upto_region 13 with (go_at_call 54; refine (tell_any x n S1 P1 O1 L1 R1 g1 c1 tv1 rv1 AA CC (gC EE k) w3 HB3.out HF1.out (HGK.out k) (fun s hs => ((HGM.out k s).1 hs).1) HNU.out HN.out.1).mono ?_; rintro e w4 ⟨rfl, S2, P2, O2, L2, R2, g2, c2, tv2, rv2, h1, h2, h3, h4⟩; have HB4 := Lib.hid h1; have HM4 := Lib.hid h2; have HF2 := Lib.hid h3; have HT2 := Lib.hid h4; clear h1 h2 h3 h4)
          clear hck hdd hd2
          have HP2 := Lib.hid (HP1.out.trans HT2.out.rel)
          have HS2 : Hid (StabK n nc δ O2 R2 (fun s => O s = i) (k + 1)) := Lib.hid (HS1.out.next HT2.out.rel HD.out (fun s t hs ht e => by
            have h1 := ((HT2.out.same s t hs ht).1 e).2
            rw [HGM.out, HGM.out] at h1
            exact ⟨fun h => (h1.1 ⟨hs, HK.out, HD.out s k hs HK.out, h⟩).2.2.2, fun h => (h1.2 ⟨ht, HK.out, HD.out t k ht HK.out, h⟩).2.2.2⟩))
          have HA2 : Hid (∀ s t, s < n → t < n → Alk nc δ F s t → O2 s = O2 t) := Lib.hid (fun s t hs ht ha => (HT2.out.same s t hs ht).2 ⟨HA1.out s t hs ht ha, by
            have h1 := HAL.out _ _ (HD.out s k hs HK.out) (HD.out t k ht HK.out) (ha.step HK.out)
            rw [HGM.out, HGM.out]
            exact ⟨fun h => ⟨ht, HK.out, HD.out t k ht HK.out, h1 ▸ h.2.2.2⟩, fun h => ⟨hs, HK.out, HD.out s k hs HK.out, h1 ▸ h.2.2.2⟩⟩⟩)
          have HO4 := Lib.hid (HO3.out.mv (HM4.out.trans HB4.out.drewM))
          have HV4 := Lib.hid (HV3.out.trans (HM4.out.trans HB4.out.drewM).fo)
          replace HB4 := Lib.hid HB4.out.drewI
          clear HB3 HO3 HF1 HP1 HS1 HA1 HV3 HM4 HT2 HNU
          generalize w4 = w5 at *
          rcases own_two (HO4.out.own k HK.out) with ⟨e, -⟩ | ⟨g5, c5, e, h5⟩
          · rw [hva.out] at e
            injection e with e1 e2 e3
            subst e1
            subst e3
            have HAP : Hid (Ap w5.drew (vs1 k) w5.drew (.slice none 0 0)) := Lib.hid ⟨Nat.le_refl _, fun _ _ _ => rfl, fun q hq => .inl (by rw [hva.out]; exact hq)⟩
            have HOC : Hid (OwnN s0 w5.drew (.slice none 0 0) (zI [])) := Lib.hid (own_cut (HO4.out.own k HK.out) (by rw [zI_len, HLS.out]; exact hva.out) 0 (Nat.zero_le _))
            have HPU := Lib.hid (HO4.out.put HB4.out HK.out HOC.out (Below.refl s0 _) HAP.out)
            have hfz : w5.drew.frozen? ⟨A, k, none⟩ = false := World.rowIs.frozen HO4.out.row k
            have hck : w5.drew.cell? ⟨A, k, none⟩ = some (vs1 k) := World.rowIs.cell HO4.out.row HK.out
            have c6 : w5.drew.cell? ⟨x.b, 6, none⟩ = some (.slice (some ⟨A, 0, none⟩) nc nc) := HG.out ▸ HB4.out.cells.2.2.2.2.2.2.1
            refine region_mix [(false, 0), (false, 1), (false, 2), (false, 3), (false, 4), (false, 5), (false, 6), (false, 7)] (fun w' => w' = w5.drew) (by kernel_rfl) (by kernel_rfl) rfl ?_
            simp only [planOps, List.map_cons, List.map_nil, List.getD_cons_zero, List.getD_cons_succ, List.length_cons, List.length_nil, List.drop_succ_cons, List.drop_zero]
            refine mix_seg (seg := [_, _, _, _, _, _, _, _]) (rest := []) rfl rfl ?_
            intro ι hι F hF
            have f1 : ∀ n, (F n).cell? ⟨x.b, 6, none⟩ = some (.slice (some ⟨A, 0, none⟩) nc nc) := fun n => by rw [hF n]; exact c6
            iterate 8 (go_big_quiet_step (fail))
            refine wpQuiet_nil ?_
            clear f1 hF hι F c6
            generalize w5.drew = w6 at *
            show wpList _ _ _ _ _ _
            go_wp2_with fail
            refine NoPanic.normal ?_
            clear hck hfz
            go_wp2_with fail
            go_roundw
            case rel => exact ⟨k + 1, S2, P2, O2, L2, R2, g2, c2, tv2, rv2, _, by rw [HW1.out], HK.out, Lib.hid HPU.out.2.1, Lib.hid (HPU.out.1.congr HLK.out), HF2, HP2, HS2, HA2, Lib.hid (HV4.out.trans HPU.out.2.2)⟩
            case measure => rw [HW1.out]; exact meas8 HK.out
          · rw [hva.out] at e
            injection e with e1 e2 e3
            subst e1
            subst e3
            rw [HLS.out, zI_len] at h5
            have HAP : Hid (Ap w5.drew (vs1 k) w5.drew (.slice (some ⟨g5, 0, none⟩) 0 CC)) := Lib.hid ⟨Nat.le_refl _, fun _ _ _ => rfl, fun q hq => .inl (by rw [hva.out]; exact hq)⟩
            have HOC : Hid (OwnN s0 w5.drew (.slice (some ⟨g5, 0, none⟩) 0 CC) (zI [])) := Lib.hid (own_cut (HO4.out.own k HK.out) (by rw [zI_len, HLS.out]; exact hva.out) 0 (Nat.zero_le _))
            have HPU := Lib.hid (HO4.out.put HB4.out HK.out HOC.out (Below.refl s0 _) HAP.out)
            have hfz : w5.drew.frozen? ⟨A, k, none⟩ = false := World.rowIs.frozen HO4.out.row k
            have hck : w5.drew.cell? ⟨A, k, none⟩ = some (vs1 k) := World.rowIs.cell HO4.out.row HK.out
            have c6 : w5.drew.cell? ⟨x.b, 6, none⟩ = some (.slice (some ⟨A, 0, none⟩) nc nc) := HG.out ▸ HB4.out.cells.2.2.2.2.2.2.1
            refine region_mix [(false, 0), (false, 1), (false, 2), (false, 3), (false, 4), (false, 5), (false, 6), (false, 7)] (fun w' => w' = w5.drew) (by kernel_rfl) (by kernel_rfl) rfl ?_
            simp only [planOps, List.map_cons, List.map_nil, List.getD_cons_zero, List.getD_cons_succ, List.length_cons, List.length_nil, List.drop_succ_cons, List.drop_zero]
            refine mix_seg (seg := [_, _, _, _, _, _, _, _]) (rest := []) rfl rfl ?_
            intro ι hι F hF
            have f1 : ∀ n, (F n).cell? ⟨x.b, 6, none⟩ = some (.slice (some ⟨A, 0, none⟩) nc nc) := fun n => by rw [hF n]; exact c6
            iterate 8 (go_big_quiet_step (fail))
            refine wpQuiet_nil ?_
            clear f1 hF hι F c6
            generalize w5.drew = w6 at *
            show wpList _ _ _ _ _ _
            go_wp2_with fail
            refine NoPanic.normal ?_
            clear hck hfz
            go_wp2_with fail
            go_roundw
            case rel => exact ⟨k + 1, S2, P2, O2, L2, R2, g2, c2, tv2, rv2, _, by rw [HW1.out], HK.out, Lib.hid HPU.out.2.1, Lib.hid (HPU.out.1.congr HLK.out), HF2, HP2, HS2, HA2, Lib.hid (HV4.out.trans HPU.out.2.2)⟩
            case measure => rw [HW1.out]; exact meas8 HK.out
        · have hdd : decide ((k : Int) < (nc : Int)) = false := decide_eq_false (by omega)
          have hd2 : decide (k < nc) = false := decide_eq_false hlt
          obtain rfl : k = nc := by omega
          clear hlt hk
          go_wp2_with fail
          go_end0
          exact ⟨rfl, S1, P1, O1, L1, R1, g1, c1, tv1, rv1, vs1, HB3.out, HO3.out.congr (fun c hc => (if_pos hc).symm), HV3.out, HF1.out, HP1.out, HS1.out.done, HA1.out⟩
end Mi
end Go.Proofs.YtplkhgmjcljjhaaDoor
namespace Go.Proofs.YtplkhgmjcljjhaaDoor
open Go.RowKit Sets Nf
namespace Mi
/-- All steps, state by state, class by class: those of the first i states, and k of the next one. -/
def eL (nc i k : Nat) : List St := ((List.range i).flatMap fun f => (List.range nc).map fun c => (f, c)) ++ (List.range k).map fun c => (i, c)
theorem eL_zero (nc : Nat) : eL nc 0 0 = [] := rfl
theorem eL_next (nc i k : Nat) : eL nc i (k + 1) = eL nc i k ++ [(i, k)] := by
  unfold eL
  rw [List.range_succ, List.map_append, ← List.append_assoc]; rfl
theorem eL_row (nc i : Nat) : eL nc (i + 1) 0 = eL nc i nc := by
  unfold eL
  rw [List.range_succ, List.flatMap_append]; simp
theorem eL_len (nc i k : Nat) : (eL nc i k).length = i * nc + k := by
  unfold eL
  rw [List.length_append, List.length_map, List.length_range]
  congr 1
  induction i with
  | zero => simp
  | succ i ih => rw [List.range_succ, List.flatMap_append, List.length_append, ih]; simp [Nat.succ_mul]
theorem eL_mem (nc n : Nat) (e : St) : e ∈ eL nc n 0 ↔ e.1 < n ∧ e.2 < nc := by
  unfold eL
  rw [List.range_zero, List.map_nil, List.append_nil, List.mem_flatMap]
  constructor
  · rintro ⟨f, hf, he⟩
    obtain ⟨c, hc, rfl⟩ := List.mem_map.1 he
    exact ⟨List.mem_range.1 hf, List.mem_range.1 hc⟩
  · rintro ⟨h1, h2⟩
    exact ⟨e.1, List.mem_range.2 h1, List.mem_map.2 ⟨e.2, List.mem_range.2 h2, rfl⟩⟩
theorem eL_nodup (nc : Nat) : ∀ n, (eL nc n 0).Nodup
  | 0 => List.nodup_nil
  | n + 1 => by
    have h : eL nc (n + 1) 0 = eL nc n 0 ++ (List.range nc).map fun c => (n, c) := by
      unfold eL
      rw [List.range_succ, List.flatMap_append]; simp
    rw [h, List.nodup_append]
    refine ⟨eL_nodup nc n, ?_, fun a ha b hb e => ?_⟩
    · rw [List.nodup_iff_pairwise_ne, List.pairwise_map]
      exact (List.nodup_iff_pairwise_ne.1 List.nodup_range).imp (fun hne he => hne (Prod.mk.inj he).2)
    · have h1 := (eL_mem nc n a).1 ha
      obtain ⟨c, _, rfl⟩ := List.mem_map.1 hb
      rw [e] at h1
      simp at h1
def gT (δ : Nat → Nat → Nat) (E : List St) (t : Nat) : List St := E.filter fun e => δ e.1 e.2 == t
theorem gT_snoc (δ : Nat → Nat → Nat) (E : List St) (e : St) (t : Nat) : gT δ (E ++ [e]) t = if t = δ e.1 e.2 then gT δ E t ++ [e] else gT δ E t := by
  unfold gT
  rw [List.filter_append]
  by_cases h : t = δ e.1 e.2
  · rw [if_pos h, h]; simp
  · rw [if_neg h]
    have : (δ e.1 e.2 == t) = false := by rw [beq_eq_false_iff_ne]; exact fun h2 => h h2.symm
    simp [this]
theorem gT_ok (n nc : Nat) (δ : Nat → Nat → Nat) : IntoOk n nc δ (gT δ (eL nc n 0)) := by
  refine ⟨fun t ht e => ?_, fun t ht => (eL_nodup nc n).sublist List.filter_sublist⟩
  unfold gT
  rw [List.mem_filter, eL_mem]
  simp [and_assoc]
def stL : List St → List Value
  | [] => []
  | e :: l => sp2 e ++ stL l
theorem stL_len : ∀ L : List St, (stL L).length = L.length * 2
  | [] => rfl
  | e :: l => by
    show (sp2 e ++ stL l).length = _
    rw [List.length_append, stL_len l, List.length_cons]
    show 2 + _ = _
    omega
theorem stL_app : ∀ L M : List St, stL (L ++ M) = stL L ++ stL M
  | [], _ => rfl
  | e :: l, M => by
    show sp2 e ++ stL (l ++ M) = _
    rw [stL_app l M, ← List.append_assoc]; rfl
theorem stL_get : ∀ (L : List St) (i k : Nat), i < L.length → k < 2 → (stL L)[i * 2 + k]? = (sp2 (L.getD i (0, 0)))[k]?
  | [], _, _, h, _ => absurd h (Nat.not_lt_zero _)
  | b :: l, 0, k, _, hk => by
    show (sp2 b ++ stL l)[0 * 2 + k]? = _
    rw [Nat.zero_mul, Nat.zero_add, List.getElem?_append_left (by show k < 2; exact hk)]; rfl
  | b :: l, i + 1, k, h, hk => by
    show (sp2 b ++ stL l)[(i + 1) * 2 + k]? = _
    rw [List.getElem?_append_right (by show 2 ≤ _; omega), show (i + 1) * 2 + k - (sp2 b).length = i * 2 + k from by show (i + 1) * 2 + k - 2 = _; omega]
    exact stL_get l i k (by simpa using h) hk
def OwnS (B : Nat) (w : World) (v : Value) (l : List St) : Prop := w.ownsRow B 145 2 v l.length (stL l)
theorem infoStep : (Tryd.prog.info? 145).map (fun i => (i.zero, i.size, i.bytes)) = some (some (.agg #[.int .i32 0, .int .u8 0]), 2, 8) := by kernel_rfl
theorem infoSts : (Tryd.prog.info? 143).map (fun i => (i.zero, i.size, i.bytes)) = some (some (.slice none 0 0), 1, 24) := by kernel_rfl
/-- A row of lists in the making: block A holds their slices, each in memory of its own. -/
structure TsI (w0 : World) (A n : Nat) (vs : Nat → Value) (ls : Nat → List St) (w : World) : Prop where
  row : w.rowIs A 143 n vs
  own : ∀ j, j < n → OwnS w0.heap.size w (vs j) (ls j)
  apart : ∀ i j, i < n → j < n → i ≠ j → ∀ g, (vs i).ownBlock = some g → (vs j).ownBlock ≠ some g
  notA : ∀ j, j < n → (vs j).ownBlock ≠ some A
  low : w0.heap.size ≤ A
  below : Below w0.heap.size w0 w
theorem TsI.put {w0 w w' : World} {A n : Nat} {vs : Nat → Value} {ls ls' : Nat → List St} (h : TsI w0 A n vs ls w) {j0 : Nat} (hj : j0 < n) {v' : Value}
    (ho : OwnS w0.heap.size w' v' (ls' j0)) (hb : Below w0.heap.size w w') (ha : Ap w (vs j0) w' v') (h2 : ∀ j, j < n → j ≠ j0 → ls' j = ls j) :
    TsI w0 A n (fun j => if j = j0 then v' else vs j) ls' (w'.setCell ⟨A, j0, none⟩ v') := by
  have hA : A < w.heap.size := World.rowIs.lt h.row
  have hrow : w'.rowIs A 143 n vs := World.rowIs.of_block h.row (ha.block A hA (h.notA j0 hj))
  have hnA : v'.ownBlock ≠ some A := fun e => by
    rcases ha.own A e with h3 | h3
    · exact h.notA j0 hj h3
    · omega
  have hset : ∀ g, g ≠ A → (w'.setCell ⟨A, j0, none⟩ v').heap[g]? = w'.heap[g]? := fun g hg => Below.heap_setCell w' ⟨A, j0, none⟩ v' g hg
  refine ⟨World.rowIs.set hrow j0 v', fun j hjn => ?_, fun i j hi hjn hne g hg => ?_, fun j hjn => ?_, h.low, ?_⟩
  · by_cases e : j = j0
    · subst e
      show OwnS _ _ (if j = j then v' else vs j) _
      rw [if_pos rfl]
      exact own_kept ho fun g hg => hset g (fun e => hnA (by rw [hg, e]))
    · show OwnS _ _ (if j = j0 then v' else vs j) _
      rw [if_neg e, h2 j hjn e]
      have h3 := h.own j hjn
      refine own_kept (w := w) h3 fun g hg => ?_
      rw [hset g (fun e2 => h.notA j hjn (by rw [hg, e2]))]
      exact ha.block g (h3.lt g hg).2 (fun e2 => h.apart j j0 hjn hj e g hg e2)
  · have hfresh : ∀ q, q < n → q ≠ j0 → ∀ x, (vs q).ownBlock = some x → v'.ownBlock ≠ some x := fun q hq hne x hx e => by
      rcases ha.own x e with h3 | h3
      · exact h.apart q j0 hq hj hne x hx h3
      · have := ((h.own q hq).lt x hx).2; omega
    by_cases ei : i = j0
    · subst ei
      have ej : ¬ j = i := fun e => hne e.symm
      simp only [if_true] at hg
      show (if j = i then v' else vs j).ownBlock ≠ _
      rw [if_neg ej]
      exact fun e => hfresh j hjn ej g e hg
    · simp only [if_neg ei] at hg
      show (if j = j0 then v' else vs j).ownBlock ≠ _
      by_cases ej : j = j0
      · rw [if_pos ej]; exact hfresh i hi ei g hg
      · rw [if_neg ej]; exact h.apart i j hi hjn hne g hg
  · show (if j = j0 then v' else vs j).ownBlock ≠ _
    by_cases e : j = j0
    · rw [if_pos e]; exact hnA
    · rw [if_neg e]; exact h.notA j hjn
  · exact (h.below.trans hb).setCell h.low v'
theorem TsI.congr {w0 w : World} {A n : Nat} {vs : Nat → Value} {ls ls' : Nat → List St} (h : TsI w0 A n vs ls w) (e : ∀ j, j < n → ls' j = ls j) : TsI w0 A n vs ls' w :=
  ⟨h.row, fun j hj => by rw [e j hj]; exact h.own j hj, h.apart, h.notA, h.low, h.below⟩
theorem TsI.new (w : World) (n : Nat) : TsI w w.heap.size n (fun _ => .slice none 0 0) (fun _ => []) (w.alloc (.cells (madeCells #[.slice none 0 0] n) 143)) :=
  ⟨World.rowIs_made w _ _ _, fun j _ => World.ownsRow_nil _ _ _ _, fun i j _ _ _ g hg => (by cases hg), fun j _ => (by intro h; cases h), Nat.le_refl _, (Below.refl _ _).alloc (Nat.le_refl _) _⟩
/-- The blocks that hold steps, or slices of them. -/
def StB (w : World) (q : Nat) : Prop := ∃ cs, w.heap[q]? = some (.cells cs 145 (0, 0)) ∨ w.heap[q]? = some (.cells cs 143 (0, 0))
def IntoS (w : World) (ib : Nat) (ia : Nat → Option Addr) (ic : Nat → Nat) (n : Nat) (I : Nat → List St) : Prop := ∀ W : World, (∀ q, StB w q → W.heap[q]? = w.heap[q]?) → IntoIn W ib ia ic n I
theorem StB.lt {w : World} {q : Nat} (h : StB w q) : q < w.heap.size := by
  obtain ⟨cs, h | h⟩ := h
  · exact (Array.getElem?_eq_some_iff.1 h).1
  · exact (Array.getElem?_eq_some_iff.1 h).1
theorem StB.kept {w w' : World} {q : Nat} (h : StB w q) (e : w'.heap[q]? = w.heap[q]?) : StB w' q := by
  obtain ⟨cs, h⟩ := h
  exact ⟨cs, by rw [e]; exact h⟩
theorem IntoS.mono {w w' : World} {ib : Nat} {ia : Nat → Option Addr} {ic : Nat → Nat} {n : Nat} {I : Nat → List St} (h : IntoS w ib ia ic n I) (hb : ∀ q, StB w q → w'.heap[q]? = w.heap[q]?) : IntoS w' ib ia ic n I := fun W hW =>
  h W (fun q hq => (hW q (hq.kept (hb q hq))).trans (hb q hq))
theorem own_step {B : Nat} {w : World} {v : Value} {l : List St} (h : OwnS B w v l) : ∃ a c, v = .slice a l.length c ∧ StepsIn w a l ∧ (∀ g, v.ownBlock = some g → StB w g) := by
  obtain ⟨a, c, rfl, ha⟩ := own_slice h
  refine ⟨a, c, rfl, fun j hj => ?_, fun g hg => ?_⟩
  · rcases ha with ha | ⟨g, rfl, _, _⟩
    · omega
    · refine ⟨g, 0, rfl, fun k v hk => ?_⟩
      have hk2 : k < 2 := (List.getElem?_eq_some_iff.1 hk).1
      rw [Nat.zero_add, World.ownsRow.cellAt h (j * 2 + k) (by omega), stL_get l j k hj hk2]
      exact hk
  · obtain ⟨cs, hc⟩ := own_typ h hg
    exact ⟨cs, .inl hc⟩
def slA : Value → Option Addr
  | .slice a _ _ => a
  | _ => none
def slC : Value → Nat
  | .slice _ _ c => c
  | _ => 0
theorem TsI.into {w0 w : World} {A n : Nat} {vs : Nat → Value} {ls : Nat → List St} (h : TsI w0 A n vs ls w) : IntoS w A (fun s => slA (vs s)) (fun s => slC (vs s)) n ls := fun W hW s hs => by
  obtain ⟨cs, hc⟩ := row_typ h.row
  have hr : W.rowIs A 143 n vs := World.rowIs.of_block h.row (hW A ⟨cs, .inr hc⟩)
  have ho := h.own s hs
  have ho2 : OwnS w0.heap.size W (vs s) (ls s) := own_kept ho (fun g hg => hW g (by obtain ⟨cs, hc⟩ := own_typ ho hg; exact ⟨cs, .inl hc⟩))
  obtain ⟨a, c, e, h2, -⟩ := own_step ho2
  have hcell := World.rowIs.cell hr hs
  rw [e] at hcell
  simp only [e, slA, slC]
  exact ⟨hcell, h2⟩
end Mi
end Go.Proofs.YtplkhgmjcljjhaaDoor
