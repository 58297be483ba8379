/- Several texts in one. -/
import Derived.Test.YtcgllipcnmlkbaaDoorPkO
import Derived.Deep.Cut
namespace Go.Proofs.YtcgllipcnmlkbaaDoor
namespace Rx
open Sets Tr
def toI (n : Nat) : List Int := (List.range n).map fun i : Nat => (i : Int)
theorem toI_succ (n : Nat) : toI (n + 1) = toI n ++ [(n : Int)] := by unfold toI; rw [List.range_succ, List.map_append]; rfl
theorem mem_toI {n : Nat} {c : Int} : c ∈ toI n ↔ 0 ≤ c ∧ c < n := by
  unfold toI
  rw [List.mem_map]
  constructor
  · rintro ⟨i, hi, rfl⟩
    have := List.mem_range.1 hi
    omega
  · intro h
    exact ⟨c.toNat, List.mem_range.2 (by omega), by omega⟩
theorem toI_nodup (n : Nat) : (toI n).Nodup := by
  unfold toI
  refine List.pairwise_map.2 (List.Pairwise.imp (fun {a b} h e => h (by omega)) (List.nodup_range (n := n)))
/-- Each node is sound, leads down, and each is named once: by a node, or by what is held yet. -/
structure Ri (N : List Nd) (K : List Int) : Prop where
  snd : ∀ i, i < N.length → sound (N.getD i default) = true
  low : ∀ i, i < N.length → ∀ c ∈ kids (N.getD i default), 0 ≤ c ∧ c < i
  per : (edges N ++ K).Perm (toI N.length)
theorem Ri.nil : Ri [] [] := ⟨fun i h => by simp at h, fun i h => by simp at h, List.Perm.refl _⟩
theorem edges_snoc (N : List Nd) (x : Nd) : edges (N ++ [x]) = edges N ++ kids x := by unfold edges; simp
theorem Ri.add {N : List Nd} {K : List Int} (x : Nd) (h : Ri N (K ++ kids x)) (hs : sound x = true) : Ri (N ++ [x]) (K ++ [(N.length : Int)]) := by
  have hg : ∀ i, i < N.length → (N ++ [x]).getD i default = N.getD i default := fun i hi => by
    rw [List.getD_eq_getElem?_getD, List.getElem?_append_left hi, ← List.getD_eq_getElem?_getD]
  have hg2 : (N ++ [x]).getD N.length default = x := by simp [List.getD_eq_getElem?_getD]
  refine ⟨fun i hi => ?_, fun i hi c hc => ?_, ?_⟩
  · rw [List.length_append, List.length_singleton] at hi
    rcases Nat.lt_or_ge i N.length with h1 | h1
    · rw [hg i h1]; exact h.snd i h1
    · rw [show i = N.length from by omega, hg2]; exact hs
  · rw [List.length_append, List.length_singleton] at hi
    rcases Nat.lt_or_ge i N.length with h1 | h1
    · rw [hg i h1] at hc; exact h.low i h1 c hc
    · have e : i = N.length := by omega
      subst e
      rw [hg2] at hc
      exact mem_toI.1 (h.per.mem_iff.1 (List.mem_append_right _ (List.mem_append_right _ hc)))
  · rw [edges_snoc, List.length_append, List.length_singleton, toI_succ]
    have h1 : (edges N ++ kids x ++ (K ++ [(N.length : Int)])).Perm (edges N ++ (K ++ kids x) ++ [(N.length : Int)]) := by
      rw [← List.append_assoc, List.append_assoc (edges N), ]
      exact ((List.perm_append_comm).append_left _).append_right _
    exact h1.trans (h.per.append_right _)
def Md.held : Md → List Int
  | .patL n => [(n : Int)]
  | .braL n => [(n : Int)]
  | _ => []
def GR (K : List Int) : G → Prop
  | .ok n _ ns => Ri ns (K ++ [(n : Int)])
  | .bad _ _ => True
theorem GR.bind {K K' : List Int} {g : G} {k : Nat → Nat → List Nd → G} (h : GR K g) (hk : ∀ n p ns, g = .ok n p ns → Ri ns (K ++ [(n : Int)]) → GR K' (k n p ns)) : GR K' (g.bind k) := by
  cases g with
  | ok n p ns => exact hk n p ns rfl h
  | bad _ _ => trivial
theorem times_count {l : List Nat} {p q : Nat} {a b : Int} (h : times l p = .ok (some (a, b)) q) : countable a b = true := by
  rcases Nat.lt_or_ge l.length p with h1 | h1
  · have : pk l p = 256 := pk_end (by omega)
    unfold times at h
    rw [this] at h
    simp at h
  · exact ((times_ok h h1).2.2.2 a b rfl).1
theorem ri_set {N : List Nd} {K : List Int} (S p : Nat) (h : Ri N K) : GR K (addS S p N) := by
  have : Ri N (K ++ kids ⟨2, S, 0, 0, 0, 0⟩) := by rw [show kids ⟨2, S, 0, 0, 0, 0⟩ = [] from rfl, List.append_nil]; exact h
  exact this.add _ (by simp [sound])
theorem go_ri {l : List Nat} : ∀ (f : Nat) (md : Md) (o p : Nat) (ns : List Nd) (K : List Int), Ri ns (K ++ md.held) → GR K (go l f md o p ns) := by
  intro f
  induction f with
  | zero => intro md o p ns K _; unfold go; trivial
  | succ f ih =>
    intro md o p ns K h
    cases md with
    | pat =>
      unfold go
      exact (ih .bra o p ns K h).bind fun n p ns _ h1 => ih (.patL n) o p ns K h1
    | patL n =>
      unfold go
      split
      · refine (ih .bra o (p + 1) ns (K ++ [(n : Int)]) (by simpa [Md.held] using h)).bind fun m p ns _ h1 => ih (.patL ns.length) o p _ K ?_
        refine Ri.add ⟨4, 0, n, m, 0, 0⟩ ?_ (by simp [sound])
        simpa [kids] using h1
      · exact h
    | bra =>
      unfold go
      split
      · have : Ri ns (K ++ kids ⟨1, 0, 0, 0, 0, 0⟩) := h
        exact this.add _ (by simp [sound])
      · exact (ih .pie o p ns K h).bind fun n p ns _ h1 => ih (.braL n) o p ns K h1
    | braL n =>
      unfold go
      split
      · exact h
      · refine (ih .pie o p ns (K ++ [(n : Int)]) (by simpa [Md.held] using h)).bind fun m p ns _ h1 => ih (.braL ns.length) o p _ K ?_
        refine Ri.add ⟨3, 0, n, m, 0, 0⟩ ?_ (by simp [sound])
        simpa [kids] using h1
    | pie =>
      unfold go
      refine (ih .ato o p ns K h).bind fun n p ns _ h1 => ?_
      cases ht : times l p with
      | bad _ => trivial
      | ok x q =>
        cases x with
        | none => exact h1
        | some ab =>
          obtain ⟨a, b⟩ := ab
          have := times_count ht
          exact Ri.add ⟨5, 0, n, 0, a, b⟩ (by simpa [kids] using h1) (by simp [sound, this])
    | ato =>
      have h' : Ri ns K := by simpa [Md.held] using h
      unfold go
      split
      · split
        · trivial
        · refine (ih .pat (o + 1) (p + 1) ns K h).bind fun n p ns _ h1 => ?_
          split
          · exact h1
          · trivial
      · split
        · cases hc : cls l (p + 1) with
          | bad _ => trivial
          | ok S q => exact ri_set S q h'
        · split
          · exact ri_set _ _ h'
          · cases hc : single l marks p with
            | bad _ => trivial
            | ok S q => exact ri_set _ q h'
theorem prt_ri {l : List Nat} {p q : Nat} {ns ns' : List Nd} {ps ps' : List (Int × Bool)} (h : Ri ns (roots ps)) (e : prt l p ns ps = .ok q ns' ps') : Ri ns' (roots ps') := by
  unfold prt prtE at e
  generalize nots l (l.length + 1) false p = x at e
  have h1 := go_ri (l := l) (fl l) .pat 0 x.2 ns (roots ps) (by simpa [Md.held] using h)
  split at e
  · rename_i n p1 ns1 e1
    rw [e1] at h1
    injection e with _ e2 e3
    subst e2 e3
    simpa [roots, GR] using h1
  · cases e
theorem prtsL_ri {l : List Nat} : ∀ (f p : Nat) {q : Nat} {ns ns' : List Nd} {ps ps' : List (Int × Bool)}, Ri ns (roots ps) → prtsL l f p ns ps = .ok q ns' ps' → Ri ns' (roots ps')
  | 0, _, _, _, _, _, _, _, h => by unfold prtsL at h; cases h
  | f + 1, p, q, ns, ns', ps, ps', hr, h => by
    unfold prtsL at h
    split at h
    · split at h
      · cases h
      · split at h
        · rename_i h1
          exact prtsL_ri f _ (prt_ri hr h1) h
        · cases h
    · injection h with _ h1 h2
      subst h1 h2
      exact hr
theorem Ri.right {N : List Nd} {R : List (Int × Bool)} (h : Ri N (roots R)) (h1 : 1 ≤ R.length) (h20 : R.length ≤ 20) (h600 : N.length ≤ 600) : Right N R :=
  ⟨⟨h1, h20, h600⟩, h.snd, h.low, fun c hc => mem_toI.1 (h.per.mem_iff.1 (List.mem_append_right _ hc)), h.per.nodup_iff.2 (toI_nodup _), fun j hj => h.per.mem_iff.2 (mem_toI.2 ⟨by omega, by omega⟩)⟩
/-- What is told is right. -/
theorem cons_right {l : List Nat} (hl : ∀ x ∈ l, x < 256) {q : Nat} {ns : List Nd} {ps : List (Int × Bool)} (h : cons l = .ok q ns ps) : Right ns ps := by
  have hg := cons_good hl h
  have hp := cons_parts h
  refine Ri.right ?_ hp hg.2.2.2.1 (by omega)
  unfold cons at h
  split at h
  · cases h
  · split at h
    · cases h
    · rename_i h1
      split at h
      · cases h
      · rename_i h2
        have h3 := prt_ri Ri.nil h1
        have h4 := prtsL_ri _ _ h3 h2
        split at h
        · cases h
        · split at h
          · cases h
          · injection h with _ e1 e2
            subst e1 e2
            exact h4
/-- places by number, with fuel -/
def plF (N : List Nd) : Nat → Nat → Nat
  | 0, _ => 0
  | f + 1, i =>
    if (N.getD i default).k = 2 then 1
    else if (N.getD i default).k = 3 ∨ (N.getD i default).k = 4 then min (plF N f (N.getD i default).a.toNat + plF N f (N.getD i default).b.toNat) cap
    else if (N.getD i default).k = 5 then min (plF N f (N.getD i default).a.toNat * (if (N.getD i default).mx = -1 then 1 else (N.getD i default).mx.toNat)) cap
    else 0
theorem plF_two {N : List Nd} {f i : Nat} (h : (N.getD i default).k = 2) : plF N (f + 1) i = 1 := by rw [plF, if_pos h]
theorem plF_one {N : List Nd} {f i : Nat} (h : (N.getD i default).k = 5) : plF N (f + 1) i = min (plF N f (N.getD i default).a.toNat * (if (N.getD i default).mx = -1 then 1 else (N.getD i default).mx.toNat)) cap := by
  rw [plF, if_neg (by omega), if_neg (by omega), if_pos h]
theorem plF_kid {N : List Nd} {f i : Nat} (h : (N.getD i default).k = 3 ∨ (N.getD i default).k = 4) : plF N (f + 1) i = min (plF N f (N.getD i default).a.toNat + plF N f (N.getD i default).b.toNat) cap := by
  rw [plF, if_neg (by omega), if_pos h]
theorem plF_no {N : List Nd} {f i : Nat} (h2 : (N.getD i default).k ≠ 2) (h3 : ¬ ((N.getD i default).k = 3 ∨ (N.getD i default).k = 4)) (h5 : (N.getD i default).k ≠ 5) : plF N (f + 1) i = 0 := by
  rw [plF, if_neg h2, if_neg h3, if_neg h5]
theorem pl_plF (N : List Nd) : ∀ (t : T) (f : Nat), Is N t → t.root ≤ f → pl N t = plF N (f + 1) t.root := by
  intro t
  induction t with
  | leaf i =>
    intro f h hf
    obtain ⟨-, h2⟩ := h
    show (if (N.getD i default).k = 2 then 1 else 0) = plF N (f + 1) i
    unfold kids at h2
    by_cases h3 : (N.getD i default).k = 2
    · rw [if_pos h3, plF_two h3]
    · rw [if_neg h3]
      split at h2
      · cases h2
      · rename_i h4
        split at h2
        · cases h2
        · rename_i h5
          rw [plF_no h3 h4 h5]
  | one i a ih =>
    intro f h hf
    obtain ⟨-, h2, h3, h4⟩ := h
    simp only [T.root] at hf
    obtain ⟨f, rfl⟩ : ∃ g, f = g + 1 := ⟨f - 1, by omega⟩
    show min (pl N a * (if (N.getD i default).mx = -1 then 1 else (N.getD i default).mx.toNat)) cap = plF N (f + 1 + 1) i
    unfold kids at h2
    split at h2
    · simp at h2
    · split at h2
      · rename_i h6
        simp only [List.cons.injEq, and_true] at h2
        rw [plF_one h6, h2, Int.toNat_natCast, ← ih f h4 (by omega)]
      · cases h2
  | two i a b ih1 ih2 =>
    intro f h hf
    obtain ⟨-, h2, h3, h4, h5, h6⟩ := h
    simp only [T.root] at hf
    obtain ⟨f, rfl⟩ : ∃ g, f = g + 1 := ⟨f - 1, by omega⟩
    show min (pl N a + pl N b) cap = plF N (f + 1 + 1) i
    unfold kids at h2
    split at h2
    · rename_i h7
      simp only [List.cons.injEq, and_true] at h2
      rw [plF_kid h7, h2.1, h2.2, Int.toNat_natCast, Int.toNat_natCast, ← ih1 f h5 (by omega), ← ih2 f h6 (by omega)]
    · split at h2
      · simp at h2
      · cases h2
/-- places, so that they can be computed -/
def plC (N : List Nd) (R : List (Int × Bool)) : Nat := min (R.map fun p => plF N (p.1.toNat + 1) p.1.toNat).sum cap
theorem plOf_eq {N : List Nd} {R : List (Int × Bool)} (h : Right N R) : plOf N R = plC N R := by
  unfold plOf places plC
  rw [rightB_true h, if_pos rfl]
  congr 2
  refine List.map_congr_left (fun p hp => ?_)
  have h1 := h.rts p.1 (List.mem_map.2 ⟨p, hp, rfl⟩)
  obtain ⟨t, ht, hr⟩ := is_of_low h.low p.1.toNat (by omega)
  rw [← hr, tr_of ht, pl_plF N t t.root ht (Nat.le_refl _)]
/-- a constraint, so that it can be computed -/
def consC (l : List Nat) : P :=
  if 200 < l.length then .bad true 200 else match prt l 0 [] [] with
    | .bad lg p => .bad lg p
    | .ok p ns ps => match prtsL l (l.length + 1) p ns ps with
      | .bad lg p => .bad lg p
      | .ok p ns ps => if p < l.length then .bad false p else if 63 < plC ns ps then .bad true p else .ok p ns ps
theorem cons_eq {l : List Nat} (hl : ∀ x ∈ l, x < 256) : cons l = consC l := by
  unfold cons consC
  split
  · rfl
  · rename_i h200
    have hin : In2 l 0 [] [] (3 + 297) := ⟨⟨Nat.zero_le _, by rw [List.length_nil]; omega, by simp⟩, by simp, by simp⟩
    have hg := prt_good hl hin (by simp)
    cases h1 : prt l 0 [] [] with
    | bad _ _ => rfl
    | ok p1 ns1 ps1 =>
      rw [h1] at hg
      obtain ⟨-, h3, h4⟩ := hg
      have hg2 := prtsL_good hl (l.length + 1) (p := p1) (c := 297) (ns := ns1) (ps := ps1) h3
      simp only
      cases h2 : prtsL l (l.length + 1) p1 ns1 ps1 with
      | bad _ _ => rfl
      | ok p2 ns2 ps2 =>
        rw [h2] at hg2
        obtain ⟨-, h5⟩ := hg2
        have h6 := prt_parts h1
        have h7 := prtsL_parts _ _ h2
        have hr : Right ns2 ps2 := (prtsL_ri _ _ (prt_ri Ri.nil h1) h2).right (by omega) h5.few (by have := h5.inn.fit; omega)
        simp only
        rw [plOf_eq hr]
end Rx
end Go.Proofs.YtcgllipcnmlkbaaDoor
namespace Go.Proofs.YtcgllipcnmlkbaaDoor
open Go.RowKit Sets Tr Rx
theorem World.rangeAt_row {w : World} {g : Nat} {cs : List Value} {t : TypeId} {fr : Nat × Nat} (h : w.heap[g]? = some (.cells cs.toArray t fr)) : w.rangeAt g 0 cs := by
  intro j v hv
  simp only [World.cell?, h, Nat.zero_add, List.getElem?_toArray]
  exact hv
namespace Lt
theorem flat_get {α : Type} (f : α → List Value) (k : Nat) (hf : ∀ x, (f x).length = k) (d : α) (N : List α) : ∀ (i j : Nat), i < N.length → j < k → (N.flatMap f)[i * k + j]? = (f (N.getD i d))[j]? := by
  induction N with
  | nil => intro i j hi; simp at hi
  | cons x N ih =>
    intro i j hi hj
    rw [List.flatMap_cons]
    cases i with
    | zero => rw [Nat.zero_mul, Nat.zero_add, List.getElem?_append_left (by rw [hf]; exact hj)]; rfl
    | succ i =>
      rw [List.getElem?_append_right (by rw [hf, Nat.succ_mul]; omega)]
      have e : (i + 1) * k + j - (f x).length = i * k + j := by rw [hf, Nat.succ_mul]; omega
      rw [e, ih i j (by simpa using hi) hj]
      simp
theorem nd9_len (x : Nd) : (nd9 x).length = 9 := rfl
theorem pt2_len (x : Int × Bool) : (pt2 x).length = 2 := rfl
theorem nodes_lit (w : World) (N : List Nd) (hN : ∀ x ∈ N, NdOk x) (hl : N.length ≤ 700) (cs : Array Value) (hcs : cs = (N.flatMap nd9).toArray) : NodesAt (w.alloc (.cells cs 96)) (.slice (some ⟨w.heap.size, 0, none⟩) N.length N.length) N := by
  subst hcs
  refine ⟨hN, hl, _, _, rfl, fun i hi => ⟨w.heap.size, 0, rfl, fun j v hv => ?_⟩⟩
  have hj : j < 9 := by have := (List.getElem?_eq_some_iff.1 hv).1; rwa [nd9_len] at this
  rw [World.cell?_alloc_new, List.getElem?_toArray, Nat.zero_add, flat_get nd9 9 nd9_len default N i j hi hj]
  exact hv
theorem parts_lit (w : World) (R : List (Int × Bool)) (hR : ∀ x ∈ R, I64 x.1) (hl : R.length ≤ 30) (cs : Array Value) (hcs : cs = (R.flatMap pt2).toArray) : PartsAt (w.alloc (.cells cs 78)) (.slice (some ⟨w.heap.size, 0, none⟩) R.length R.length) R := by
  subst hcs
  refine ⟨hR, hl, _, _, rfl, fun i hi => ⟨w.heap.size, 0, rfl, fun j v hv => ?_⟩⟩
  have hj : j < 2 := by have := (List.getElem?_eq_some_iff.1 hv).1; rwa [pt2_len] at this
  rw [World.cell?_alloc_new, List.getElem?_toArray, Nat.zero_add, flat_get pt2 2 pt2_len default R i j hi hj]
  exact hv
instance (x : Int) : Decidable (I64 x) := inferInstanceAs (Decidable (_ ∧ _))
def okN (x : Nd) : Bool := decide (x.k < 256) && decide (x.s < 2 ^ 256) && decide (I64 x.a) && decide (I64 x.b) && decide (I64 x.mn) && decide (I64 x.mx)
theorem okN_all {N : List Nd} (h : N.all okN = true) : ∀ x ∈ N, NdOk x := by
  intro x hx
  have := List.all_eq_true.1 h x hx
  simp only [okN, Bool.and_eq_true, decide_eq_true_eq] at this
  obtain ⟨⟨⟨⟨⟨h1, h2⟩, h3⟩, h4⟩, h5⟩, h6⟩ := this
  exact ⟨h1, h2, h3, h4, h5, h6⟩
theorem bytes_lit (w : World) (E : List Nat) (hE : ∀ x ∈ E, x < 256) (cs : Array Value) (hcs : cs = (u8s E).toArray) (hl : E.length ≤ maxLen) : BytesAt (w.alloc (.cells cs 5)) (.slice (some ⟨w.heap.size, 0, none⟩) E.length E.length) E := by
  subst hcs
  refine ⟨hE, hl, _, _, rfl, fun i hi => ⟨w.heap.size, 0, rfl, ?_⟩⟩
  rw [Nat.zero_add, World.cell?_alloc_new, List.getElem?_toArray]
  unfold u8s
  rw [List.getElem?_map, List.getElem?_eq_getElem hi, List.getD_eq_getElem?_getD, List.getElem?_eq_getElem hi]
  rfl
end Lt
def awN : List Nd := [⟨2, ofN [97], 0, 0, 0, 0⟩, ⟨2, ofN [98], 0, 0, 0, 0⟩, ⟨5, 0, 1, 0, 0, -1⟩]
def awR : List (Int × Bool) := [(0, true), (2, false)]
theorem aw_cons : cons (by' ⟨#[33, 97, 38, 98, 42]⟩) = .ok 5 awN awR := by rw [cons_eq (by_lt _)]; kernel_rfl
theorem aw_bad : cons (by' ⟨#[97, 42, 42]⟩) = .bad false 2 := by rw [cons_eq (by_lt _)]; kernel_rfl
def awC : Array Value := #[.int .u8 2, .int .u64 (wd (ofN [97]) 0), .int .u64 (wd (ofN [97]) 1), .int .u64 (wd (ofN [97]) 2), .int .u64 (wd (ofN [97]) 3), .int .i64 0, .int .i64 0, .int .i64 0, .int .i64 0, .int .u8 2, .int .u64 (wd (ofN [98]) 0), .int .u64 (wd (ofN [98]) 1), .int .u64 (wd (ofN [98]) 2), .int .u64 (wd (ofN [98]) 3), .int .i64 0, .int .i64 0, .int .i64 0, .int .i64 0, .int .u8 5, .int .u64 0, .int .u64 0, .int .u64 0, .int .u64 0, .int .i64 1, .int .i64 0, .int .i64 0, .int .i64 (-1)]
theorem awC_eq : awC = (awN.flatMap nd9).toArray := by simp [awC, awN, nd9, wd_zero]
def awD : Array Value := #[.int .i64 0, .bool true, .int .i64 2, .bool false]
theorem awD_eq : awD = (awR.flatMap pt2).toArray := rfl
end Go.Proofs.YtcgllipcnmlkbaaDoor
namespace Go.Proofs.YtcgllipcnmlkbaaDoor
open Go.RowKit Sets Tr Rx
namespace Kn
def KL : List ByteArray := [⟨#[97, 42, 42]⟩, ⟨#[97, 124, 42]⟩, ⟨#[40, 97]⟩, ⟨#[97, 41]⟩, ⟨#[91, 97, 45, 93]⟩, ⟨#[91, 122, 45, 97, 93]⟩, ⟨#[97, 123, 50, 44, 49, 125]⟩, ⟨#[97, 92, 113]⟩, ⟨#[33, 97, 33, 98]⟩, ⟨#[91, 97]⟩, ⟨#[97, 123]⟩, ⟨#[97, 123, 49]⟩, ⟨#[97, 123, 49, 44]⟩, ⟨#[92, 120, 52]⟩, ⟨#[40, 97, 38, 98, 41]⟩, ⟨#[93]⟩, ⟨#[97, 123, 44, 50, 125]⟩, ⟨#[91, 97, 94, 93]⟩, ⟨#[92]⟩]
def KP : List Nat := [2, 2, 2, 1, 3, 3, 4, 1, 2, 2, 2, 3, 4, 0, 2, 0, 2, 2, 0]
def okK (k : Nat) : Bool := match consC (by' (KL.getD k ByteArray.empty)) with | .bad false q => q == KP.getD k 0 | _ => false
theorem kl_bad (k : Nat) (hk : k < 19) : cons (by' (KL.getD k ByteArray.empty)) = .bad false (KP.getD k 0) := by
  rw [cons_eq (by_lt _)]
  have h : ∀ j : Fin 19, okK j.val = true := by decide +kernel
  have := h ⟨k, hk⟩
  unfold okK at this
  revert this
  simp only
  cases consC (by' (KL.getD k ByteArray.empty)) with
  | ok _ _ _ => simp
  | bad lg q => cases lg <;> simp
theorem kp_lt (k : Nat) : KP.getD k 0 ≤ 4 := by
  rcases Nat.lt_or_ge k 19 with h | h
  · have : ∀ j : Fin 19, KP.getD j.val 0 ≤ 4 := by decide
    exact this ⟨k, h⟩
  · rw [List.getD_eq_getElem?_getD, List.getElem?_eq_none (by exact h)]
    decide
theorem kl_cell {w : World} {g : Nat} (h : w.rangeAt g 0 (KL.map Value.string)) (k : Nat) (hk : k < 19) : w.cell? ⟨g, k, none⟩ = some (.string (KL.getD k ByteArray.empty)) := by
  have := h k (.string (KL.getD k ByteArray.empty)) (by
    have hk' : k < KL.length := hk
    rw [List.getElem?_map, List.getElem?_eq_getElem hk', List.getD_eq_getElem?_getD, List.getElem?_eq_getElem hk']
    rfl)
  rwa [Nat.zero_add] at this
theorem kp_cell {w : World} {g : Nat} (h : w.rangeAt g 0 (KP.map fun n : Nat => Value.int .i64 n)) (k : Nat) (hk : k < 19) : w.cell? ⟨g, k, none⟩ = some (.int .i64 (KP.getD k 0 : Nat)) := by
  have := h k (.int .i64 (KP.getD k 0 : Nat)) (by
    have hk' : k < KP.length := hk
    rw [List.getElem?_map, List.getElem?_eq_getElem hk', List.getD_eq_getElem?_getD, List.getElem?_eq_getElem hk']
    rfl)
  rwa [Nat.zero_add] at this
def rep (k : Nat) : ByteArray := str (List.replicate k 97)
theorem rep_size (k : Nat) : (rep k).size = k := by unfold rep; rw [size_str, List.length_replicate]
theorem rep_succ (k : Nat) : rep k ++ ⟨#[97]⟩ = rep (k + 1) := by
  apply tx_inj
  rw [tx_append]
  unfold rep
  rw [tx_str, tx_str, List.replicate_succ']
  rfl
theorem rep_bad : cons (by' (rep 201)) = .bad true 200 := by
  unfold cons
  rw [if_pos (by rw [by_len, rep_size]; decide)]
theorem nine_bad : cons (by' ⟨#[97, 123, 57, 125, 97, 123, 57, 125, 97, 123, 57, 125, 97, 123, 57, 125, 97, 123, 57, 125, 97, 123, 57, 125, 97, 123, 57, 125, 97, 123, 57, 125]⟩) = .bad true 32 := by rw [cons_eq (by_lt _)]; kernel_rfl
theorem open_bad : cons (by' ⟨#[40, 40, 40, 40, 40, 40, 40, 40, 40, 40, 40, 40, 40, 40, 40, 40, 40, 97]⟩) = .bad true 16 := by rw [cons_eq (by_lt _)]; kernel_rfl
theorem parts_bad : cons (by' ⟨#[38, 38, 38, 38, 38, 38, 38, 38, 38, 38, 38, 38, 38, 38, 38, 38, 38, 38, 38, 38]⟩) = .bad true 19 := by rw [cons_eq (by_lt _)]; kernel_rfl
def emps : List Nd := List.replicate 20 ⟨1, 0, 0, 0, 0, 0⟩
def twenty : List (Int × Bool) := (List.range 20).map fun i : Nat => ((i : Int), false)
theorem by_cut (s : ByteArray) (n : Nat) : by' (s.extract 0 n) = (by' s).take n := by
  have : by' (s.extract 0 n) = (tx (s.extract 0 n)).map UInt8.toNat := rfl
  rw [this, tx_extract, Nat.sub_zero, List.drop_zero, List.map_take]
  rfl
theorem most_ok : cons (by' ((⟨#[38, 38, 38, 38, 38, 38, 38, 38, 38, 38, 38, 38, 38, 38, 38, 38, 38, 38, 38, 38]⟩ : ByteArray).extract 0 19)) = .ok 19 emps twenty := by
  rw [cons_eq (by_lt _), by_cut]; kernel_rfl
def upN : List Nd := [⟨2, rangeN 33 255, 0, 0, 0, 0⟩, ⟨5, 0, 0, 0, 2, 2⟩]
theorem up_ok : cons (by' ⟨#[91, 94, 92, 120, 48, 48, 45, 92, 120, 50, 48, 93, 123, 50, 125]⟩) = .ok 15 upN [(1, false)] := by rw [cons_eq (by_lt _)]; kernel_rfl
theorem no_ok : cons (by' ⟨#[]⟩) = .ok 0 [⟨1, 0, 0, 0, 0, 0⟩] [(0, false)] := by rw [cons_eq (by_lt _)]; kernel_rfl
def dotN : List Nd := [⟨2, ofN [46], 0, 0, 0, 0⟩, ⟨2, full, 0, 0, 0, 0⟩, ⟨4, 0, 0, 1, 0, 0⟩]
theorem dot_ok : cons (by' ⟨#[92, 46, 124, 46]⟩) = .ok 4 dotN [(2, false)] := by rw [cons_eq (by_lt _)]; kernel_rfl
theorem set_in {w : World} {b o : Nat} {x : Nd} (h : w.rangeAt b (o + 0 * 9) (nd9 x)) : w.rangeAt b (o + 1) [.int .u64 (wd x.s 0), .int .u64 (wd x.s 1), .int .u64 (wd x.s 2), .int .u64 (wd x.s 3)] := by
  intro j v hv
  have := h (j + 1) v (by rw [← hv]; unfold nd9; rcases j with _ | _ | _ | _ | j <;> first | rfl | (simp at hv))
  rw [show o + 0 * 9 + (j + 1) = o + 1 + j from by omega] at this
  exact this
theorem set_in1 {w : World} {b o : Nat} {x : Nd} (h : w.rangeAt b (o + 1 * 9) (nd9 x)) : w.rangeAt b (o + 9 + 1) [.int .u64 (wd x.s 0), .int .u64 (wd x.s 1), .int .u64 (wd x.s 2), .int .u64 (wd x.s 3)] := by
  intro j v hv
  have := h (j + 1) v (by rw [← hv]; unfold nd9; rcases j with _ | _ | _ | _ | j <;> first | rfl | (simp at hv))
  rw [show o + 1 * 9 + (j + 1) = o + 9 + 1 + j from by omega] at this
  exact this
theorem quiet_eql {C : World → Prop} {a : Act} {K : Act → Prop} {o : Oper} (ty t : TypeId) (x y : Operand) (ho : o.op = .binOp .eql ty x y t) (xs ys : Array Value) (hx : a.eval x = .agg xs) (hy : a.eval y = .agg ys) (hg : Tryd.prog.eqGuardType Tryd.prog.depth ty = false)
    (r : Bool) (hr : ∀ w, (Op.equalIn 10000 ty (.agg xs) (.agg ys)).run Tryd.prog w = .ok r w) (h : K (a.put o.dst (.bool r))) : o.quiet Tryd.prog a C K := by
  refine ⟨.bool r, fun w hw => ?_, h⟩
  unfold Oper.quietAt execOp
  simp only [ho, hx, hy, Sem.run_bind, run_eqGuard_agg w .eql ty x y _ _ hg, run_eql_struct, hr, Result.andThen_ok, Sem.run_pure]
  exact ⟨rfl, rfl⟩
theorem set_eq (S : Nat) (hS : S < 2 ^ 256) (w : World) : (Op.equalIn 10000 52 (.agg #[.int .u64 (wd S 0), .int .u64 (wd S 1), .int .u64 (wd S 2), .int .u64 (wd S 3)]) (.agg #[.int .u64 (wd S 0), .int .u64 (wd S 1), .int .u64 (wd S 2), .int .u64 (wd S 3)])).run Tryd.prog w = .ok true w := by
  simp only [eqSet, beq_words hS hS, decide_true]
theorem node_eq (X : Nd) (hS : X.s < 2 ^ 256) (w : World) : (Op.equalIn 10000 96 (.agg (nd9 X).toArray) (.agg (nd9 X).toArray)).run Tryd.prog w = .ok true w := by
  rw [eqNode X X hS hS, decide_eq_true rfl]
theorem nil_nodes (w : World) : NodesAt w (.slice none 0 0) [] := ⟨by simp, by simp, none, 0, rfl, fun i hi => by simp at hi⟩
theorem nil_parts (w : World) : PartsAt w (.slice none 0 0) [] := ⟨by simp, by simp, none, 0, rfl, fun i hi => by simp at hi⟩
theorem wp_eql_set {o : Oper} {a : Act} {w : World} {K : Act → World → Prop} {Q : Exit → Act → World → Prop} (x y : Operand) (t : TypeId)
    (ho : o.op = .binOp .eql 52 x y t) (S : Nat) (hx : a.eval x = .agg #[.int .u64 (wd S 0), .int .u64 (wd S 1), .int .u64 (wd S 2), .int .u64 (wd S 3)]) (hy : a.eval y = .agg #[.int .u64 (wd S 0), .int .u64 (wd S 1), .int .u64 (wd S 2), .int .u64 (wd S 3)]) (hS : S < 2 ^ 256)
    (h : K (a.put o.dst (.bool true)) w) : o.wp Tryd.prog a w K Q := by
  have hg : Tryd.prog.eqGuardType Tryd.prog.depth 52 = false := by kernel_rfl
  unfold Oper.wp execOp
  simp only [ho, hx, hy, Sem.run_bind, run_eqGuard_agg w .eql 52 x y _ _ hg, run_eql_struct, eqSet, beq_words hS hS, decide_true, Result.andThen_ok, Sem.run_pure]
  exact h
theorem wp_eql_node {o : Oper} {a : Act} {w : World} {K : Act → World → Prop} {Q : Exit → Act → World → Prop} (x y : Operand) (t : TypeId)
    (ho : o.op = .binOp .eql 96 x y t) (X : Nd) (hx : a.eval x = .agg (nd9 X).toArray) (hy : a.eval y = .agg (nd9 X).toArray) (hS : X.s < 2 ^ 256)
    (h : K (a.put o.dst (.bool true)) w) : o.wp Tryd.prog a w K Q := by
  have hg : Tryd.prog.eqGuardType Tryd.prog.depth 96 = false := by kernel_rfl
  unfold Oper.wp execOp
  simp only [ho, hx, hy, Sem.run_bind, run_eqGuard_agg w .eql 96 x y _ _ hg, run_eql_struct, eqNode X X hS hS, decide_true, Result.andThen_ok, Sem.run_pure]
  exact h
end Kn
end Go.Proofs.YtcgllipcnmlkbaaDoor
