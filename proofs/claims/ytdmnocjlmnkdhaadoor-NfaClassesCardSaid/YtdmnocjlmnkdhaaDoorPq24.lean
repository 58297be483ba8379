/- Several texts in one. -/
import Derived.Test.YtdmnocjlmnkdhaaDoorPq21
import Derived.Test.YtdmnocjlmnkdhaaDoorPq23
namespace Go.Proofs.YtdmnocjlmnkdhaaDoor
open Go.RowKit Sets Nf
namespace Nf
def Lies (w : World) (a : Option Addr) (xs : List Value) : Prop := (a = none → xs = []) ∧ ∀ ad, a = some ad → ∀ j u, xs[j]? = some u → w.cell? (ad.add j) = some u
theorem Lies.kept {w w' : World} {a : Option Addr} {xs : List Value} (h : Lies w a xs) (hb : Below w.heap.size w w') : Lies w' a xs := ⟨h.1, fun ad e j u hj => by
  have hc := h.2 ad e j u hj
  exact (hb.cell (World.block_lt_of_cell? _ _ hc)).trans hc⟩
theorem NumsIn.lies {w : World} {a : Option Addr} {l : List Int} (h : NumsIn w a l) : Lies w a (is64 l) := by
  refine ⟨fun e => ?_, fun ad e j u hj => ?_⟩
  · cases l with
    | nil => rfl
    | cons x l => obtain ⟨b, o, e2, -⟩ := h 0 (by simp); rw [e] at e2; cases e2
  · have hjl : j < l.length := by have := (List.getElem?_eq_some_iff.1 hj).1; rwa [is64_length] at this
    obtain ⟨b, o, e2, hc⟩ := h j hjl
    rw [e] at e2
    injection e2 with e2
    subst e2
    rw [Addr.add_lit, hc, ← hj]
    unfold is64
    rw [List.getElem?_map, List.getElem?_eq_getElem hjl, List.getD_eq_getElem?_getD, List.getElem?_eq_getElem hjl]; rfl
theorem bL_length (l : List Bool) : (bL l).length = l.length := List.length_map _
theorem spL_length (L : List (Nat × Nat)) : (spL L).length = L.length * 5 := by
  induction L with
  | nil => rfl
  | cons s L ih => unfold spL at *; rw [List.flatMap_cons, List.length_append, ih, sp5_len, List.length_cons]; omega
theorem BoolsIn.lies {w : World} {a : Option Addr} {l : List Bool} (h : BoolsIn w a l) : Lies w a (bL l) := by
  refine ⟨fun e => ?_, fun ad e j u hj => ?_⟩
  · cases l with
    | nil => rfl
    | cons x l => obtain ⟨b, o, e2, -⟩ := h 0 (by simp); rw [e] at e2; cases e2
  · have hjl : j < l.length := by have := (List.getElem?_eq_some_iff.1 hj).1; rwa [bL_length] at this
    obtain ⟨b, o, e2, hc⟩ := h j hjl
    rw [e] at e2
    injection e2 with e2
    subst e2
    rw [Addr.add_lit, hc, ← hj, bL_get _ _ hjl]
theorem SpotsIn.lies {w : World} {a : Option Addr} {l : List (Nat × Nat)} (h : SpotsIn w a l) : Lies w a (spL l) := by
  refine ⟨fun e => ?_, fun ad e j u hj => ?_⟩
  · cases l with
    | nil => rfl
    | cons x l => obtain ⟨b, o, e2, -⟩ := h 0 (by simp); rw [e] at e2; cases e2
  · have hjl : j < l.length * 5 := by have := (List.getElem?_eq_some_iff.1 hj).1; rwa [spL_length] at this
    have hi : j / 5 < l.length := by omega
    obtain ⟨b, o, e2, hc⟩ := h (j / 5) hi
    rw [e] at e2
    injection e2 with e2
    subst e2
    have hg := spL_get l (j / 5) hi (j % 5) (by omega)
    rw [show j / 5 * 5 + j % 5 = j from by omega, hj] at hg
    have := hc (j % 5) u hg.symm
    rw [Addr.add_lit, show o + j = o + j / 5 * 5 + j % 5 from by omega]
    exact this
theorem is64_one (l : List Int) : ∀ u ∈ is64 l, u.oneCell' = true := fun u hu => by
  obtain ⟨x, -, rfl⟩ := List.mem_map.1 hu; rfl
theorem bL_one (l : List Bool) : ∀ u ∈ bL l, u.oneCell' = true := fun u hu => by
  obtain ⟨x, -, rfl⟩ := List.mem_map.1 hu; rfl
theorem spL_one (l : List (Nat × Nat)) : ∀ u ∈ spL l, u.oneCell' = true := fun u hu => by
  unfold spL at hu
  obtain ⟨x, -, h⟩ := List.mem_flatMap.1 hu
  simp [sp5] at h
  rcases h with rfl | rfl | rfl | rfl | rfl <;> rfl
theorem own_newN (w : World) : (w.alloc (.cells #[] 3)).ownsRow w.heap.size 3 1 (.slice (some ⟨w.heap.size, 0, none⟩) 0 0) 0 ([] : List Value) :=
  World.ownsRow_made w #[] 0 (Nat.le_refl _) (by simp) (by simp)
theorem own_newS (w : World) : (w.alloc (.cells #[] 54)).ownsRow w.heap.size 54 5 (.slice (some ⟨w.heap.size, 0, none⟩) 0 0) 0 ([] : List Value) :=
  World.ownsRow_made w #[] 0 (Nat.le_refl _) (by simp) (by simp)
theorem own_newB (w : World) : (w.alloc (.cells #[] 4)).ownsRow w.heap.size 4 1 (.slice (some ⟨w.heap.size, 0, none⟩) 0 0) 0 ([] : List Value) :=
  World.ownsRow_made w #[] 0 (Nat.le_refl _) (by simp) (by simp)
end Nf
end Go.Proofs.YtdmnocjlmnkdhaaDoor
namespace Go.Proofs.YtdmnocjlmnkdhaaDoor
open Go.RowKit Sets Nf
namespace Df
/-- The cells of an automaton. -/
def dfC (of : Nat → Nat) (n : Int) (nv fv : Value) : Array Value := (ofL of ++ [Value.int .i64 n, nv, fv]).toArray
def nilS : Value := .slice none 0 0
theorem dfC_size (of : Nat → Nat) (n : Int) (nv fv : Value) : (dfC of n nv fv).size = 259 := by simp [dfC, ofL_length]
theorem dfC_get (of : Nat → Nat) (n : Int) (nv fv : Value) (c : Nat) (h : c < 256) : (dfC of n nv fv)[c]? = some (.int .u8 (of c)) := by
  unfold dfC
  rw [List.getElem?_toArray, List.getElem?_append_left (by rw [ofL_length]; exact h), ofL_get of c h]
theorem dfC_hi (of : Nat → Nat) (n : Int) (nv fv : Value) (c : Nat) : (dfC of n nv fv)[256 + c]? = [Value.int .i64 n, nv, fv][c]? := by
  unfold dfC
  rw [List.getElem?_toArray, List.getElem?_append_right (by rw [ofL_length]; omega), ofL_length, show 256 + c - 256 = c from by omega]
theorem dfC_n (of : Nat → Nat) (n : Int) (nv fv : Value) : (dfC of n nv fv)[256]? = some (.int .i64 n) := dfC_hi of n nv fv 0
theorem dfC_nv (of : Nat → Nat) (n : Int) (nv fv : Value) : (dfC of n nv fv)[257]? = some nv := dfC_hi of n nv fv 1
theorem dfC_fv (of : Nat → Nat) (n : Int) (nv fv : Value) : (dfC of n nv fv)[258]? = some fv := dfC_hi of n nv fv 2
theorem dfC_setN (of : Nat → Nat) (n : Int) (nv fv v : Value) : (dfC of n nv fv).setIfInBounds 257 v = dfC of n v fv := by
  unfold dfC
  rw [List.setIfInBounds_toArray, List.set_append_right _ _ (by rw [ofL_length]; omega), ofL_length]
  rfl
theorem dfC_setF (of : Nat → Nat) (n : Int) (nv fv v : Value) : (dfC of n nv fv).setIfInBounds 258 v = dfC of n nv v := by
  unfold dfC
  rw [List.setIfInBounds_toArray, List.set_append_right _ _ (by rw [ofL_length]; omega), ofL_length]
  rfl
theorem ofL_zero : ofL (fun _ => 0) = List.replicate 256 (Value.int .u8 0) := by unfold ofL; rw [List.map_const', List.length_range]; rfl
theorem oneDf (of : Nat → Nat) (n : Int) (a b : Option Addr) (k l c d : Nat) : (dfC of n (.slice a k c) (.slice b l d)).all (·.oneCell') = true := by
  rw [Array.all_eq_true_iff_forall_mem]
  intro v hv
  simp [dfC, ofL] at hv
  rcases hv with ⟨c, -, rfl⟩ | rfl | rfl | rfl <;> rfl
/-- The next states R in slices of their own, from B on; the final ones F too. -/
structure OwnD (B : Nat) (w : World) (R : List (List Int)) (F : List Bool) (nv fv : Value) (vs : List Value) : Prop where
  nx : w.ownsRow B 23 1 nv R.length vs
  len : vs.length = R.length
  each : ∀ i, i < R.length → OwnN B w (vs.getD i nilS) (R.getD i [])
  fl : w.ownsRow B 4 1 fv F.length (bL F)
theorem OwnD.nil (B : Nat) (w : World) : OwnD B w [] [] nilS nilS [] := ⟨World.ownsRow_nil _ _ _ _, rfl, fun _ hi => absurd hi (Nat.not_lt_zero _), World.ownsRow_nil _ _ _ _⟩
theorem OwnD.kept {B : Nat} {w w' : World} {R : List (List Int)} {F : List Bool} {nv fv : Value} {vs : List Value} (h : OwnD B w R F nv fv vs)
    (hk : ∀ (k : Nat) (cs : Array Value) (t : TypeId), w.heap[k]? = some (Obj.cells cs t (0, 0)) → t = 23 ∨ t = 3 ∨ t = 4 → w'.heap[k]? = w.heap[k]?) : OwnD B w' R F nv fv vs := by
  refine ⟨own_kept h.nx fun g hg => ?_, h.len, fun i hi => own_kept (h.each i hi) fun g hg => ?_, own_kept h.fl fun g hg => ?_⟩
  · obtain ⟨cs, hc⟩ := own_type h.nx hg; exact hk g cs _ hc (.inl rfl)
  · obtain ⟨cs, hc⟩ := own_type (h.each i hi) hg; exact hk g cs _ hc (.inr (.inl rfl))
  · obtain ⟨cs, hc⟩ := own_type h.fl hg; exact hk g cs _ hc (.inr (.inr rfl))
theorem OwnD.stay {B : Nat} {w w' : World} {R : List (List Int)} {F : List Bool} {nv fv : Value} {vs : List Value} (h : OwnD B w R F nv fv vs) (hb : Below w.heap.size w w') : OwnD B w' R F nv fv vs :=
  h.kept fun k _ _ hc _ => hb.block k (Array.getElem?_eq_some_iff.1 hc).1
/-- All below B stays, but for the purse's block. -/
structure BelP (p : Option (Nat × Nat)) (B : Nat) (w w' : World) : Prop where
  os : w'.os = w.os
  tape : w'.tape = w.tape
  output : w'.output = w.output
  size : w.heap.size ≤ w'.heap.size
  block : ∀ k, k < B → (∀ q, p = some q → q.1 ≠ k) → w'.heap[k]? = w.heap[k]?
theorem BelP.refl (p : Option (Nat × Nat)) (B : Nat) (w : World) : BelP p B w w := ⟨rfl, rfl, rfl, Nat.le_refl _, fun _ _ _ => rfl⟩
theorem BelP.trans {p : Option (Nat × Nat)} {B : Nat} {w w1 w2 : World} (h : BelP p B w w1) (k : BelP p B w1 w2) : BelP p B w w2 :=
  ⟨k.os.trans h.os, k.tape.trans h.tape, k.output.trans h.output, Nat.le_trans h.size k.size, fun i hi hn => (k.block i hi hn).trans (h.block i hi hn)⟩
theorem BelP.of_below {p : Option (Nat × Nat)} {B : Nat} {w w' : World} (h : Below B w w') : BelP p B w w' := ⟨h.os, h.tape, h.output, h.size, fun k hk _ => h.block k hk⟩
theorem BelP.below {B : Nat} {w w' : World} (h : BelP none B w w') : Below B w w' := ⟨h.os, h.tape, h.output, h.size, fun k hk => h.block k hk (fun q hq => by cases hq)⟩
/-- A row that grows class by class. -/
def rowCl {σ : Type} [DecidableEq σ] (f : Nat → σ) (L : List σ) (nc c : Nat) : List Int := (List.range nc).map fun d => if d < c then ((ix (puts f L c) (f d) : Nat) : Int) else 0
section
variable {σ : Type} [DecidableEq σ]
theorem rowCl_len (f : Nat → σ) (L : List σ) (nc c : Nat) : (rowCl f L nc c).length = nc := by unfold rowCl; simp
theorem rowCl_all (f : Nat → σ) (L : List σ) (nc : Nat) : rowCl f L nc nc = rowTo f L nc := by
  unfold rowCl rowTo
  exact List.map_congr_left fun d hd => if_pos (List.mem_range.1 hd)
theorem rowCl_zero (f : Nat → σ) (L : List σ) (nc : Nat) : rowCl f L nc 0 = List.replicate nc 0 := by
  unfold rowCl
  rw [List.map_congr_left (g := fun _ => (0 : Int)) (fun d _ => if_neg (Nat.not_lt_zero d)), List.map_const', List.length_range]
theorem rowCl_get (f : Nat → σ) (L : List σ) (nc c d : Nat) : (rowCl f L nc c)[d]? = if d < nc then some (if d < c then ((ix (puts f L c) (f d) : Nat) : Int) else 0) else none := by
  unfold rowCl
  rw [List.getElem?_map]
  by_cases h : d < nc
  · rw [List.getElem?_range h, if_pos h]; rfl
  · rw [if_neg h, List.getElem?_eq_none (by simp; omega)]; rfl
theorem rowCl_set (f : Nat → σ) (L : List σ) (nc c : Nat) (h : c < nc) : (rowCl f L nc c).set c ((ix (puts f L c) (f c) : Nat) : Int) = rowCl f L nc (c + 1) := by
  apply List.ext_getElem?
  intro i
  rw [List.getElem?_set, rowCl_len, rowCl_get, rowCl_get]
  by_cases e : c = i
  · subst e
    rw [if_pos rfl, if_pos h, if_pos h, if_pos (Nat.lt_succ_self c)]
    have : ix (puts f L (c + 1)) (f c) = ix (puts f L c) (f c) := ix_put _ _
    rw [this]
  · rw [if_neg e]
    by_cases hi : i < nc
    · rw [if_pos hi, if_pos hi]
      by_cases e2 : i < c
      · rw [if_pos e2, if_pos (by omega), ix_puts f L c i e2]
      · rw [if_neg e2, if_neg (by omega)]
    · rw [if_neg hi, if_neg hi]
end
theorem is64_set (l : List Int) (i : Nat) (k : Int) : (is64 l).set i (.int .i64 k) = is64 (l.set i k) := by unfold is64; rw [List.map_set]
theorem is64_zero (n : Nat) : is64 (List.replicate n 0) = (madeCells #[.int .i64 0] n).toList := by
  unfold is64
  rw [List.map_replicate]
  simp [madeCells, Nat.mod_one, List.map_const']
end Df
end Go.Proofs.YtdmnocjlmnkdhaaDoor
