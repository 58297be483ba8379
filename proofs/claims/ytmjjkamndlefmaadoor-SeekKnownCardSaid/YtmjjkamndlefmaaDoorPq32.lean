/- The reader of a machine in the making. -/
import Derived.Test.YtmjjkamndlefmaaDoorPq24
import Derived.Test.YtmjjkamndlefmaaDoorPq12
import Derived.Test.YtmjjkamndlefmaaDoorPq19
import Derived.Deep.Cut
import Derived.Deep.CutRange
namespace Go.Proofs.YtmjjkamndlefmaaDoor
open Go.RowKit Sets Nf Cls
namespace Df
def rdQ (gv : Value) (g nc fi la : Nat) (em : Bool) : Array Value := #[.int .u64 (wd fi 0), .int .u64 (wd fi 1), .int .u64 (wd fi 2), .int .u64 (wd fi 3), gv, .slice (some ⟨g, 0, none⟩) nc nc, .int .u64 (wd la 0), .int .u64 (wd la 1), .int .u64 (wd la 2), .int .u64 (wd la 3), .bool em]
def rdZ : Array Value := #[.int .u64 0, .int .u64 0, .int .u64 0, .int .u64 0, .slice none 0 0, .slice none 0 0, .int .u64 0, .int .u64 0, .int .u64 0, .int .u64 0, .bool false]
structure RdI (w0 : World) (s : Nat) (x : Ma) (m : Mc) (of : Nat → Nat) (nc q g : Nat) (gv : Value) (G H : List Nat) (la : Nat) (W : World) : Prop where
  mach : BoxM W s x m
  part : PartAt W (s + 1) of nc
  res : W.heap[s + 1 + 1]? = some (.cells rdZ 82 (0, 0))
  box : W.heap[q]? = some (.cells (rdQ gv g nc (grp m.fi) la m.em) 82 (0, 0))
  own : W.ownsRow s 54 4 gv G.length (setsL G)
  has : GsB W g H
  hl : H.length = nc
  low : s + 1 + 1 < q ∧ s + 1 + 1 < g
  ne : gv.ownBlock ≠ some g
  bel : Below s w0 W
section
variable {w0 W W' : World} {s : Nat} {x : Ma} {m : Mc} {of : Nat → Nat} {nc q g : Nat} {gv : Value} {G H : List Nat} {la : Nat}
theorem RdI.size (h : RdI w0 s x m of nc q g gv G H la W) : s ≤ W.heap.size := Nat.le_of_lt h.mach.lt
theorem RdI.qlt (h : RdI w0 s x m of nc q g gv G H la W) : q < W.heap.size := (Array.getElem?_eq_some_iff.1 h.box).1
theorem RdI.gty (h : RdI w0 s x m of nc q g gv G H la W) : ∃ cs, W.heap[g]? = some (.cells cs 54 (0, 0)) := by
  obtain ⟨cs, h1, -⟩ := h.has
  exact ⟨cs, h1⟩
theorem RdI.gq (h : RdI w0 s x m of nc q g gv G H la W) : g ≠ q := fun e => by
  obtain ⟨cs, h1⟩ := h.gty
  rw [e, h.box] at h1; injection h1 with h1; injection h1 with _ h1; exact absurd h1 (by decide)
theorem RdI.oq (h : RdI w0 s x m of nc q g gv G H la W) : gv.ownBlock ≠ some q := fun e => by
  obtain ⟨cs, h1⟩ := own_type h.own e
  rw [h.box] at h1; injection h1 with h1; injection h1 with _ h1; exact absurd h1 (by decide)
theorem RdI.os (h : RdI w0 s x m of nc q g gv G H la W) : gv.ownBlock ≠ some s ∧ gv.ownBlock ≠ some (s + 1) ∧ gv.ownBlock ≠ some (s + 1 + 1) := by
  refine ⟨fun e => ?_, fun e => ?_, fun e => ?_⟩
  · obtain ⟨cs, h1⟩ := own_type h.own e
    rw [h.mach.row] at h1; injection h1 with h1; injection h1 with _ h1; exact absurd h1 (by decide)
  · obtain ⟨cs, h1⟩ := own_type h.own e
    have h2 : W.heap[s + 1]? = _ := h.part
    rw [h2] at h1; injection h1 with h1; injection h1 with _ h1; exact absurd h1 (by decide)
  · obtain ⟨cs, h1⟩ := own_type h.own e
    rw [h.res] at h1; injection h1 with h1; injection h1 with _ h1; exact absurd h1 (by decide)
theorem RdI.stay (h : RdI w0 s x m of nc q g gv G H la W) (hb : Below W.heap.size W W') : RdI w0 s x m of nc q g gv G H la W' :=
  ⟨h.mach.kept hb h.mach.lt, h.part.kept hb h.part.lt, (hb.block _ (Array.getElem?_eq_some_iff.1 h.res).1).trans h.res, (hb.block _ h.qlt).trans h.box, own_stay h.own hb, h.has.stay hb, h.hl, h.low, h.ne, h.bel.trans (hb.mono h.size)⟩
theorem RdI.pushG (h : RdI w0 s x m of nc q g gv G H la W) {gv' : Value} {S : Nat} (ho : W'.ownsRow s 54 4 gv' (G.length + 1) (setsL G ++ set4 S)) (hb : Below s W W') (ha : Ap W gv W' gv') :
    RdI w0 s x m of nc q g gv' (G ++ [S]) H la (W'.setCell ⟨q, 4, none⟩ gv') := by
  have hset : ∀ k, k ≠ q → (W'.setCell ⟨q, 4, none⟩ gv').heap[k]? = W'.heap[k]? := fun k hk => Below.heap_setCell W' ⟨q, 4, none⟩ gv' k hk
  have hk : ∀ k, k < W.heap.size → gv.ownBlock ≠ some k → k ≠ q → (W'.setCell ⟨q, 4, none⟩ gv').heap[k]? = W.heap[k]? := fun k h1 h2 h3 => (hset k h3).trans (ha.block k h1 h2)
  have hbq := (ha.block q h.qlt h.oq).trans h.box
  have hlow := h.low
  refine ⟨⟨(hk s h.mach.lt h.os.1 (by omega)).trans h.mach.row⟩, (hk _ h.part.lt h.os.2.1 (by omega)).trans h.part, (hk _ (Array.getElem?_eq_some_iff.1 h.res).1 h.os.2.2 (by omega)).trans h.res, ?_, ?_, h.has.of (hk g h.has.lt h.ne h.gq), h.hl, h.low, fun e => ?_, (h.bel.trans hb).setCell (by show s ≤ q; omega) _⟩
  · rw [heap_setCell_same _ _ _ _ _ _ hbq]; rfl
  · rw [List.length_append, List.length_singleton, show setsL (G ++ [S]) = setsL G ++ set4 S from by unfold setsL; simp]
    refine own_kept ho fun k hg => hset k (fun e => ?_)
    obtain ⟨cs, h1⟩ := own_type ho hg
    rw [e, hbq] at h1; injection h1 with h1; injection h1 with _ h1; exact absurd h1 (by decide)
  · rcases ha.own g e with h1 | h1
    · exact h.ne h1
    · have := h.has.lt; omega
theorem RdI.setH (h : RdI w0 s x m of nc q g gv G H la W) {i : Nat} (hi : i < nc) (T : Nat) : RdI w0 s x m of nc q g gv G (H.set i T) la (W.setCells g (i * 4) (setC T).toList) := by
  have hb := But.cells4 g (i * 4) W T
  have hlow := h.low
  refine ⟨⟨(hb.block s h.mach.lt (by omega)).trans h.mach.row⟩, (hb.block _ h.part.lt (by omega)).trans h.part, (hb.block _ (Array.getElem?_eq_some_iff.1 h.res).1 (by omega)).trans h.res, (hb.block q h.qlt h.gq.symm).trans h.box, own_kept h.own fun k hk => hb.block k (h.own.lt k hk).2 (fun e => h.ne (e ▸ hk)), h.has.set (by rw [h.hl]; exact hi) T, by rw [List.length_set]; exact h.hl, h.low, h.ne, But.below h.bel hb (by omega) h.size⟩
theorem RdI.setL (h : RdI w0 s x m of nc q g gv G H la W) (T : Nat) : RdI w0 s x m of nc q g gv G H T (W.setCells q 6 (setC T).toList) := by
  have hb := But.cells4 q 6 W T
  have hlow := h.low
  refine ⟨⟨(hb.block s h.mach.lt (by omega)).trans h.mach.row⟩, (hb.block _ h.part.lt (by omega)).trans h.part, (hb.block _ (Array.getElem?_eq_some_iff.1 h.res).1 (by omega)).trans h.res, ?_, own_kept h.own fun k hk => hb.block k (h.own.lt k hk).2 (fun e => h.oq (e ▸ hk)), h.has.of (hb.block g h.has.lt h.gq), h.hl, h.low, h.ne, But.below h.bel hb (by omega) h.size⟩
  · show ((((W.setCell ⟨q, 6, none⟩ (.int .u64 (wd T 0))).setCell ⟨q, 6 + 1, none⟩ (.int .u64 (wd T 1))).setCell ⟨q, 6 + 1 + 1, none⟩ (.int .u64 (wd T 2))).setCell ⟨q, 6 + 1 + 1 + 1, none⟩ (.int .u64 (wd T 3))).heap[q]? = _
    rw [heap_setCell_same _ _ _ _ _ _ (heap_setCell_same _ _ _ _ _ _ (heap_setCell_same _ _ _ _ _ _ (heap_setCell_same _ _ _ _ _ _ h.box)))]
    rfl
theorem RdI.there (h : RdI w0 s x m of nc q g gv G H la W) (T : Nat) : W.there q 6 (setC T).size := by
  intro j hj
  have hj : j < 4 := hj
  refine ⟨?_, frozen_of_row W q _ _ _ h.box⟩
  rw [cell_of_row W q (6 + j) _ _ _ h.box]
  have : j = 0 ∨ j = 1 ∨ j = 2 ∨ j = 3 := by omega
  rcases this with rfl | rfl | rfl | rfl <;> rfl
theorem RdI.rla (h : RdI w0 s x m of nc q g gv G H la W) : W.rangeAt q 6 (setC la).toList := by
  intro j v hv
  have hj : j < 4 := by have := (List.getElem?_eq_some_iff.1 hv).1; simpa [setC] using this
  rw [cell_of_row W q (6 + j) _ _ _ h.box, ← hv]
  have : j = 0 ∨ j = 1 ∨ j = 2 ∨ j = 3 := by omega
  rcases this with rfl | rfl | rfl | rfl <;> rfl
end
/-- The spots of m, of the first k, whose sets have the byte b. -/
def hasK (m : Mc) (b : Nat) : Nat → Nat
  | 0 => 0
  | k + 1 => if (stN m k).testBit b then hasK m b k ||| 2 ^ k else hasK m b k
def lowB (of : Nat → Nat) (c : Nat) : Nat := (listN (clsSet of 256 c)).getD 0 0
def hasN (m : Mc) (of : Nat → Nat) (c : Nat) : Nat := hasK m (lowB of c) m.sp.length
def hasTo (m : Mc) (of : Nat → Nat) (nc c : Nat) : List Nat := (List.range nc).map fun d => if d < c then hasN m of d else 0
def lastK (m : Mc) : Nat → Nat
  | 0 => 0
  | k + 1 => if m.la.getD k false then lastK m k ||| 2 ^ k else lastK m k
def rdOf (m : Mc) (of : Nat → Nat) (nc : Nat) : Rd := ⟨grp m.fi, m.fo.map grp, (List.range nc).map (hasN m of), lastK m m.la.length, m.em⟩
theorem hasTo_len (m : Mc) (of : Nat → Nat) (nc c : Nat) : (hasTo m of nc c).length = nc := by unfold hasTo; simp
theorem hasTo_get (m : Mc) (of : Nat → Nat) (nc c d : Nat) : (hasTo m of nc c)[d]? = if d < nc then some (if d < c then hasN m of d else 0) else none := by
  unfold hasTo
  rw [List.getElem?_map]
  by_cases h : d < nc
  · rw [List.getElem?_range h, if_pos h]; rfl
  · rw [if_neg h, List.getElem?_eq_none (by simp; omega)]; rfl
theorem hasTo_zero (m : Mc) (of : Nat → Nat) (nc : Nat) : hasTo m of nc 0 = List.replicate nc 0 := by
  unfold hasTo
  rw [List.map_congr_left (g := fun _ => 0) (fun d _ => if_neg (Nat.not_lt_zero d)), List.map_const', List.length_range]
theorem hasTo_all (m : Mc) (of : Nat → Nat) (nc : Nat) : hasTo m of nc nc = (List.range nc).map (hasN m of) := by
  unfold hasTo
  exact List.map_congr_left fun d hd => if_pos (List.mem_range.1 hd)
theorem hasTo_set0 (m : Mc) (of : Nat → Nat) (nc c : Nat) : (hasTo m of nc c).set c 0 = hasTo m of nc c := by
  apply List.ext_getElem?
  intro i
  rw [List.getElem?_set, hasTo_len, hasTo_get]
  by_cases e : c = i
  · subst e
    by_cases h : c < nc
    · rw [if_pos rfl, if_pos h, if_pos h, if_neg (Nat.lt_irrefl c)]
    · rw [if_pos rfl, if_neg h, if_neg h]
  · rw [if_neg e]
theorem hasTo_set (m : Mc) (of : Nat → Nat) (nc c : Nat) (h : c < nc) : (hasTo m of nc c).set c (hasN m of c) = hasTo m of nc (c + 1) := by
  apply List.ext_getElem?
  intro i
  rw [List.getElem?_set, hasTo_len, hasTo_get, hasTo_get]
  by_cases e : c = i
  · subst e
    rw [if_pos rfl, if_pos h, if_pos h, if_pos (Nat.lt_succ_self c)]
  · rw [if_neg e]
    by_cases hi : i < nc
    · rw [if_pos hi, if_pos hi]
      by_cases e2 : i < c
      · rw [if_pos e2, if_pos (by omega)]
      · rw [if_neg e2, if_neg (by omega)]
    · rw [if_neg hi, if_neg hi]
theorem bytes_first {w : World} {v : Value} {b : Nat} (h : BytesAt w v [b]) : ∃ bb oo c, v = .slice (some ⟨bb, oo, none⟩) 1 c ∧ w.cell? ⟨bb, oo, none⟩ = some (.int .u8 b) := by
  obtain ⟨-, -, a, c, rfl, hc⟩ := h
  obtain ⟨bb, oo, rfl, h1⟩ := hc 0 (by simp)
  exact ⟨bb, oo, c, rfl, by simpa using h1⟩
theorem rgo_hit (of : Nat → Nat) : ∀ c k, rgo of c = some k → ∀ j, j < k → ∃ d, d < c ∧ of d = j
  | 0, k, h, j, hj => by simp [rgo] at h; omega
  | c + 1, k, h, j, hj => by
    simp only [rgo] at h
    cases hq : rgo of c with
    | none => rw [hq] at h; cases h
    | some n =>
      have ih := rgo_hit of c n hq
      rw [hq] at h
      simp only at h
      split at h
      · cases h
      · split at h
        · injection h with h
          by_cases e : j < n
          · obtain ⟨d, hd, hj⟩ := ih j e
            exact ⟨d, by omega, hj⟩
          · exact ⟨c, by omega, by omega⟩
        · injection h with h
          obtain ⟨d, hd, hj⟩ := ih j (by omega)
          exact ⟨d, by omega, hj⟩
/-- Each class of a right partition has a least byte. -/
theorem low_one {of : Nat → Nat} {nc c : Nat} (hp : prightB of nc = true) (hc : c < nc) : (listN (clsSet of 256 c)).take (1 : Int).toNat = [lowB of c] ∧ lowB of c < 256 ∧ of (lowB of c) = c := by
  have hh : ∃ d, d < 256 ∧ of d = c := by
    unfold prightB at hp
    cases hq : rgo of 256 with
    | none => rw [hq] at hp; cases hp
    | some k =>
      rw [hq] at hp
      simp only [beq_iff_eq] at hp
      exact rgo_hit of 256 k hq c (by omega)
  obtain ⟨d, hd, hdc⟩ := hh
  have hm : d ∈ listN (clsSet of 256 c) := (mem_listN _ _).2 ⟨hd, by rw [clsSet_bit]; simp [hd, hdc]⟩
  unfold lowB
  cases hl : listN (clsSet of 256 c) with
  | nil => rw [hl] at hm; cases hm
  | cons y l =>
    have hy : y ∈ listN (clsSet of 256 c) := by rw [hl]; exact List.mem_cons_self ..
    have h1 := (mem_listN _ _).1 hy
    rw [clsSet_bit] at h1
    simp only [Bool.and_eq_true, decide_eq_true_iff, beq_iff_eq] at h1
    exact ⟨rfl, h1.1, h1.2.2⟩
theorem gs_u8 {w : World} {g b o k : Nat} {H : List Nat} (h : GsB w g H) (hc : w.cell? ⟨b, o, none⟩ = some (.int .u8 k)) : b ≠ g := by
  rintro rfl
  obtain ⟨cs, h1, h2, h3⟩ := h
  rw [cell_of_row w b o _ _ _ h1] at hc
  have ho : o < cs.size := (Array.getElem?_eq_some_iff.1 hc).1
  have h4 := h3 o (by omega)
  rw [h4] at hc
  injection hc with hc
  injection hc with hc _
  exact absurd hc (by decide)
theorem bytes_but {w w' : World} {g : Nat} {H : List Nat} {v : Value} {l : List Nat} (hg : GsB w g H) (h : BytesAt w v l) (hb : But g w w') : BytesAt w' v l := by
  obtain ⟨h1, h2, a, cap, h3, h4⟩ := h
  refine ⟨h1, h2, a, cap, h3, fun i hi => ?_⟩
  obtain ⟨b, o, e, hc⟩ := h4 i hi
  exact ⟨b, o, e, hb.cell hc (gs_u8 hg hc)⟩
theorem bytesRow_but {w w' : World} {g g2 : Nat} {H : List Nat} {Ls : List (List Nat)} (hg : GsB w g H) (h : BytesRow w g2 Ls) (hb : But g w w') : BytesRow w' g2 Ls := by
  have hl := h.lt
  obtain ⟨vs, h1, h2, h3⟩ := h
  refine ⟨vs, ?_, h2, fun i hi => bytes_but hg (h3 i hi) hb⟩
  rw [hb.block g2 hl (fun e => ?_)]
  · exact h1
  · obtain ⟨cs, h5, -⟩ := hg
    rw [e, h5] at h1; injection h1 with h1; injection h1 with _ h1; exact absurd h1 (by decide)
theorem set4_eq (S : Nat) : set4 S = (setC S).toList := rfl
theorem own_sets {w : World} {s : Nat} {a : Option Addr} {c : Nat} {L : List Nat} (h : w.ownsRow s 54 4 (.slice a L.length c) L.length (setsL L)) : SetsAt w a L := by
  intro i hi
  obtain ⟨g, rfl⟩ := own_addr h (by omega)
  refine ⟨g, 0, rfl, fun j v hj => ?_⟩
  have hj4 : j < 4 := by have := (List.getElem?_eq_some_iff.1 hj).1; simpa [setC] using this
  rw [Nat.zero_add, World.ownsRow.cellAt h (i * 4 + j) (by omega), setsL_get L i j hi hj4, ← hj]
  have : j = 0 ∨ j = 1 ∨ j = 2 ∨ j = 3 := by omega
  rcases this with rfl | rfl | rfl | rfl <;> rfl
theorem gs_sets {w : World} {g : Nat} {H : List Nat} (h : GsB w g H) : SetsAt w (some ⟨g, 0, none⟩) H := fun i hi => ⟨g, 0, rfl, by rw [Nat.zero_add]; exact h.range hi⟩
end Df
end Go.Proofs.YtmjjkamndlefmaaDoor
