/- Several texts in one. -/
import Derived.Test.YtplkhgmjcljjhaaDoorPqM0
import Derived.Test.YtplkhgmjcljjhaaDoorPq24
import Derived.Test.YtplkhgmjcljjhaaDoorPq05
import Derived.Maps.OwnSet
import Derived.Test.YtplkhgmjcljjhaaDoorPq34
namespace Go.Proofs.YtplkhgmjcljjhaaDoor
open Go.RowKit Sets Nf
namespace Mi
def zI (L : List Nat) : List Int := L.map fun k : Nat => (k : Int)
theorem zI_len (L : List Nat) : (zI L).length = L.length := List.length_map _
theorem zI_app (L M : List Nat) : zI (L ++ M) = zI L ++ zI M := List.map_append
theorem zI_get (L : List Nat) (i : Nat) (h : i < L.length) : (zI L).getD i 0 = ((L.getD i 0 : Nat) : Int) := by
  unfold zI
  rw [List.getD_eq_getElem?_getD, List.getElem?_map, List.getElem?_eq_getElem h, List.getD_eq_getElem?_getD, List.getElem?_eq_getElem h]; rfl
/-- A block's cells. -/
def bl3 (b : Bl) : List Value := [.int .i64 b.1, .int .i64 b.2.1, .int .i64 b.2.2]
def blL : List Bl → List Value
  | [] => []
  | b :: l => bl3 b ++ blL l
theorem blL_len : ∀ L : List Bl, (blL L).length = L.length * 3
  | [] => rfl
  | b :: l => by
    show (bl3 b ++ blL l).length = _
    rw [List.length_append, blL_len l, List.length_cons]
    show 3 + _ = _
    omega
theorem blL_app : ∀ L M : List Bl, blL (L ++ M) = blL L ++ blL M
  | [], _ => rfl
  | b :: l, M => by
    show bl3 b ++ blL (l ++ M) = _
    rw [blL_app l M, ← List.append_assoc]; rfl
theorem blL_get : ∀ (L : List Bl) (i k : Nat), i < L.length → k < 3 → (blL L)[i * 3 + k]? = (bl3 (gb L i))[k]?
  | [], _, _, h, _ => absurd h (Nat.not_lt_zero _)
  | b :: l, 0, k, _, hk => by
    show (bl3 b ++ blL l)[0 * 3 + k]? = _
    rw [Nat.zero_mul, Nat.zero_add, List.getElem?_append_left (by show k < 3; exact hk)]; rfl
  | b :: l, i + 1, k, h, hk => by
    show (bl3 b ++ blL l)[(i + 1) * 3 + k]? = _
    rw [List.getElem?_append_right (by show 3 ≤ _; omega), show (i + 1) * 3 + k - (bl3 b).length = i * 3 + k from by show (i + 1) * 3 + k - 3 = _; omega]
    exact blL_get l i k (by simpa using h) hk
theorem blL_set : ∀ (L : List Bl) (i k : Nat) (v : Value) (b : Bl), i < L.length → k < 3 → (bl3 (gb L i)).set k v = bl3 b → (blL L).set (i * 3 + k) v = blL (L.set i b)
  | [], _, _, _, _, h, _, _ => absurd h (Nat.not_lt_zero _)
  | c :: l, 0, k, v, b, _, hk, e => by
    show (bl3 c ++ blL l).set (0 * 3 + k) v = bl3 b ++ blL l
    rw [Nat.zero_mul, Nat.zero_add, List.set_append_left _ _ (by show k < 3; exact hk)]
    rw [show (bl3 c).set k v = bl3 b from e]
  | c :: l, i + 1, k, v, b, h, hk, e => by
    show (bl3 c ++ blL l).set ((i + 1) * 3 + k) v = bl3 c ++ blL (l.set i b)
    rw [List.set_append_right _ _ (by show 3 ≤ _; omega), show (i + 1) * 3 + k - (bl3 c).length = i * 3 + k from by show (i + 1) * 3 + k - 3 = _; omega]
    rw [blL_set l i k v b (by simpa using h) hk e]
/-- The map of those that wait. -/
structure MapI (W : World) (g : Nat) (R : List Nat) : Prop where
  row : ∃ es clock, W.heap[g]? = some (.map es clock) ∧ es.toList.map (·.key) = (zI R).map (Value.int .i64 ·) ∧ ∀ e ∈ es.toList, e.val = .agg #[]
theorem MapI.lt {W : World} {g : Nat} {R : List Nat} (h : MapI W g R) : g < W.heap.size := by
  obtain ⟨es, c, h1, -⟩ := h.row
  exact (Array.getElem?_eq_some_iff.1 h1).1
theorem MapI.of {W W' : World} {g : Nat} {R : List Nat} (h : MapI W g R) (e : W'.heap[g]? = W.heap[g]?) : MapI W' g R := by
  obtain ⟨es, c, h1, h2⟩ := h.row
  exact ⟨es, c, e.trans h1, h2⟩
/-- Where the fields of the blocks lie. -/
structure Ad where
  b : Nat
  s : Nat
  p : Nat
  o : Nat
  m : Nat
  iv : Value
  gv : Value
def bkC (x : Ad) (n : Nat) (lv tv rv : Value) : Array Value :=
  #[.slice (some ⟨x.s, 0, none⟩) n n, .slice (some ⟨x.p, 0, none⟩) n n, .slice (some ⟨x.o, 0, none⟩) n n, lv, tv, x.iv, x.gv, .map (some x.m), rv]
structure BkAt (s0 : Nat) (Fx : Nat → Prop) (x : Ad) (n : Nat) (S P O : Nat → Nat) (L : List Bl) (T R K : List Nat) (lv tv rv : Value) (W : World) : Prop where
  row : W.heap[x.b]? = some (.cells (bkC x n lv tv rv) 106 (0, 0))
  st : W.rowIs x.s 3 n (fun i => .int .i64 (S i : Nat))
  pl : W.rowIs x.p 3 n (fun i => .int .i64 (P i : Nat))
  of : W.rowIs x.o 3 n (fun i => .int .i64 (O i : Nat))
  li : W.ownsRow s0 141 3 lv L.length (blL L)
  tch : OwnN s0 W tv (zI T)
  rw : OwnN s0 W rv (zI R)
  mp : MapI W x.m K
  sp : x.s ≠ x.p ∧ x.s ≠ x.o ∧ x.p ≠ x.o
  tn : tv.ownBlock ≠ some x.s ∧ tv.ownBlock ≠ some x.p ∧ tv.ownBlock ≠ some x.o ∧ ∀ q, tv.ownBlock = some q → rv.ownBlock ≠ some q
  rn : rv.ownBlock ≠ some x.s ∧ rv.ownBlock ≠ some x.p ∧ rv.ownBlock ≠ some x.o
  off : ∀ q, Fx q → q < W.heap.size ∧ (q ≠ x.b ∧ q ≠ x.s ∧ q ≠ x.p ∧ q ≠ x.o ∧ q ≠ x.m) ∧ lv.ownBlock ≠ some q ∧ tv.ownBlock ≠ some q ∧ rv.ownBlock ≠ some q
  low : s0 ≤ x.b ∧ s0 ≤ x.s ∧ s0 ≤ x.p ∧ s0 ≤ x.o ∧ s0 ≤ x.m
/-- What a call leaves as it was. -/
structure Mv (s0 : Nat) (Fx : Nat → Prop) (W W' : World) : Prop where
  below : Below s0 W W'
  fx : ∀ q, Fx q → W'.heap[q]? = W.heap[q]?
theorem Mv.refl (s0 : Nat) (Fx : Nat → Prop) (W : World) : Mv s0 Fx W W := ⟨Below.refl _ _, fun _ _ => rfl⟩
theorem Mv.trans {s0 : Nat} {Fx : Nat → Prop} {A B C : World} (h : Mv s0 Fx A B) (k : Mv s0 Fx B C) : Mv s0 Fx A C := ⟨h.below.trans k.below, fun q hq => (k.fx q hq).trans (h.fx q hq)⟩
section
variable {s0 : Nat} {Fx : Nat → Prop} {x : Ad} {n : Nat} {S P O : Nat → Nat} {L : List Bl} {T R K : List Nat} {lv tv rv : Value} {W W' : World}
theorem own_typ {w : World} {B : Nat} {e : TypeId} {size n : Nat} {v : Value} {xs : List Value} (h : w.ownsRow B e size v n xs) {q : Nat} (hq : v.ownBlock = some q) : ∃ cs, w.heap[q]? = some (.cells cs e (0, 0)) := by
  rcases h.2 with ⟨rfl, -⟩ | ⟨g, cap, cur, rfl, -, hg, -⟩
  · cases hq
  · simp [Value.ownBlock] at hq
    subst hq
    exact ⟨cur, hg⟩
theorem typ_ne {w : World} {a b : Nat} {ca cb : Array Value} {ta tb : TypeId} (ha : w.heap[a]? = some (.cells ca ta (0, 0))) (hb : w.heap[b]? = some (.cells cb tb (0, 0))) (h : ta ≠ tb) : a ≠ b := fun e => by
  rw [e, hb] at ha
  injection ha with ha
  injection ha with _ h2
  exact h h2.symm
theorem map_ne {w : World} {a b : Nat} {ca : Array Value} {ta : TypeId} {f : Nat × Nat} {es : Array MapEntry} {k : Nat} (ha : w.heap[a]? = some (.cells ca ta f)) (hb : w.heap[b]? = some (.map es k)) : a ≠ b := fun e => by
  rw [e, hb] at ha
  cases ha
theorem row_typ {w : World} {b : Nat} {t : TypeId} {n : Nat} {f : Nat → Value} (h : w.rowIs b t n f) : ∃ cs, w.heap[b]? = some (.cells cs t (0, 0)) := by
  obtain ⟨c, hb, -⟩ := h; exact ⟨c, hb⟩
/-- All that lies apart because it is of another type. -/
structure Sep (x : Ad) (lv tv rv : Value) : Prop where
  b : x.b ≠ x.s ∧ x.b ≠ x.p ∧ x.b ≠ x.o ∧ x.b ≠ x.m
  m : x.m ≠ x.s ∧ x.m ≠ x.p ∧ x.m ≠ x.o
  l : lv.ownBlock ≠ some x.b ∧ lv.ownBlock ≠ some x.s ∧ lv.ownBlock ≠ some x.p ∧ lv.ownBlock ≠ some x.o ∧ lv.ownBlock ≠ some x.m
  lq : ∀ q, lv.ownBlock = some q → tv.ownBlock ≠ some q ∧ rv.ownBlock ≠ some q
  t : tv.ownBlock ≠ some x.b ∧ tv.ownBlock ≠ some x.m
  r : rv.ownBlock ≠ some x.b ∧ rv.ownBlock ≠ some x.m
theorem BkAt.sep (h : BkAt s0 Fx x n S P O L T R K lv tv rv W) : Sep x lv tv rv := by
  obtain ⟨c1, h1⟩ := row_typ h.st
  obtain ⟨c2, h2⟩ := row_typ h.pl
  obtain ⟨c3, h3⟩ := row_typ h.of
  obtain ⟨es, ck, h4, -⟩ := h.mp.row
  have n1 : 106 ≠ 3 := by decide
  have n2 : 141 ≠ 3 := by decide
  have n3 : 141 ≠ 106 := by decide
  have n4 : 3 ≠ 106 := by decide
  refine ⟨⟨typ_ne h.row h1 n1, typ_ne h.row h2 n1, typ_ne h.row h3 n1, map_ne h.row h4⟩, ⟨(map_ne h1 h4).symm, (map_ne h2 h4).symm, (map_ne h3 h4).symm⟩, ?_, fun q hq => ?_, ?_, ?_⟩
  · refine ⟨fun e => ?_, fun e => ?_, fun e => ?_, fun e => ?_, fun e => ?_⟩ <;> obtain ⟨cs, hc⟩ := own_typ h.li e
    · exact typ_ne hc h.row n3 rfl
    · exact typ_ne hc h1 n2 rfl
    · exact typ_ne hc h2 n2 rfl
    · exact typ_ne hc h3 n2 rfl
    · exact map_ne hc h4 rfl
  · obtain ⟨cs, hc⟩ := own_typ h.li hq
    refine ⟨fun e => ?_, fun e => ?_⟩
    · obtain ⟨cs2, hc2⟩ := own_typ h.tch e
      exact typ_ne hc hc2 n2 rfl
    · obtain ⟨cs2, hc2⟩ := own_typ h.rw e
      exact typ_ne hc hc2 n2 rfl
  · refine ⟨fun e => ?_, fun e => ?_⟩ <;> obtain ⟨cs, hc⟩ := own_typ h.tch e
    · exact typ_ne hc h.row n4 rfl
    · exact map_ne hc h4 rfl
  · refine ⟨fun e => ?_, fun e => ?_⟩ <;> obtain ⟨cs, hc⟩ := own_typ h.rw e
    · exact typ_ne hc h.row n4 rfl
    · exact map_ne hc h4 rfl
theorem BkAt.ltb (h : BkAt s0 Fx x n S P O L T R K lv tv rv W) : x.b < W.heap.size := (Array.getElem?_eq_some_iff.1 h.row).1
/-- Memory in which all of it is as it was. -/
theorem BkAt.stay (h : BkAt s0 Fx x n S P O L T R K lv tv rv W) (hb : Below W.heap.size W W') : BkAt s0 Fx x n S P O L T R K lv tv rv W' :=
  ⟨(hb.block _ h.ltb).trans h.row, World.rowIs.of_block h.st (hb.block _ (World.rowIs.lt h.st)), World.rowIs.of_block h.pl (hb.block _ (World.rowIs.lt h.pl)), World.rowIs.of_block h.of (hb.block _ (World.rowIs.lt h.of)),
    own_stay h.li hb, own_stay h.tch hb, own_stay h.rw hb, h.mp.of (hb.block _ h.mp.lt), h.sp, h.tn, h.rn, fun q hq => ⟨Nat.lt_of_lt_of_le (h.off q hq).1 hb.size, (h.off q hq).2⟩, h.low⟩
theorem BkAt.mv (h : BkAt s0 Fx x n S P O L T R K lv tv rv W) (hb : Below W.heap.size W W') : Mv s0 Fx W W' :=
  ⟨hb.mono (Nat.le_of_lt (Nat.lt_of_le_of_lt h.low.1 h.ltb)), fun q hq => hb.block q (h.off q hq).1⟩
/-- Other worlds at the blocks of Fx, and at others that are none of its own. -/
theorem BkAt.weak (h : BkAt s0 Fx x n S P O L T R K lv tv rv W) {Gx : Nat → Prop} (hg : ∀ q, Gx q → Fx q) : BkAt s0 Gx x n S P O L T R K lv tv rv W := { h with off := fun q hq => h.off q (hg q hq) }
theorem hset (W : World) (g i : Nat) (v : Value) : ∀ q, q ≠ g → (W.setCell ⟨g, i, none⟩ v).heap[q]? = W.heap[q]? := fun q hq => Below.heap_setCell W ⟨g, i, none⟩ v q hq
theorem setsz (W : World) (g i : Nat) (v : Value) : (W.setCell ⟨g, i, none⟩ v).heap.size = W.heap.size := by simp
theorem BkAt.setS (h : BkAt s0 Fx x n S P O L T R K lv tv rv W) (i v : Nat) : BkAt s0 Fx x n (up S i v) P O L T R K lv tv rv (W.setCell ⟨x.s, i, none⟩ (.int .i64 v)) ∧ Mv s0 Fx W (W.setCell ⟨x.s, i, none⟩ (.int .i64 v)) := by
  have hs := hset W x.s i (.int .i64 v)
  have se := h.sep
  refine ⟨⟨(hs _ se.b.1).trans h.row, World.rowIs.congr (World.rowIs.set h.st i _) (fun j _ => ?_), World.rowIs.of_block h.pl (hs _ h.sp.1.symm), World.rowIs.of_block h.of (hs _ h.sp.2.1.symm),
    own_kept h.li (fun q hq => hs q (fun e => se.l.2.1 (e ▸ hq))), own_kept h.tch (fun q hq => hs q (fun e => h.tn.1 (e ▸ hq))), own_kept h.rw (fun q hq => hs q (fun e => h.rn.1 (e ▸ hq))), h.mp.of (hs _ se.m.1), h.sp, h.tn, h.rn, fun q hq => by rw [setsz]; exact h.off q hq, h.low⟩,
    (Below.refl _ _).setCell h.low.2.1 _, fun q hq => hs q (h.off q hq).2.1.2.1⟩
  unfold up
  by_cases e : j = i
  · rw [if_pos e, if_pos e]
  · rw [if_neg e, if_neg e]
theorem BkAt.setP (h : BkAt s0 Fx x n S P O L T R K lv tv rv W) (i v : Nat) : BkAt s0 Fx x n S (up P i v) O L T R K lv tv rv (W.setCell ⟨x.p, i, none⟩ (.int .i64 v)) ∧ Mv s0 Fx W (W.setCell ⟨x.p, i, none⟩ (.int .i64 v)) := by
  have hs := hset W x.p i (.int .i64 v)
  have se := h.sep
  refine ⟨⟨(hs _ se.b.2.1).trans h.row, World.rowIs.of_block h.st (hs _ h.sp.1), World.rowIs.congr (World.rowIs.set h.pl i _) (fun j _ => ?_), World.rowIs.of_block h.of (hs _ h.sp.2.2.symm),
    own_kept h.li (fun q hq => hs q (fun e => se.l.2.2.1 (e ▸ hq))), own_kept h.tch (fun q hq => hs q (fun e => h.tn.2.1 (e ▸ hq))), own_kept h.rw (fun q hq => hs q (fun e => h.rn.2.1 (e ▸ hq))), h.mp.of (hs _ se.m.2.1), h.sp, h.tn, h.rn, fun q hq => by rw [setsz]; exact h.off q hq, h.low⟩,
    (Below.refl _ _).setCell h.low.2.2.1 _, fun q hq => hs q (h.off q hq).2.1.2.2.1⟩
  unfold up
  by_cases e : j = i
  · rw [if_pos e, if_pos e]
  · rw [if_neg e, if_neg e]
theorem BkAt.setO (h : BkAt s0 Fx x n S P O L T R K lv tv rv W) (i v : Nat) : BkAt s0 Fx x n S P (up O i v) L T R K lv tv rv (W.setCell ⟨x.o, i, none⟩ (.int .i64 v)) ∧ Mv s0 Fx W (W.setCell ⟨x.o, i, none⟩ (.int .i64 v)) := by
  have hs := hset W x.o i (.int .i64 v)
  have se := h.sep
  refine ⟨⟨(hs _ se.b.2.2.1).trans h.row, World.rowIs.of_block h.st (hs _ h.sp.2.1), World.rowIs.of_block h.pl (hs _ h.sp.2.2), World.rowIs.congr (World.rowIs.set h.of i _) (fun j _ => ?_),
    own_kept h.li (fun q hq => hs q (fun e => se.l.2.2.2.1 (e ▸ hq))), own_kept h.tch (fun q hq => hs q (fun e => h.tn.2.2.1 (e ▸ hq))), own_kept h.rw (fun q hq => hs q (fun e => h.rn.2.2 (e ▸ hq))), h.mp.of (hs _ se.m.2.2), h.sp, h.tn, h.rn, fun q hq => by rw [setsz]; exact h.off q hq, h.low⟩,
    (Below.refl _ _).setCell h.low.2.2.2.1 _, fun q hq => hs q (h.off q hq).2.1.2.2.2.1⟩
  unfold up
  by_cases e : j = i
  · rw [if_pos e, if_pos e]
  · rw [if_neg e, if_neg e]
theorem BkAt.lform (h : BkAt s0 Fx x n S P O L T R K lv tv rv W) (h0 : 0 < L.length) : ∃ g c, lv = .slice (some ⟨g, 0, none⟩) L.length c := by
  rcases h.li.2 with ⟨-, e⟩ | ⟨g, cap, cur, e, -⟩
  · omega
  · exact ⟨g, cap, e⟩
/-- A cell of a block is written. -/
theorem BkAt.setL {g c : Nat} (h : BkAt s0 Fx x n S P O L T R K (.slice (some ⟨g, 0, none⟩) L.length c) tv rv W) {i k : Nat} (hi : i < L.length) (hk : k < 3) (v : Value) (b : Bl) (e : (bl3 (gb L i)).set k v = bl3 b) :
    BkAt s0 Fx x n S P O (L.set i b) T R K (.slice (some ⟨g, 0, none⟩) (L.set i b).length c) tv rv (W.setCell ⟨g, i * 3 + k, none⟩ v) ∧ Mv s0 Fx W (W.setCell ⟨g, i * 3 + k, none⟩ v) := by
  have hs := hset W g (i * 3 + k) v
  have se := h.sep
  have hl : (L.set i b).length = L.length := List.length_set ..
  have hst := (h.li.stored (i * 3 + k) v).1
  rw [blL_set L i k v b hi hk e] at hst
  have hq : ∀ q, (Value.slice (some ⟨g, 0, none⟩) L.length c).ownBlock = some q → q = g := fun q hq => by simp [Value.ownBlock] at hq; exact hq.symm
  have ng : (Value.slice (some ⟨g, 0, none⟩) L.length c).ownBlock = some g := rfl
  rw [hl]
  refine ⟨⟨(hs _ (fun e => se.l.1 (by rw [e]; rfl))).trans h.row, World.rowIs.of_block h.st (hs _ (fun e => se.l.2.1 (by rw [e]; rfl))), World.rowIs.of_block h.pl (hs _ (fun e => se.l.2.2.1 (by rw [e]; rfl))), World.rowIs.of_block h.of (hs _ (fun e => se.l.2.2.2.1 (by rw [e]; rfl))),
    by rw [hl]; exact hst, own_kept h.tch (fun q hq => hs q (fun e => (se.lq g ng).1 (e ▸ hq))), own_kept h.rw (fun q hq => hs q (fun e => (se.lq g ng).2 (e ▸ hq))), h.mp.of (hs _ (fun e => se.l.2.2.2.2 (by rw [e]; rfl))), h.sp, h.tn, h.rn, fun q hq => by rw [setsz]; exact h.off q hq, h.low⟩,
    (Below.refl _ _).setCell (h.li.lt g ng).1 _, fun q hq => hs q (fun e => (h.off q hq).2.2.1 (by rw [e]; rfl))⟩
/-- Something is appended to the row of the touched ones, and stored. -/
theorem BkAt.pushT (h : BkAt s0 Fx x n S P O L T R K lv tv rv W) {tv' : Value} {k : Nat} (ho : OwnN s0 W' tv' (zI T ++ [(k : Int)])) (hb : Below s0 W W') (ha : Ap W tv W' tv') :
    BkAt s0 Fx x n S P O L (T ++ [k]) R K lv tv' rv (W'.setCell ⟨x.b, 4, none⟩ tv') ∧ Mv s0 Fx W (W'.setCell ⟨x.b, 4, none⟩ tv') := by
  have hs := hset W' x.b 4 tv'
  have se := h.sep
  have hold : ∀ q, q < W.heap.size → tv.ownBlock ≠ some q → tv'.ownBlock ≠ some q := fun q hq hn e => by
    rcases ha.own q e with h1 | h1
    · exact hn h1
    · omega
  have hrow := (ha.block x.b h.ltb se.t.1).trans h.row
  have hk : ∀ q, q < W.heap.size → tv.ownBlock ≠ some q → q ≠ x.b → (W'.setCell ⟨x.b, 4, none⟩ tv').heap[q]? = W.heap[q]? := fun q h1 h2 h3 => (hs q h3).trans (ha.block q h1 h2)
  have hlb := h.ltb
  have hls := World.rowIs.lt h.st
  have hlp := World.rowIs.lt h.pl
  have hlo := World.rowIs.lt h.of
  refine ⟨⟨?_, World.rowIs.of_block h.st (hk _ hls h.tn.1 se.b.1.symm), World.rowIs.of_block h.pl (hk _ hlp h.tn.2.1 se.b.2.1.symm), World.rowIs.of_block h.of (hk _ hlo h.tn.2.2.1 se.b.2.2.1.symm),
    own_kept h.li (fun q hq => hk q (h.li.lt q hq).2 (se.lq q hq).1 (fun e => se.l.1 (e ▸ hq))), ?_, own_kept h.rw (fun q hq => hk q (h.rw.lt q hq).2 (fun e => h.tn.2.2.2 q e hq) (fun e => se.r.1 (e ▸ hq))), h.mp.of (hk _ h.mp.lt se.t.2 se.b.2.2.2.symm), h.sp,
    ⟨hold _ hls h.tn.1, hold _ hlp h.tn.2.1, hold _ hlo h.tn.2.2.1, fun q hq e => hold q (h.rw.lt q e).2 (fun e2 => h.tn.2.2.2 q e2 e) hq⟩, h.rn, fun q hq => ?_, h.low⟩, ?_⟩
  · rw [heap_setCell_same _ _ _ _ _ _ hrow]; rfl
  · rw [zI_app]
    exact own_kept ho (fun q hq => hs q (fun e => hold x.b hlb se.t.1 (e ▸ hq)))
  · obtain ⟨h1, h2, h3, h4, h5⟩ := h.off q hq
    exact ⟨by rw [setsz]; exact Nat.lt_of_lt_of_le h1 ha.size, h2, h3, hold q h1 h4, h5⟩
  · exact ⟨hb.setCell h.low.1 _, fun q hq => hk q (h.off q hq).1 (h.off q hq).2.2.2.1 (h.off q hq).2.1.1⟩
/-- The same for the row of those that wait. -/
theorem BkAt.pushR (h : BkAt s0 Fx x n S P O L T R K lv tv rv W) {rv' : Value} {k : Nat} (ho : OwnN s0 W' rv' (zI R ++ [(k : Int)])) (hb : Below s0 W W') (ha : Ap W rv W' rv') :
    BkAt s0 Fx x n S P O L T (R ++ [k]) K lv tv rv' (W'.setCell ⟨x.b, 8, none⟩ rv') ∧ Mv s0 Fx W (W'.setCell ⟨x.b, 8, none⟩ rv') := by
  have hs := hset W' x.b 8 rv'
  have se := h.sep
  have hold : ∀ q, q < W.heap.size → rv.ownBlock ≠ some q → rv'.ownBlock ≠ some q := fun q hq hn e => by
    rcases ha.own q e with h1 | h1
    · exact hn h1
    · omega
  have hrow := (ha.block x.b h.ltb se.r.1).trans h.row
  have hk : ∀ q, q < W.heap.size → rv.ownBlock ≠ some q → q ≠ x.b → (W'.setCell ⟨x.b, 8, none⟩ rv').heap[q]? = W.heap[q]? := fun q h1 h2 h3 => (hs q h3).trans (ha.block q h1 h2)
  have hlb := h.ltb
  have hls := World.rowIs.lt h.st
  have hlp := World.rowIs.lt h.pl
  have hlo := World.rowIs.lt h.of
  refine ⟨⟨?_, World.rowIs.of_block h.st (hk _ hls h.rn.1 se.b.1.symm), World.rowIs.of_block h.pl (hk _ hlp h.rn.2.1 se.b.2.1.symm), World.rowIs.of_block h.of (hk _ hlo h.rn.2.2 se.b.2.2.1.symm),
    own_kept h.li (fun q hq => hk q (h.li.lt q hq).2 (se.lq q hq).2 (fun e => se.l.1 (e ▸ hq))), own_kept h.tch (fun q hq => hk q (h.tch.lt q hq).2 (h.tn.2.2.2 q hq) (fun e => se.t.1 (e ▸ hq))), ?_, h.mp.of (hk _ h.mp.lt se.r.2 se.b.2.2.2.symm), h.sp,
    ⟨h.tn.1, h.tn.2.1, h.tn.2.2.1, fun q hq => hold q (h.tch.lt q hq).2 (h.tn.2.2.2 q hq)⟩, ⟨hold _ hls h.rn.1, hold _ hlp h.rn.2.1, hold _ hlo h.rn.2.2⟩, fun q hq => ?_, h.low⟩, ?_⟩
  · rw [heap_setCell_same _ _ _ _ _ _ hrow]; rfl
  · rw [zI_app]
    exact own_kept ho (fun q hq => hs q (fun e => hold x.b hlb se.r.1 (e ▸ hq)))
  · obtain ⟨h1, h2, h3, h4, h5⟩ := h.off q hq
    exact ⟨by rw [setsz]; exact Nat.lt_of_lt_of_le h1 ha.size, h2, h3, h4, hold q h1 h5⟩
  · exact ⟨hb.setCell h.low.1 _, fun q hq => hk q (h.off q hq).1 (h.off q hq).2.2.2.2 (h.off q hq).2.1.1⟩
/-- One more block. -/
theorem BkAt.pushL (h : BkAt s0 Fx x n S P O L T R K lv tv rv W) {lv' : Value} {b : Bl} (ho : W'.ownsRow s0 141 3 lv' (L.length + 1) (blL L ++ bl3 b)) (hb : Below s0 W W') (ha : Ap W lv W' lv') :
    BkAt s0 Fx x n S P O (L ++ [b]) T R K lv' tv rv (W'.setCell ⟨x.b, 3, none⟩ lv') ∧ Mv s0 Fx W (W'.setCell ⟨x.b, 3, none⟩ lv') := by
  have hs := hset W' x.b 3 lv'
  have se := h.sep
  have hold : ∀ q, q < W.heap.size → lv.ownBlock ≠ some q → lv'.ownBlock ≠ some q := fun q hq hn e => by
    rcases ha.own q e with h1 | h1
    · exact hn h1
    · omega
  have hrow := (ha.block x.b h.ltb se.l.1).trans h.row
  have hk : ∀ q, q < W.heap.size → lv.ownBlock ≠ some q → q ≠ x.b → (W'.setCell ⟨x.b, 3, none⟩ lv').heap[q]? = W.heap[q]? := fun q h1 h2 h3 => (hs q h3).trans (ha.block q h1 h2)
  have hlb := h.ltb
  have hls := World.rowIs.lt h.st
  have hlp := World.rowIs.lt h.pl
  have hlo := World.rowIs.lt h.of
  refine ⟨⟨?_, World.rowIs.of_block h.st (hk _ hls se.l.2.1 se.b.1.symm), World.rowIs.of_block h.pl (hk _ hlp se.l.2.2.1 se.b.2.1.symm), World.rowIs.of_block h.of (hk _ hlo se.l.2.2.2.1 se.b.2.2.1.symm),
    ?_, own_kept h.tch (fun q hq => hk q (h.tch.lt q hq).2 (fun e => (se.lq q e).1 hq) (fun e => se.t.1 (e ▸ hq))), own_kept h.rw (fun q hq => hk q (h.rw.lt q hq).2 (fun e => (se.lq q e).2 hq) (fun e => se.r.1 (e ▸ hq))), h.mp.of (hk _ h.mp.lt se.l.2.2.2.2 se.b.2.2.2.symm), h.sp,
    h.tn, h.rn, fun q hq => ?_, h.low⟩, ?_⟩
  · rw [heap_setCell_same _ _ _ _ _ _ hrow]; rfl
  · rw [blL_app, List.length_append]
    exact own_kept ho (fun q hq => hs q (fun e => hold x.b hlb se.l.1 (e ▸ hq)))
  · obtain ⟨h1, h2, h3, h4, h5⟩ := h.off q hq
    exact ⟨by rw [setsz]; exact Nat.lt_of_lt_of_le h1 ha.size, h2, hold q h1 h3, h4, h5⟩
  · exact ⟨hb.setCell h.low.1 _, fun q hq => hk q (h.off q hq).1 (h.off q hq).2.2.1 (h.off q hq).2.1.1⟩
/-- The map is written. -/
theorem BkAt.setM (h : BkAt s0 Fx x n S P O L T R K lv tv rv W) {K' : List Nat} (hm : MapI W' x.m K') (hb : Below s0 W W') (hk : ∀ q, q < W.heap.size → q ≠ x.m → W'.heap[q]? = W.heap[q]?) :
    BkAt s0 Fx x n S P O L T R K' lv tv rv W' ∧ Mv s0 Fx W W' := by
  have se := h.sep
  refine ⟨⟨(hk _ h.ltb se.b.2.2.2).trans h.row, World.rowIs.of_block h.st (hk _ (World.rowIs.lt h.st) se.m.1.symm), World.rowIs.of_block h.pl (hk _ (World.rowIs.lt h.pl) se.m.2.1.symm), World.rowIs.of_block h.of (hk _ (World.rowIs.lt h.of) se.m.2.2.symm),
    own_kept h.li (fun q hq => hk q (h.li.lt q hq).2 (fun e => se.l.2.2.2.2 (e ▸ hq))), own_kept h.tch (fun q hq => hk q (h.tch.lt q hq).2 (fun e => se.t.2 (e ▸ hq))), own_kept h.rw (fun q hq => hk q (h.rw.lt q hq).2 (fun e => se.r.2 (e ▸ hq))), hm, h.sp, h.tn, h.rn,
    fun q hq => ⟨Nat.lt_of_lt_of_le (h.off q hq).1 hb.size, (h.off q hq).2⟩, h.low⟩, hb, fun q hq => hk q (h.off q hq).1 (h.off q hq).2.1.2.2.2.2⟩
/-- A row that is cut. -/
theorem own_cut {w : World} {B : Nat} {v : Value} {l : List Int} {a : Option Addr} {c : Nat} (h : OwnN B w v l) (e : v = .slice a l.length c) (m : Nat) (hm : m ≤ l.length) : OwnN B w (.slice a m c) (l.take m) := by
  unfold OwnN at h ⊢
  have hl : (l.take m).length = m := by rw [List.length_take]; omega
  rw [hl]
  refine ⟨by rw [is64_length, hl, Nat.mul_one], ?_⟩
  rcases h.2 with ⟨h1, h2⟩ | ⟨g, cap, cur, h1, h2, h3, h4, h5, h6, h7⟩
  · rw [h1] at e
    injection e with e1 e2 e3
    exact .inl ⟨by rw [← e1, ← e3, show m = 0 by omega], by omega⟩
  · rw [h1] at e
    injection e with e1 _ e3
    refine .inr ⟨g, cap, cur, by rw [← e1, ← e3], h2, h3, by omega, h5, h6, ?_⟩
    unfold is64 at h7 ⊢
    rw [List.map_take, ← h7, List.take_take]
    congr 1
    omega
theorem BkAt.cutT {a : Option Addr} {c : Nat} (h : BkAt s0 Fx x n S P O L T R K lv (.slice a T.length c) rv W) :
    BkAt s0 Fx x n S P O L [] R K lv (.slice a 0 c) rv (W.setCell ⟨x.b, 4, none⟩ (.slice a 0 c)) ∧ Mv s0 Fx W (W.setCell ⟨x.b, 4, none⟩ (.slice a 0 c)) := by
  have hs := hset W x.b 4 (.slice a 0 c)
  have se := h.sep
  have hown : (Value.slice a 0 c).ownBlock = (Value.slice a T.length c).ownBlock := by cases a <;> rfl
  have hc := own_cut h.tch (by rw [zI_len]) 0 (Nat.zero_le _)
  refine ⟨⟨?_, World.rowIs.of_block h.st (hs _ se.b.1.symm), World.rowIs.of_block h.pl (hs _ se.b.2.1.symm), World.rowIs.of_block h.of (hs _ se.b.2.2.1.symm),
    own_kept h.li (fun q hq => hs q (fun e => se.l.1 (e ▸ hq))), own_kept hc (fun q hq => hs q (fun e => se.t.1 (by rw [hown] at hq; exact e ▸ hq))), own_kept h.rw (fun q hq => hs q (fun e => se.r.1 (e ▸ hq))), h.mp.of (hs _ se.b.2.2.2.symm), h.sp, by rw [hown]; exact h.tn, h.rn,
    fun q hq => by rw [setsz, hown]; exact h.off q hq, h.low⟩, (Below.refl _ _).setCell h.low.1 _, fun q hq => hs q (h.off q hq).2.1.1⟩
  rw [heap_setCell_same _ _ _ _ _ _ h.row]; rfl
theorem BkAt.cutR {a : Option Addr} {c k : Nat} (h : BkAt s0 Fx x n S P O L T (R ++ [k]) K lv tv (.slice a (R ++ [k]).length c) W) :
    BkAt s0 Fx x n S P O L T R K lv tv (.slice a R.length c) (W.setCell ⟨x.b, 8, none⟩ (.slice a R.length c)) ∧ Mv s0 Fx W (W.setCell ⟨x.b, 8, none⟩ (.slice a R.length c)) := by
  have hs := hset W x.b 8 (.slice a R.length c)
  have se := h.sep
  have hown : (Value.slice a R.length c).ownBlock = (Value.slice a (R ++ [k]).length c).ownBlock := by cases a <;> rfl
  have hc := own_cut h.rw (by rw [zI_len]) R.length (by rw [zI_len, List.length_append]; omega)
  have hz : (zI (R ++ [k])).take R.length = zI R := by rw [zI_app, List.take_append_of_le_length (by rw [zI_len]; exact Nat.le_refl _), List.take_of_length_le (by rw [zI_len]; exact Nat.le_refl _)]
  rw [hz] at hc
  refine ⟨⟨?_, World.rowIs.of_block h.st (hs _ se.b.1.symm), World.rowIs.of_block h.pl (hs _ se.b.2.1.symm), World.rowIs.of_block h.of (hs _ se.b.2.2.1.symm),
    own_kept h.li (fun q hq => hs q (fun e => se.l.1 (e ▸ hq))), own_kept h.tch (fun q hq => hs q (fun e => se.t.1 (e ▸ hq))), own_kept hc (fun q hq => hs q (fun e => se.r.1 (by rw [hown] at hq; exact e ▸ hq))), h.mp.of (hs _ se.b.2.2.2.symm), h.sp, by rw [hown]; exact h.tn, by rw [hown]; exact h.rn,
    fun q hq => by rw [setsz, hown]; exact h.off q hq, h.low⟩, (Below.refl _ _).setCell h.low.1 _, fun q hq => hs q (h.off q hq).2.1.1⟩
  rw [heap_setCell_same _ _ _ _ _ _ h.row]; rfl
end
end Mi
end Go.Proofs.YtplkhgmjcljjhaaDoor
namespace Go.Proofs.YtplkhgmjcljjhaaDoor
open Go.RowKit Sets Nf
namespace Mi
theorem checkI (em : Bool) (k : Nat) (w : World) : (Instr.checkKey em 10000 3 (.int .i64 k)).run Tryd.prog w = .ok () w := by
  rw [Instr.checkKey]
  simp only [Sem.run_bind, run_underlying Tryd.underlying3, Result.andThen_ok]
  simp
theorem find_now (k : Nat) : ∀ (es : List MapEntry) (R : List Nat) (i : Nat), es.map (·.key) = (zI R).map (Value.int .i64 ·) → (∀ e ∈ es, e.val = .agg #[]) → Instr.findNow (.int .i64) (.int .i64 k) es i = some (if k ∈ R then some (i + Df.ix R k, Value.agg #[]) else none)
  | [], [], i, _, _ => by simp [Instr.findNow]
  | [], _ :: _, _, h, _ => by simp [zI] at h
  | _ :: _, [], _, h, _ => by simp [zI] at h
  | e :: es, q :: R, i, h, hv => by
    simp only [zI, List.map_cons, List.cons.injEq] at h
    obtain ⟨h1, h2⟩ := h
    have ih := find_now k es R (i + 1) h2 (fun x hx => hv x (List.mem_cons_of_mem _ hx))
    have hve := hv e (List.mem_cons_self ..)
    unfold Instr.findNow
    rw [h1]
    by_cases hq : k = q
    · subst hq
      simp [Instr.sameNow, Df.ix, hve]
    · have hb : (((k : Nat) : Int) == ((q : Nat) : Int)) = false := by rw [beq_eq_false_iff_ne]; omega
      have h3 : ¬ q = k := fun e => hq e.symm
      simp only [Instr.sameNow, if_true, hb, ih]
      have e1 : Df.ix (q :: R) k = Df.ix R k + 1 := by show (if q = k then 0 else Df.ix R k + 1) = _; rw [if_neg h3]
      rw [e1]
      by_cases hm : k ∈ R
      · rw [if_pos hm, if_pos (List.mem_cons_of_mem _ hm), show i + 1 + Df.ix R k = i + (Df.ix R k + 1) from by omega]
      · rw [if_neg hm, if_neg (by simp [hq, hm])]
theorem find_key {es : Array MapEntry} {R : List Nat} (k : Nat) (w : World) (h : es.toList.map (·.key) = (zI R).map (Value.int .i64 ·)) (hv : ∀ e ∈ es.toList, e.val = .agg #[]) :
    (Instr.findKey 3 (.int .i64 k) es.toList).run Tryd.prog w = .ok (if k ∈ R then some (Df.ix R k, Value.agg #[]) else none) w := by
  unfold Instr.findKey
  have hf := find_now k es.toList R 0 h hv
  simp only [Nat.zero_add] at hf
  simp only [Sem.run_bind, run_underlying Tryd.underlying3, Result.andThen_ok, hf, Sem.run_pure]
theorem zeroE (w : World) : (zeroValue 87).run Tryd.prog w = .ok (.agg #[]) w := by kernel_rfl
theorem MapI.look {W : World} {g : Nat} {R : List Nat} (h : MapI W g R) (k : Nat) :
    (Instr.lookup 104 (.map (some g)) (.int .i64 k) true).run Tryd.prog W = .ok (.tuple #[.agg #[], .bool (decide (k ∈ R))]) W := by
  obtain ⟨es, c, h1, h2, h3⟩ := h.row
  unfold Instr.lookup
  have hc := fun em => checkI em k W
  have hf := find_key k W h2 h3
  have hz := zeroE W
  simp only [Sem.run_bind, run_underlying Tryd.underlying104, Result.andThen_ok, getObj_run h1, Sem.run_pure, hc, hf]
  by_cases hm : k ∈ R
  · simp [hm]
  · simp [hm, hz]
theorem MapI.put {W : World} {g : Nat} {R : List Nat} (h : MapI W g R) (k : Nat) (hn : k ∉ R) :
    ∃ W', (Instr.mapUpdate 104 (.map (some g)) (.int .i64 k) (.agg #[])).run Tryd.prog W = .ok () W' ∧ MapI W' g (R ++ [k]) ∧ But g W W' := by
  obtain ⟨es, c, h1, h2, h3⟩ := h.row
  have hc := fun em => checkI em k W
  have hf := find_key k W h2 h3
  rw [if_neg hn] at hf
  refine ⟨ChangeMaps.setBlock W g (.map (es.push { key := .int .i64 k, val := .agg #[], born := c }) (c + 1)), ?_, ⟨_, _, ChangeMaps.heap_setBlock_same h1 _, ?_, ?_⟩, ⟨rfl, rfl, rfl, by simp [ChangeMaps.setBlock], fun i _ hi => ChangeMaps.heap_setBlock_other h1 _ hi⟩⟩
  · unfold Instr.mapUpdate
    simp only [Sem.run_bind, run_underlying Tryd.underlying104, Result.andThen_ok, getObj_run h1, hc, hf]
    exact MapKept.run_setObj_map _ h1
  · rw [Array.toList_push, List.map_append, h2, zI_app, List.map_append]; rfl
  · intro e he
    rw [Array.toList_push] at he
    rcases List.mem_append.1 he with he | he
    · exact h3 e he
    · rw [List.mem_singleton] at he; rw [he]
theorem MapI.drop {W : World} {g : Nat} {R : List Nat} {k : Nat} (h : MapI W g (R ++ [k])) (hn : k ∉ R) (ty : TypeId) :
    ∃ W', (Builtin.delete_ #[104, 3] ty #[.map (some g), .int .i64 k]).run Tryd.prog W = .ok (.tuple #[]) W' ∧ MapI W' g R ∧ But g W W' := by
  obtain ⟨es, c, h1, h2, h3⟩ := h.row
  have hc := fun em => checkI em k W
  have hf := find_key k W h2 h3
  have hix : Df.ix (R ++ [k]) k = R.length := by
    clear h h1 h2 h3 hf
    induction R with
    | nil => simp [Df.ix]
    | cons a R ih =>
      have h1 : ¬ a = k := fun e => hn (e ▸ List.mem_cons_self ..)
      show (if a = k then 0 else Df.ix (R ++ [k]) k + 1) = _
      rw [if_neg h1, ih (fun hm => hn (List.mem_cons_of_mem _ hm))]; rfl
  rw [if_pos (by simp), hix] at hf
  have hlen : es.toList.length = R.length + 1 := by
    have := congrArg List.length h2
    rw [List.length_map, List.length_map, zI_len, List.length_append] at this
    exact this
  have hel : (es.eraseIdxIfInBounds R.length).toList = es.toList.take R.length := by
    rw [Array.toList_eraseIdxIfInBounds, List.eraseIdx_eq_take_drop_succ, List.drop_of_length_le (by omega), List.append_nil]
  refine ⟨ChangeMaps.setBlock W g (.map (es.eraseIdxIfInBounds R.length) c), ?_, ⟨_, _, ChangeMaps.heap_setBlock_same h1 _, ?_, ?_⟩, ⟨rfl, rfl, rfl, by simp [ChangeMaps.setBlock], fun i _ hi => ChangeMaps.heap_setBlock_other h1 _ hi⟩⟩
  · unfold Builtin.delete_
    have hset : (setObj g (.map (es.eraseIdxIfInBounds R.length) c)).run Tryd.prog W = .ok () (ChangeMaps.setBlock W g (.map (es.eraseIdxIfInBounds R.length) c)) := MapKept.run_setObj_map _ h1
    simp [Sem.run_bind, run_underlying Tryd.underlying104, Result.andThen_ok, getObj_run h1, hc, hf, hset]
  · rw [hel, List.map_take, h2, zI_app, List.map_append, List.take_append_of_le_length (by rw [List.length_map, zI_len]; exact Nat.le_refl _), List.take_of_length_le (by rw [List.length_map, zI_len]; exact Nat.le_refl _)]
  · intro e he
    rw [hel] at he
    exact h3 e (List.mem_of_mem_take he)
theorem MapI.len {W : World} {g : Nat} {R : List Nat} (h : MapI W g R) : ∃ es c, W.heap[g]? = some (.map es c) ∧ es.size = R.length := by
  obtain ⟨es, c, h1, h2, -⟩ := h.row
  refine ⟨es, c, h1, ?_⟩
  have := congrArg List.length h2
  rw [List.length_map, List.length_map, zI_len, Array.length_toList] at this
  exact this
theorem wpList_drop {ops : Array Oper} {rest : List Oper} {o : Oper} {a : Act} {w w' : World} {Q : Exit → Act → World → Prop} (hgd : o.guard = none) (m x : Operand)
    (ho : o.op = .call { callee := .builtin .delete, args := #[m, x], argTypes := #[104, 3] }) (g k : Nat) (hm : a.eval m = .map (some g)) (hx : a.eval x = .int .i64 k)
    (hrun : ∀ ty, (Builtin.delete_ #[104, 3] ty #[.map (some g), .int .i64 k]).run Tryd.prog w = .ok (.tuple #[]) w')
    (h : wpList Tryd.prog ops Q rest (a.put o.dst (.tuple #[])) w') : wpList Tryd.prog ops Q (o :: rest) a w :=
  wpList_plain hgd fun _ hK => by
    unfold Oper.wp execOp
    simp only [ho, resolve, invoke, builtin, Sem.run_bind, Sem.run_pure, Result.andThen_ok, List.map_toArray, List.map_cons, List.map_nil, hm, hx, hrun]
    exact hK _ _ h
end Mi
end Go.Proofs.YtplkhgmjcljjhaaDoor
namespace Go.Proofs.YtplkhgmjcljjhaaDoor
open Go.RowKit Sets Nf
namespace Mi
section
variable {s0 : Nat} {Fx : Nat → Prop} {x : Ad} {n : Nat} {S P O : Nat → Nat} {L : List Bl} {T R K : List Nat} {lv tv rv : Value} {W : World}
theorem BkAt.cells (h : BkAt s0 Fx x n S P O L T R K lv tv rv W) : W.cell? ⟨x.b, 0, none⟩ = some (.slice (some ⟨x.s, 0, none⟩) n n) ∧ W.cell? ⟨x.b, 1, none⟩ = some (.slice (some ⟨x.p, 0, none⟩) n n) ∧ W.cell? ⟨x.b, 2, none⟩ = some (.slice (some ⟨x.o, 0, none⟩) n n) ∧
    W.cell? ⟨x.b, 3, none⟩ = some lv ∧ W.cell? ⟨x.b, 4, none⟩ = some tv ∧ W.cell? ⟨x.b, 5, none⟩ = some x.iv ∧ W.cell? ⟨x.b, 6, none⟩ = some x.gv ∧ W.cell? ⟨x.b, 7, none⟩ = some (.map (some x.m)) ∧ W.cell? ⟨x.b, 8, none⟩ = some rv := by
  refine ⟨?_, ?_, ?_, ?_, ?_, ?_, ?_, ?_, ?_⟩ <;> (rw [cell_of_row W x.b _ _ _ _ h.row]; rfl)
theorem BkAt.fz (h : BkAt s0 Fx x n S P O L T R K lv tv rv W) (i : Nat) : W.frozen? ⟨x.b, i, none⟩ = false := frozen_of_row W x.b i _ _ h.row
theorem BkAt.s0le (h : BkAt s0 Fx x n S P O L T R K lv tv rv W) : s0 ≤ W.heap.size := Nat.le_of_lt (Nat.lt_of_le_of_lt h.low.1 h.ltb)
theorem BkAt.but (h : BkAt s0 Fx x n S P O L T R K lv tv rv W) {W' : World} {K' : List Nat} (hm : MapI W' x.m K') (hb : But x.m W W') : BkAt s0 Fx x n S P O L T R K' lv tv rv W' ∧ Mv s0 Fx W W' :=
  h.setM hm (But.below (Below.refl _ _) hb h.low.2.2.2.2 h.s0le) hb.block
end
set_option maxHeartbeats 6400000 in
set_option maxRecDepth 100000 in
theorem wait_any {s0 : Nat} {Fx : Nat → Prop} (x : Ad) (n : Nat) (S P O : Nat → Nat) (L : List Bl) (T R : List Nat) (lv tv rv : Value) (k : Nat) (w : World) (h : BkAt s0 Fx x n S P O L T R R lv tv rv w) (hk : k ∉ R) (hR : R.length ≤ 100000) :
    Calls Tryd.prog 83 #[.pointer (some ⟨x.b, 0, none⟩), .int .i64 k] w fun e w' => e = .returned (.tuple #[]) ∧ ∃ rv', BkAt s0 Fx x n S P O L T (R ++ [k]) (R ++ [k]) lv tv rv' w' ∧ Mv s0 Fx w w' := by
  obtain ⟨w1, hrun, hm, hb⟩ := h.mp.put k hk
  have H1 := Lib.hid (h.but hm hb)
  have HR := Lib.hid hR
  have c7 := h.cells.2.2.2.2.2.2.2.1
  clear hm hb hk hR h
  go_enter Tryd.func83, Tryd.ntmps83
  go_upto_region 1 with (refine wpList_put rfl _ _ _ 104 rfl (.map (some x.m)) (.int .i64 k) (.agg #[]) rfl rfl rfl hrun ?_)
  clear hrun c7
  have c8 := H1.out.1.cells.2.2.2.2.2.2.2.2
  go_wp2_with (refine wpList_pushN rfl (.tmp 14) (.tmp 16) rfl s0 rv (zI R) k rfl H1.out.1.rw rfl (by rw [zI_len]; exact HR.out) H1.out.1.s0le ?_; intro rv' w2 ho hb ha; have hrw := (ha.block x.b H1.out.1.ltb H1.out.1.sep.r.1).trans H1.out.1.row; have hf := frozen_of_row w2 x.b 8 _ _ hrw; have hc2 : w2.cell? ⟨x.b, 8, none⟩ = some rv := by { rw [cell_of_row w2 x.b 8 _ _ _ hrw]; rfl }; obtain ⟨a9, c9, rfl, -⟩ := own_slice ho; have HO := Lib.hid ho; have HB := Lib.hid hb; have HA := Lib.hid ha; clear ho hb ha hrw)
  go_end0
  have h2 := H1.out.1.pushR HO.out HB.out HA.out
  rw [List.length_append] at h2
  exact ⟨rfl, _, h2.1, H1.out.2.trans h2.2⟩
set_option maxHeartbeats 6400000 in
set_option maxRecDepth 100000 in
theorem take_any {s0 : Nat} {Fx : Nat → Prop} (x : Ad) (n : Nat) (S P O : Nat → Nat) (L : List Bl) (T R : List Nat) (lv tv rv : Value) (k : Nat) (w : World) (h : BkAt s0 Fx x n S P O L T (R ++ [k]) (R ++ [k]) lv tv rv w) (hk : k ∉ R) (hR : R.length ≤ 100000) :
    Calls Tryd.prog 56 #[.pointer (some ⟨x.b, 0, none⟩)] w fun e w' => e = .returned (.int .i64 k) ∧ ∃ rv', BkAt s0 Fx x n S P O L T R R lv tv rv' w' ∧ Mv s0 Fx w w' := by
  obtain ⟨a, c, rfl, ho⟩ := own_slice h.rw
  rw [zI_len] at h ho
  have h1 := h.cutR
  obtain ⟨w2, hrun, hm, hb⟩ : ∃ w2, (∀ ty, (Builtin.delete_ #[104, 3] ty #[.map (some x.m), .int .i64 k]).run Tryd.prog (w.setCell ⟨x.b, 8, none⟩ (.slice a R.length c)) = .ok (.tuple #[]) w2) ∧ MapI w2 x.m R ∧ But x.m (w.setCell ⟨x.b, 8, none⟩ (.slice a R.length c)) w2 := by
    obtain ⟨w2, hrun, hm, hb⟩ := h1.1.mp.drop hk 0
    exact ⟨w2, fun ty => hrun, hm, hb⟩
  have H2 := Lib.hid (h1.1.but hm hb)
  have H1 := Lib.hid h1
  clear hm hb
  have HR := Lib.hid hR
  obtain ⟨g, rfl⟩ : ∃ g, a = some ⟨g, 0, none⟩ := by
    rcases ho with ho | ⟨g, e, -⟩
    · rw [List.length_append] at ho; simp at ho
    · exact ⟨g, e⟩
  have hcell : w.cell? ⟨g, R.length, none⟩ = some (.int .i64 k) := by
    have h3 := h.rw
    unfold OwnN at h3
    rw [zI_len] at h3
    rw [World.ownsRow.cellAt h3 R.length (by rw [List.length_append]; simp)]
    unfold is64
    rw [zI_app, List.map_append, List.getElem?_append_right (by rw [List.length_map, zI_len]; exact Nat.le_refl _), List.length_map, zI_len, Nat.sub_self]; rfl
  have c8 := h.cells.2.2.2.2.2.2.2.2
  have f8 := h.fz 8
  have c7 := h1.1.cells.2.2.2.2.2.2.2.1
  have HW : Hid (wrap64 (((R ++ [k]).length : Int) - 1) = (R.length : Int)) := Lib.hid (by
    rw [List.length_append, List.length_singleton]
    unfold wrap64; omega)
  have hlt : (R.length : Int) < ((R ++ [k]).length : Int) := by rw [List.length_append, List.length_singleton]; omega
  have hle : R.length ≤ (R ++ [k]).length := by rw [List.length_append, List.length_singleton]; omega
  have hlc : (R ++ [k]).length ≤ c := by
    rcases h.rw.2 with ⟨h3, -⟩ | ⟨g', cap, cur, h3, _, _, h4, _⟩
    · cases h3
    · injection h3 with _ _ h5
      rw [zI_len] at h4
      omega
  have hwr := HW.out
  clear h1 hk hR h ho HW
  generalize (R ++ [k]).length = z at *
  go_enter Tryd.func56, Tryd.ntmps56
  go_upto_region 4 with fail
  generalize w.setCell ⟨x.b, 8, none⟩ (.slice (some ⟨g, 0, none⟩) R.length c) = w1 at *
  clear c8 f8 hcell hlt hle hlc
  go_wp2_with (refine wpList_drop rfl (.tmp 30) (.tmp 31) rfl x.m k rfl rfl hrun ?_)
  go_ret
  exact ⟨rfl, _, H2.out.1, H1.out.2.trans H2.out.2⟩
end Mi
end Go.Proofs.YtplkhgmjcljjhaaDoor
namespace Go.Proofs.YtplkhgmjcljjhaaDoor
open Go.RowKit Sets Nf
namespace Mi
section
variable {s0 : Nat} {Fx : Nat → Prop} {x : Ad} {n : Nat} {S P O : Nat → Nat} {L : List Bl} {T R K : List Nat} {tv rv : Value} {W : World} {g c : Nat}
theorem BkAt.lcell (h : BkAt s0 Fx x n S P O L T R K (.slice (some ⟨g, 0, none⟩) L.length c) tv rv W) {i : Nat} (hi : i < L.length) :
    W.cell? ⟨g, i * 3, none⟩ = some (.int .i64 ((gb L i).1 : Nat)) ∧ W.cell? ⟨g, i * 3 + 1, none⟩ = some (.int .i64 ((gb L i).2.1 : Nat)) ∧ W.cell? ⟨g, i * 3 + 2, none⟩ = some (.int .i64 ((gb L i).2.2 : Nat)) := by
  have hc : ∀ k, k < 3 → W.cell? ⟨g, i * 3 + k, none⟩ = (bl3 (gb L i))[k]? := fun k hk => by
    rw [World.ownsRow.cellAt h.li (i * 3 + k) (by omega), blL_get L i k hi hk]
  exact ⟨hc 0 (by decide), hc 1 (by decide), hc 2 (by decide)⟩
end
theorem wrap_nat {a : Nat} (h : a ≤ 1000000000) : wrap64 (a : Int) = (a : Int) := by unfold wrap64; omega
theorem wrap_sum {a b : Nat} (h : a + b ≤ 1000000000) : wrap64 ((a : Int) + (b : Int)) = ((a + b : Nat) : Int) := by unfold wrap64; omega
theorem wrap_one {a : Nat} (h : a ≤ 1000000000) : wrap64 ((a : Int) + 1) = ((a + 1 : Nat) : Int) := by unfold wrap64; omega
set_option maxHeartbeats 6400000 in
set_option maxRecDepth 100000 in
theorem mark_any {s0 : Nat} {Fx : Nat → Prop} (x : Ad) (n : Nat) (S P O : Nat → Nat) (L : List Bl) (T R K : List Nat) (g c : Nat) (tv rv : Value) (s : Nat) (w : World) (h : BkAt s0 Fx x n S P O L T R K (.slice (some ⟨g, 0, none⟩) L.length c) tv rv w)
    (hp : Pa n S P O L) (hs : s < n) (hm : ¬ Mkd P O L s) (hn : n ≤ 100000) (hT : T.length ≤ 100000) :
    Calls Tryd.prog 74 #[.pointer (some ⟨x.b, 0, none⟩), .int .i64 s] w fun e w' => e = .returned (.tuple #[]) ∧ ∃ tv', BkAt s0 Fx x n (mkS S P O L s) (mkP S P O L s) O (mkL O L s) (mkT O L T s) R K (.slice (some ⟨g, 0, none⟩) (mkL O L s).length c) tv' rv w' ∧ Mv s0 Fx w w' := by
  have HB := Lib.hid (h.stay ((Below.refl _ _).drew))
  have HV := Lib.hid (h.mv ((Below.refl _ _).drew))
  have hol := hp.o s hs
  have HPA := Lib.hid hp
  have HT := Lib.hid hT
  have HN := Lib.hid hn
  have HO := Lib.hid (And.intro (hp.own hs) (And.intro (hp.bl _ hol) (show ¬ P s < (gb L (O s)).1 + (gb L (O s)).2.2 from hm)))
  have HPS := Lib.hid (hp.ps s hs)
  have c3 := h.cells.2.2.2.1
  have c2 := h.cells.2.2.1
  have co := World.rowIs.cell h.of hs
  have hsi : (s : Int) < (n : Int) := by omega
  have hoi : (O s : Int) < (L.length : Int) := by omega
  have HS := Lib.hid hs
  have HOL := Lib.hid hol
  clear h hp hs hm hn hT hol
  go_enter Tryd.func74, Tryd.ntmps74
  go_upto_region 0 with fail
  refine region_mix [(false, 0), (false, 1), (false, 2), (false, 3), (false, 4), (false, 5), (false, 6), (false, 7), (false, 8), (false, 9), (false, 10), (false, 11)] (fun w' => w' = w.drew) (by kernel_rfl) (by kernel_rfl) rfl ?_
  simp only [planOps, List.map_cons, List.map_nil, List.getD_cons_zero, List.getD_cons_succ, List.length_cons, List.length_nil, List.drop_succ_cons, List.drop_zero]
  refine mix_seg (seg := [_, _, _, _, _, _, _, _, _, _, _, _]) (rest := []) rfl rfl ?_
  intro ι hι F hF
  have f3 : ∀ n, (F n).cell? ⟨x.b, 3, none⟩ = some (.slice (some ⟨g, 0, none⟩) L.length c) := fun n => by rw [hF n]; exact c3
  have f2 : ∀ n', (F n').cell? ⟨x.b, 2, none⟩ = some (.slice (some ⟨x.o, 0, none⟩) n n) := fun n => by rw [hF n]; exact c2
  have fo : ∀ n', (F n').cell? ⟨x.o, s, none⟩ = some (.int .i64 (O s)) := fun n => by rw [hF n]; exact co
  iterate 12 (go_big_quiet_step (fail))
  refine wpQuiet_nil ?_
  clear f3 f2 fo hF hι F c3 c2 co
  show wpList _ _ _ _ _ _
  go_wp2_with fail
  refine NoPanic.normal ?_
  generalize w.drew = w1 at *
  have ck := (HB.out.lcell HOL.out).2.2
  go_upto_if 23 with fail
  go_cut [] from 19 to 39 (fun wx => Hid (∃ tv', BkAt s0 Fx x n S P O L (mkT O L T s) R K (.slice (some ⟨g, 0, none⟩) L.length c) tv' rv wx ∧ Mv s0 Fx w wx))
  case first =>
    by_cases hz : (gb L (O s)).2.2 = 0
    · have hd : (((gb L (O s)).2.2 : Nat) : Int) = 0 := by omega
      have HZ : Hid (mkT O L T s = T ++ [O s]) := Lib.hid (if_pos hz)
      have hb : ((((gb L (O s)).2.2 : Nat) : Int) == 0) = true := by rw [hd]; rfl
      clear hz hd
      go_upto_region 2 with fail
      have HBD := Lib.hid (HB.out.stay ((Below.refl _ _).drew))
      have HVD := Lib.hid (HV.out.trans (HB.out.mv ((Below.refl _ _).drew)))
      have hsi2 := hsi
      have HC0 : Hid (w1.drew.cell? ⟨x.b, 4, none⟩ = some tv ∧ w1.drew.cell? ⟨x.b, 2, none⟩ = some (.slice (some ⟨x.o, 0, none⟩) n n) ∧ w1.drew.cell? ⟨x.o, s, none⟩ = some (.int .i64 (O s))) := Lib.hid ⟨HBD.out.cells.2.2.2.2.1, HBD.out.cells.2.2.1, World.rowIs.cell HBD.out.of HS.out⟩
      clear ck HB HV hb
      refine region_mix [(false, 0), (false, 1), (false, 2), (false, 3), (false, 4), (false, 5), (false, 6), (false, 7), (false, 8), (false, 9), (false, 10), (false, 11), (true, 12), (true, 13), (false, 14), (false, 15)] (fun w' => w'.cell? ⟨x.b, 4, none⟩ = some tv ∧ w'.cell? ⟨x.b, 2, none⟩ = some (.slice (some ⟨x.o, 0, none⟩) n n) ∧ w'.cell? ⟨x.o, s, none⟩ = some (.int .i64 (O s))) (by kernel_rfl) (by kernel_rfl) HC0.out ?_
      simp only [planOps, List.map_cons, List.map_nil, List.getD_cons_zero, List.getD_cons_succ, List.length_cons, List.length_nil, List.drop_succ_cons, List.drop_zero]
      refine mix_seg (seg := [_, _, _, _, _, _, _, _, _, _, _, _]) rfl HC0.out ?_
      intro ι hι F hF
      have f1 := fun n => (hF n).1
      have f2 := fun n => (hF n).2.1
      have f3 := fun n => (hF n).2.2
      iterate 12 (go_big_quiet_step (fail))
      refine wpQuiet_nil ?_
      clear f1 f2 f3 hF hι F
      generalize w1.drew = w2 at *
      refine mix_eff (fun K' hK => ?_)
      go_wp2_with fail
      refine mix_on hK ⟨by rw [World.cell?_alloc_past _ _ _ (World.block_lt_of_cell? _ _ HC0.out.1)]; exact HC0.out.1, by rw [World.cell?_alloc_past _ _ _ (World.block_lt_of_cell? _ _ HC0.out.2.1)]; exact HC0.out.2.1, by rw [World.cell?_alloc_past _ _ _ (World.block_lt_of_cell? _ _ HC0.out.2.2)]; exact HC0.out.2.2⟩ ?_
      clear hK K'
      refine mix_eff (fun K' hK => ?_)
      refine wpList_pushN rfl (.tmp 28) (.tmp 36) rfl s0 tv (zI T) (O s) rfl HBD.out.tch rfl (by rw [zI_len]; exact HT.out) HBD.out.s0le ?_
      intro tv' w3 ho hb ha
      have HPU := Lib.hid (HBD.out.pushT ho hb ha)
      have hrw := (ha.block x.b HBD.out.ltb HBD.out.sep.t.1).trans HBD.out.row
      have hf := frozen_of_row w3 x.b 4 _ _ hrw
      have hc3 : w3.cell? ⟨x.b, 4, none⟩ = some tv := by rw [cell_of_row w3 x.b 4 _ _ _ hrw]; rfl
      have hC : w3.cell? ⟨x.b, 4, none⟩ = some tv ∧ w3.cell? ⟨x.b, 2, none⟩ = some (.slice (some ⟨x.o, 0, none⟩) n n) ∧ w3.cell? ⟨x.o, s, none⟩ = some (.int .i64 (O s)) := ⟨hc3, by rw [cell_of_row w3 x.b 2 _ _ _ hrw]; rfl, (World.cell?_of_block (w := w2) (ha.block x.o (World.rowIs.lt HBD.out.of) HBD.out.tn.2.2.1)).trans HC0.out.2.2⟩
      obtain ⟨a9, c9, hsv, -⟩ := own_slice ho
      rw [List.length_append] at hsv
      subst hsv
      clear ho hb ha hrw
      refine wpList_nil ?_
      refine mix_on hK hC ?_
      clear hK K'
      refine mix_seg (seg := [_, _]) (rest := []) rfl hC ?_
      intro ι hι F hF
      simp only [Act.put, List.setIfInBounds_toArray, List.set_cons_zero, List.set_cons_succ]
      iterate 2 (go_big_quiet_step (fail))
      refine wpQuiet_nil ?_
      clear hF hι F hC
      show wpList _ _ _ _ _ _
      go_wp2_with fail
      refine NoPanic.normal ?_
      go_wp2_with fail
      go_meet
      case rel => exact Lib.hid ⟨_, by rw [HZ.out]; exact HPU.out.1, HVD.out.trans HPU.out.2⟩
    · have hb : ((((gb L (O s)).2.2 : Nat) : Int) == 0) = false := by rw [beq_eq_false_iff_ne]; omega
      have HZ : Hid (mkT O L T s = T) := Lib.hid (if_neg hz)
      clear hz
      go_wp2_with fail
      go_meet
      case rel => exact Lib.hid ⟨tv, by rw [HZ.out]; exact HB.out, HV.out⟩
  case rest =>
    obtain ⟨tv', HX⟩ := hcut.out
    have HB2 := Lib.hid HX.1
    have HV2 := Lib.hid HX.2
    clear HX hcut HB HV ck w1
    generalize wc = w2 at *
    go_upto_region 3 with fail
    have HB3 := Lib.hid (HB2.out.stay ((Below.refl _ _).drew))
    have HV3 := Lib.hid (HV2.out.trans (HB2.out.mv ((Below.refl _ _).drew)))
    have c3a := (HB2.out.lcell HOL.out).1
    have c3b := (HB2.out.lcell HOL.out).2.2
    obtain ⟨tq, hto⟩ : ∃ tq, Hid ((gb L (O s)).1 + (gb L (O s)).2.2 = tq) := ⟨_, Lib.hid rfl⟩
    have HTO : Hid (tq < n) := Lib.hid (by have := HO.out; have := hto.out; omega)
    have hw3 : wrap64 (((gb L (O s)).1 : Int) + ((gb L (O s)).2.2 : Int)) = (tq : Int) := by rw [← hto.out]; exact wrap_sum (by have := HTO.out; have := hto.out; have := HN.out; omega)
    refine region_mix [(false, 0), (false, 1), (false, 2), (false, 3), (false, 4), (false, 5), (false, 6), (false, 7), (false, 8)] (fun w' => w' = w2.drew) (by kernel_rfl) (by kernel_rfl) rfl ?_
    simp only [planOps, List.map_cons, List.map_nil, List.getD_cons_zero, List.getD_cons_succ, List.length_cons, List.length_nil, List.drop_succ_cons, List.drop_zero]
    refine mix_seg (seg := [_, _, _, _, _, _, _, _, _]) (rest := []) rfl rfl ?_
    intro ι hι F hF
    have f1 : ∀ n, (F n).cell? ⟨g, O s * 3, none⟩ = some (.int .i64 ((gb L (O s)).1 : Nat)) := fun n => by rw [hF n]; exact c3a
    have f2 : ∀ n, (F n).cell? ⟨g, O s * 3 + 2, none⟩ = some (.int .i64 ((gb L (O s)).2.2 : Nat)) := fun n => by rw [hF n]; exact c3b
    iterate 9 (go_big_quiet_step (fail))
    refine wpQuiet_nil ?_
    clear f1 f2 hF hι F c3a c3b
    show wpList _ _ _ _ _ _
    go_wp2_with fail
    refine NoPanic.normal ?_
    clear HB2 HV2
    generalize w2.drew = w3 at *
    have c0 := HB3.out.cells.1
    have c1 := HB3.out.cells.2.1
    have cs := World.rowIs.cell HB3.out.st HTO.out
    have hti : (tq : Int) < (n : Int) := by have := HTO.out; omega
    rw [hw3]
    clear hw3
    go_upto_region 5 with fail
    clear c0 c1 cs
    have HB4 := Lib.hid (HB3.out.stay ((Below.refl _ _).drew))
    have HV4 := Lib.hid (HV3.out.trans (HB3.out.mv ((Below.refl _ _).drew)))
    clear HB3 HV3
    generalize hw4 : w3.drew = w4 at *
    have HC0 : Hid (w4.cell? ⟨x.b, 0, none⟩ = some (.slice (some ⟨x.s, 0, none⟩) n n) ∧ w4.cell? ⟨x.b, 1, none⟩ = some (.slice (some ⟨x.p, 0, none⟩) n n) ∧ w4.cell? ⟨x.p, s, none⟩ = some (.int .i64 (P s : Nat))) := Lib.hid ⟨HB4.out.cells.1, HB4.out.cells.2.1, World.rowIs.cell HB4.out.pl HS.out⟩
    have hpi : (P s : Int) < (n : Int) := by have := HPS.out.1; omega
    have hsp := World.rowIs.cell HB4.out.st HPS.out.1
    have hfp := World.rowIs.frozen HB4.out.st (P s)
    have HS1 := Lib.hid (HB4.out.setS (P s) (S tq))
    obtain ⟨ot, hot⟩ : ∃ ot, Hid (S tq = ot) := ⟨_, Lib.hid rfl⟩
    have HSP := Lib.hid (HPA.out.sp tq HTO.out)
    rw [hot.out] at HS1 HSP ⊢
    have hoti : (ot : Int) < (n : Int) := by have := HSP.out.1; omega
    refine region_mix [(false, 0), (false, 1), (false, 2), (false, 3), (false, 4), (false, 5), (false, 6), (false, 7), (false, 8), (false, 9), (false, 10), (false, 11), (false, 12), (false, 13), (false, 14), (false, 15), (false, 16), (false, 17), (false, 18), (false, 19), (false, 20), (false, 21), (false, 22), (false, 23), (false, 24), (true, 25), (false, 26)] (fun w' => w'.cell? ⟨x.b, 0, none⟩ = some (.slice (some ⟨x.s, 0, none⟩) n n) ∧ w'.cell? ⟨x.b, 1, none⟩ = some (.slice (some ⟨x.p, 0, none⟩) n n) ∧ w'.cell? ⟨x.p, s, none⟩ = some (.int .i64 (P s : Nat))) (by kernel_rfl) (by kernel_rfl) (hw4 ▸ HC0.out) ?_
    simp only [planOps, List.map_cons, List.map_nil, List.getD_cons_zero, List.getD_cons_succ, List.length_cons, List.length_nil, List.drop_succ_cons, List.drop_zero]
    refine mix_seg (seg := [_, _, _, _, _, _, _, _, _, _, _, _, _, _, _, _, _, _, _, _, _, _, _, _, _]) rfl (hw4 ▸ HC0.out) ?_
    intro ι hι F hF
    have f1 := fun n => (hF n).1
    have f2 := fun n => (hF n).2.1
    have f3 := fun n => (hF n).2.2
    iterate 25 (go_big_quiet_step (fail))
    refine wpQuiet_nil ?_
    clear f1 f2 f3 hF hι F
    rw [hw4]
    clear hw4 w3
    refine mix_eff (fun K' hK => ?_)
    go_wp2_with fail
    have hC : (w4.setCell ⟨x.s, P s, none⟩ (.int .i64 ot)).cell? ⟨x.b, 0, none⟩ = some (.slice (some ⟨x.s, 0, none⟩) n n) ∧ (w4.setCell ⟨x.s, P s, none⟩ (.int .i64 ot)).cell? ⟨x.b, 1, none⟩ = some (.slice (some ⟨x.p, 0, none⟩) n n) ∧ (w4.setCell ⟨x.s, P s, none⟩ (.int .i64 ot)).cell? ⟨x.p, s, none⟩ = some (.int .i64 (P s : Nat)) := ⟨HS1.out.1.cells.1, HS1.out.1.cells.2.1, World.rowIs.cell HS1.out.1.pl HS.out⟩
    refine mix_on hK hC ?_
    clear hK K' hsp hfp HC0
    have HV5 := Lib.hid (HV4.out.trans HS1.out.2)
    have HB5 := Lib.hid HS1.out.1
    clear HB4 HV4 HS1
    generalize w4.setCell ⟨x.s, P s, none⟩ (.int .i64 ot) = w5 at *
    refine mix_seg (seg := [_]) (rest := []) rfl hC ?_
    intro ι hι F hF
    try simp only [Act.put, List.setIfInBounds_toArray, List.set_cons_zero, List.set_cons_succ]
    iterate 1 (go_big_quiet_step (fail))
    refine wpQuiet_nil ?_
    clear hF hι F hC
    show wpList _ _ _ _ _ _
    have hsp := World.rowIs.cell HB5.out.pl HSP.out.1
    have hfp := World.rowIs.frozen HB5.out.pl ot
    go_wp2_with fail
    refine NoPanic.normal ?_
    have HS1 := Lib.hid (HB5.out.setP ot (P s))
    have HV6 := Lib.hid (HV5.out.trans HS1.out.2)
    have HB6 := Lib.hid HS1.out.1
    clear HB5 HV5 HS1 hsp hfp
    generalize w5.setCell ⟨x.p, ot, none⟩ (.int .i64 (P s : Nat)) = w6 at *
    go_upto_region 6 with fail
    have HB7 := Lib.hid (HB6.out.stay ((Below.refl _ _).drew))
    have HV7 := Lib.hid (HV6.out.trans (HB6.out.mv ((Below.refl _ _).drew)))
    clear HB6 HV6
    generalize hw7 : w6.drew = w7 at *
    have HC0 : Hid (w7.cell? ⟨x.b, 0, none⟩ = some (.slice (some ⟨x.s, 0, none⟩) n n) ∧ w7.cell? ⟨x.b, 1, none⟩ = some (.slice (some ⟨x.p, 0, none⟩) n n)) := Lib.hid ⟨HB7.out.cells.1, HB7.out.cells.2.1⟩
    have hsp := World.rowIs.cell HB7.out.st HTO.out
    have hfp := World.rowIs.frozen HB7.out.st tq
    have HS1 := Lib.hid (HB7.out.setS tq s)
    refine region_mix [(false, 0), (false, 1), (false, 2), (false, 3), (false, 4), (false, 5), (false, 6), (false, 7), (false, 8), (false, 9), (false, 10), (false, 11), (false, 12), (true, 13), (false, 14)] (fun w' => w'.cell? ⟨x.b, 0, none⟩ = some (.slice (some ⟨x.s, 0, none⟩) n n) ∧ w'.cell? ⟨x.b, 1, none⟩ = some (.slice (some ⟨x.p, 0, none⟩) n n)) (by kernel_rfl) (by kernel_rfl) (hw7 ▸ HC0.out) ?_
    simp only [planOps, List.map_cons, List.map_nil, List.getD_cons_zero, List.getD_cons_succ, List.length_cons, List.length_nil, List.drop_succ_cons, List.drop_zero]
    refine mix_seg (seg := [_, _, _, _, _, _, _, _, _, _, _, _, _]) rfl (hw7 ▸ HC0.out) ?_
    intro ι hι F hF
    have f1 := fun n => (hF n).1
    have f2 := fun n => (hF n).2
    iterate 13 (go_big_quiet_step (fail))
    refine wpQuiet_nil ?_
    clear f1 f2 hF hι F
    rw [hw7]
    clear hw7 w6
    refine mix_eff (fun K' hK => ?_)
    go_wp2_with fail
    have hC : (w7.setCell ⟨x.s, tq, none⟩ (.int .i64 s)).cell? ⟨x.b, 0, none⟩ = some (.slice (some ⟨x.s, 0, none⟩) n n) ∧ (w7.setCell ⟨x.s, tq, none⟩ (.int .i64 s)).cell? ⟨x.b, 1, none⟩ = some (.slice (some ⟨x.p, 0, none⟩) n n) := ⟨HS1.out.1.cells.1, HS1.out.1.cells.2.1⟩
    refine mix_on hK hC ?_
    clear hK K' hsp hfp HC0
    have HV8 := Lib.hid (HV7.out.trans HS1.out.2)
    have HB8 := Lib.hid HS1.out.1
    clear HB7 HV7 HS1
    generalize w7.setCell ⟨x.s, tq, none⟩ (.int .i64 s) = w8 at *
    refine mix_seg (seg := [_]) (rest := []) rfl hC ?_
    intro ι hι F hF
    try simp only [Act.put, List.setIfInBounds_toArray, List.set_cons_zero, List.set_cons_succ]
    iterate 1 (go_big_quiet_step (fail))
    refine wpQuiet_nil ?_
    clear hF hι F hC
    show wpList _ _ _ _ _ _
    have hsp := World.rowIs.cell HB8.out.pl HS.out
    have hfp := World.rowIs.frozen HB8.out.pl s
    go_wp2_with fail
    refine NoPanic.normal ?_
    have HS1 := Lib.hid (HB8.out.setP s tq)
    have HV9 := Lib.hid (HV8.out.trans HS1.out.2)
    have HB9 := Lib.hid HS1.out.1
    clear HB8 HV8 HS1 hsp hfp
    generalize w8.setCell ⟨x.p, s, none⟩ (.int .i64 tq) = w9 at *
    have hm1 := (HB9.out.lcell HOL.out).2.2
    have hfl := HB9.out.li.frozenAt (O s * 3 + 2)
    have hw9 : wrap64 (((gb L (O s)).2.2 : Int) + 1) = (((gb L (O s)).2.2 + 1 : Nat) : Int) := wrap_one (by have := HO.out; have := HN.out; omega)
    have HS1 := Lib.hid (HB9.out.setL HOL.out (by decide : 2 < 3) (.int .i64 ((gb L (O s)).2.2 + 1 : Nat)) ((gb L (O s)).1, (gb L (O s)).2.1, (gb L (O s)).2.2 + 1) rfl)
    generalize hmm : (gb L (O s)).2.2 = mm at *
    generalize hff : (gb L (O s)).1 = ff at *
    generalize hgg : (gb L (O s)).2.1 = gg at *
    have HMM := Lib.hid (And.intro hmm (And.intro hff hgg))
    clear hmm hff hgg
    go_wp2_with fail
    go_end0
    rw [show ((mm : Nat) : Int) + 1 = ((mm + 1 : Nat) : Int) from by omega]
    refine ⟨rfl, tv', ?_, HV9.out.trans HS1.out.2⟩
    have h1 := HS1.out.1
    have hq := hto.out
    have hq2 := hot.out
    obtain ⟨e1, e2, e3⟩ := HMM.out
    unfold mkS mkP mkL
    rw [e1, e2, e3, hq]
    rw [← hq2] at h1
    exact h1
end Mi
end Go.Proofs.YtplkhgmjcljjhaaDoor
