/- Several texts in one. -/
import Derived.Test.YtmjjkamndlefmaaDoorPqS5
import Derived.Test.YtmjjkamndlefmaaDoorPq45
import Derived.Test.YtmjjkamndlefmaaDoorPq18
import Derived.Test.YtmjjkamndlefmaaDoorPqS2
namespace Go.Proofs.YtmjjkamndlefmaaDoor
open Go.RowKit Sets Nf Df Cls DfK DfR
namespace Sk
/-- The classes that a machine's sets part the bytes into. -/
abbrev clM (m : Mc) : Nat → Nat := cls (same (stTo m m.sp.length))
abbrev ncM (m : Mc) : Nat := nh (same (stTo m m.sp.length)) 256
def erM (m : Mc) : Int := if rightM m then 0 else 1
/-- What Build tells of a machine: its automaton, if it is right; else nothing. -/
structure BuM (m : Mc) (d : Dm) : Prop where
  yes : rightM m = true → Bd m (clM m) (ncM m) d
  no : rightM m = false → d = ⟨fun _ => 0, 0, [], []⟩
theorem ownDm_but {B q : Nat} {w w' : World} {z : Dx} {d : Dm} (h : OwnDm B w z d) (hb : But q w w') (hq : q < B) : OwnDm B w' z d := by
  obtain ⟨vs, h⟩ := h
  exact ⟨vs, own_kept h.nx fun g hg => hb.block g (h.nx.lt g hg).2 (by have := (h.nx.lt g hg).1; omega), h.len,
    fun i hi => own_kept (h.each i hi) fun g hg => hb.block g ((h.each i hi).lt g hg).2 (by have := ((h.each i hi).lt g hg).1; omega),
    own_kept h.fl fun g hg => hb.block g (h.fl.lt g hg).2 (by have := (h.fl.lt g hg).1; omega)⟩
set_option maxHeartbeats 1600000 in
theorem mbuild_any (x : Ma) (m : Mc) (w : World) (h : MAt w x m) (hf : Fine m) (h8 : m.sp.length ≤ 8) (hT : Tab w) :
    Calls Tryd.prog 20 #[.agg (mc x m), .agg (partC (clM m) (ncM m : Nat)), .pointer none] w fun e w' => ∃ z d, e = .returned (.tuple #[.agg (dvC z d), .int .i64 (erM m)]) ∧ Below w.heap.size w w' ∧ BuM m d ∧ DAt w' z d ∧ ∀ q, q < w.heap.size → ∀ W', But q w' W' → DAt W' z d := by
  cases hr : rightM m with
  | false =>
    refine (build_bad x m (clM m) (ncM m) (.pointer none) w h hf hr).mono ?_
    rintro e w' ⟨rfl, hb⟩
    have hd : ∀ W : World, DAt W ⟨none, 0, none, 0⟩ ⟨fun _ => 0, 0, [], []⟩ := fun W => ⟨fun i hi => by simp at hi, fun i hi => by simp at hi⟩
    exact ⟨⟨none, 0, none, 0⟩, ⟨fun _ => 0, 0, [], []⟩, by unfold erM; rw [hr]; rfl, hb, ⟨fun h => absurd (hr ▸ h) (by decide), fun _ => rfl⟩, hd w', fun q _ W' _ => hd W'⟩
  | true =>
    have hw : Whole m (clM m) := psame_whole (fun S hS => hS)
    refine (build_any x m (clM m) (ncM m) w h hf h8 (psame_right _) hw hT).mono ?_
    rintro e w' ⟨z, d, rfl, hb, hh⟩
    obtain ⟨ho, hbd⟩ := hh hr
    refine ⟨z, d, by unfold erM; rw [hr], hb, ⟨fun _ => hbd, fun h => absurd (hr ▸ h) (by decide)⟩, ho.at, fun q hq W' hW => ?_⟩
    exact (ownDm_but ho hW hq).at
theorem BuM.fine {m : Mc} {d : Dm} (h : BuM m d) : DFine d := by
  cases hr : rightM m with
  | true => exact (h.yes hr).fine
  | false =>
    rw [h.no hr]
    exact ⟨Nat.zero_le _, Nat.zero_le _, fun l hl => (by cases hl), fun c _ => by show 0 < 256; decide⟩
/-- What is kept while the operations of 'd, e := Build(m, Refine(Sets(m)...), nil)' come in whatever order. -/
structure IB (w0 : World) (x : Ma) (m : Mc) (L : Nat → Bool) (X : Nat → Value) (W : World) : Prop where
  bel : Below w0.heap.size w0 W
  c43 : L 3 = true → L 2 = true
  c4 : L 4 = true → L 3 = true
  c5 : L 5 = true → L 4 = true
  c6 : L 6 = true → L 4 = true
  c7 : L 7 = true → L 4 = true
  c9 : L 9 = true → L 4 = true ∧ L 8 = true
  a : L 0 = true → X 0 = .agg (mc x m)
  b : L 1 = true → X 1 = .agg (mc x m)
  c : L 2 = true → L 3 = false → SetsIn W (X 2) (stTo m m.sp.length)
  d : L 3 = true → X 3 = .agg (partC (clM m) (ncM m : Nat))
  e : L 4 = true → ∃ z dd, X 4 = .tuple #[.agg (dvC z dd), .int .i64 (erM m)] ∧ DAt W z dd ∧ BuM m dd ∧ (L 5 = true → X 5 = .tuple #[.agg (dvC z dd), .int .i64 (erM m)]) ∧ (L 6 = true → X 6 = .agg (dvC z dd)) ∧ (L 7 = true → X 7 = .int .i64 (erM m)) ∧
    (L 8 = true → ∀ q, X 8 = .pointer (some ⟨q, 0, none⟩) → (L 9 = false → ∀ W', But q W W' → DAt W' z dd) ∧ (L 9 = true → W.heap[q]? = some (.cells (dvC z dd) 28 (0, 0))))
  f : L 8 = true → ∃ q, X 8 = .pointer (some ⟨q, 0, none⟩) ∧ w0.heap.size ≤ q ∧ q < W.heap.size ∧ (L 9 = false → W.heap[q]? = some (.cells (dfC (fun _ => 0) 0 nilS nilS) 28 (0, 0)))
section
variable {w0 : World} {x : Ma} {m : Mc} {L : Nat → Bool} {X : Nat → Value} {W W' : World}
open Rinv (upd)
abbrev nx (L : Nat → Bool) (i : Nat) : Nat → Bool := fun j => j == i || L j
theorem IB.zero (w0 : World) (x : Ma) (m : Mc) (L : Nat → Bool) (X : Nat → Value) (h : ∀ j, j < 10 → L j = false) : IB w0 x m L X w0.drew := by
  have n : ∀ j, j < 10 → ¬ L j = true := fun j hj e => by rw [h j hj] at e; cases e
  exact ⟨(Below.refl _ _).drew, fun e => absurd e (n 3 (by decide)), fun e => absurd e (n 4 (by decide)), fun e => absurd e (n 5 (by decide)), fun e => absurd e (n 6 (by decide)), fun e => absurd e (n 7 (by decide)), fun e => absurd e (n 9 (by decide)), fun e => absurd e (n 0 (by decide)), fun e => absurd e (n 1 (by decide)), fun e => absurd e (n 2 (by decide)), fun e => absurd e (n 3 (by decide)), fun e => absurd e (n 4 (by decide)), fun e => absurd e (n 8 (by decide))⟩
theorem IB.s0 (h : IB w0 x m L X W) : IB w0 x m (nx L 0) (upd X 0 (.agg (mc x m))) W :=
  ⟨h.bel, h.c43, h.c4, h.c5, h.c6, h.c7, h.c9, fun _ => rfl, h.b, h.c, h.d, h.e, h.f⟩
theorem IB.s1 (h : IB w0 x m L X W) : IB w0 x m (nx L 1) (upd X 1 (.agg (mc x m))) W :=
  ⟨h.bel, h.c43, h.c4, h.c5, h.c6, h.c7, h.c9, h.a, fun _ => rfl, h.c, h.d, h.e, h.f⟩
theorem IB.f_kept (h : IB w0 x m L X W) (hb : Below W.heap.size W W') : L 8 = true → ∃ q, X 8 = .pointer (some ⟨q, 0, none⟩) ∧ w0.heap.size ≤ q ∧ q < W'.heap.size ∧ (L 9 = false → W'.heap[q]? = some (.cells (dfC (fun _ => 0) 0 nilS nilS) 28 (0, 0))) := fun h8 => by
  obtain ⟨q, h1, h2, h3, h4⟩ := h.f h8
  exact ⟨q, h1, h2, Nat.lt_of_lt_of_le h3 hb.size, fun h9 => (hb.block q h3).trans (h4 h9)⟩
theorem IB.no4 (h : IB w0 x m L X W) (h2 : L 2 = false) : L 4 = false := by
  cases h4 : L 4 with
  | false => rfl
  | true => have := h.c43 (h.c4 h4); rw [h2] at this; cases this
theorem IB.s2 (h : IB w0 x m L X W) (h2 : L 2 = false) {v : Value} (hb : Below W.heap.size W W') (hv : SetsIn W' v (stTo m m.sp.length)) : IB w0 x m (nx L 2) (upd X 2 v) W' :=
  ⟨h.bel.trans (hb.mono h.bel.size), fun _ => rfl, h.c4, h.c5, h.c6, h.c7, h.c9, h.a, h.b, fun _ _ => hv, h.d, fun h4 => absurd ((h.no4 h2).symm.trans h4) (by decide), h.f_kept hb⟩
theorem IB.s3 (h : IB w0 x m L X W) (h2 : L 2 = true) (h3 : L 3 = false) (hb : Below W.heap.size W W') : IB w0 x m (nx L 3) (upd X 3 (.agg (partC (clM m) (ncM m : Nat)))) W' :=
  ⟨h.bel.trans (hb.mono h.bel.size), fun _ => h2, fun _ => rfl, h.c5, h.c6, h.c7, h.c9, h.a, h.b, fun _ h9 => (by cases h9), fun _ => rfl, fun h4 => absurd (h3.symm.trans (h.c4 h4)) (by decide), h.f_kept hb⟩
theorem IB.s4 (h : IB w0 x m L X W) (h3 : L 3 = true) (h4 : L 4 = false) (hb : Below W.heap.size W W') {z : Dx} {dd : Dm} (hd : DAt W' z dd) (hm : BuM m dd) (hq : ∀ q, q < W.heap.size → ∀ W'', But q W' W'' → DAt W'' z dd) :
    IB w0 x m (nx L 4) (upd X 4 (.tuple #[.agg (dvC z dd), .int .i64 (erM m)])) W' := by
  have n5 : ¬ L 5 = true := fun e => by have := h.c5 e; rw [h4] at this; cases this
  have n6 : ¬ L 6 = true := fun e => by have := h.c6 e; rw [h4] at this; cases this
  have n7 : ¬ L 7 = true := fun e => by have := h.c7 e; rw [h4] at this; cases this
  have n9 : ¬ L 9 = true := fun e => by have := (h.c9 e).1; rw [h4] at this; cases this
  refine ⟨h.bel.trans (hb.mono h.bel.size), h.c43, fun _ => h3, fun _ => rfl, fun _ => rfl, fun _ => rfl, fun e => ⟨rfl, (h.c9 e).2⟩, h.a, h.b, fun _ h9 => absurd (h3.symm.trans h9) (by decide), h.d, fun _ => ⟨z, dd, rfl, hd, hm, fun e => absurd e n5, fun e => absurd e n6, fun e => absurd e n7, fun h8 q hx => ⟨fun _ => ?_, fun e => absurd e n9⟩⟩, h.f_kept hb⟩
  obtain ⟨q', h1, -, h5, -⟩ := h.f h8
  have : q = q' := by
    have h6 : X 8 = .pointer (some ⟨q, 0, none⟩) := hx
    rw [h1] at h6
    injection h6 with h6
    injection h6 with h6
    injection h6 with h6
    exact h6.symm
  rw [this]
  exact hq q' h5
theorem IB.s5 (h : IB w0 x m L X W) (h4 : L 4 = true) {z : Dx} {dd : Dm} (hx : X 4 = .tuple #[.agg (dvC z dd), .int .i64 (erM m)]) : IB w0 x m (nx L 5) (upd X 5 (.tuple #[.agg (dvC z dd), .int .i64 (erM m)])) W := by
  refine ⟨h.bel, h.c43, h.c4, fun _ => h4, h.c6, h.c7, h.c9, h.a, h.b, h.c, h.d, fun e => ?_, h.f⟩
  obtain ⟨z', d', h1, h2, h3, -, h5, h6, h7⟩ := h.e e
  exact ⟨z', d', h1, h2, h3, fun _ => (show _ = _ from hx.symm.trans h1), h5, h6, h7⟩
theorem IB.s6 (h : IB w0 x m L X W) (h4 : L 4 = true) {z : Dx} {dd : Dm} (hx : X 4 = .tuple #[.agg (dvC z dd), .int .i64 (erM m)]) : IB w0 x m (nx L 6) (upd X 6 (.agg (dvC z dd))) W := by
  refine ⟨h.bel, h.c43, h.c4, h.c5, fun _ => h4, h.c7, h.c9, h.a, h.b, h.c, h.d, fun e => ?_, h.f⟩
  obtain ⟨z', d', h1, h2, h3, h4, h5, h6, h7⟩ := h.e e
  refine ⟨z', d', h1, h2, h3, h4, fun _ => ?_, h6, h7⟩
  rw [hx] at h1
  injection h1 with h1
  have h8 := congrArg (·[0]?) h1
  simp at h8
  show Value.agg (dvC z dd) = _
  rw [h8]
theorem IB.s7 (h : IB w0 x m L X W) (h4 : L 4 = true) : IB w0 x m (nx L 7) (upd X 7 (.int .i64 (erM m))) W := by
  refine ⟨h.bel, h.c43, h.c4, h.c5, h.c6, fun _ => h4, h.c9, h.a, h.b, h.c, h.d, fun e => ?_, h.f⟩
  obtain ⟨z', d', h1, h2, h3, h4, h5, h6, h7⟩ := h.e e
  exact ⟨z', d', h1, h2, h3, h4, h5, fun _ => rfl, h7⟩
theorem IB.s8 (h : IB w0 x m L X W) (h8 : L 8 = false) : IB w0 x m (nx L 8) (upd X 8 (.pointer (some ⟨W.heap.size, 0, none⟩))) (W.alloc (.cells (dfC (fun _ => 0) 0 nilS nilS) 28)) := by
  have hal := (Below.refl W.heap.size W).alloc (Nat.le_refl _) (.cells (dfC (fun _ => 0) 0 nilS nilS) 28)
  have n9 : ¬ L 9 = true := fun e => by have := (h.c9 e).2; rw [h8] at this; cases this
  refine ⟨h.bel.trans (hal.mono h.bel.size), h.c43, h.c4, h.c5, h.c6, h.c7, fun e => ⟨(h.c9 e).1, rfl⟩, h.a, h.b, fun e1 e2 => (h.c e1 e2).kept hal, h.d, fun e => ?_, fun _ => ⟨W.heap.size, rfl, h.bel.size, by simp, fun _ => heap_alloc_new W _⟩⟩
  obtain ⟨z', d', h1, h2, h3, h4, h5, h6, -⟩ := h.e e
  refine ⟨z', d', h1, h2.kept hal, h3, h4, h5, h6, fun _ q hx => ⟨fun _ W' hW => ?_, fun e => absurd e n9⟩⟩
  have hq : q = W.heap.size := by
    have h7 : Value.pointer (some ⟨W.heap.size, 0, none⟩) = .pointer (some ⟨q, 0, none⟩) := hx
    injection h7 with h7
    injection h7 with h7
    injection h7 with h7
    exact h7.symm
  rw [hq] at hW
  exact h2.kept (hW.below hal (Nat.le_refl _) hal.size)
theorem IB.s9 (h : IB w0 x m L X W) (h4 : L 4 = true) (h8 : L 8 = true) (h9 : L 9 = false) (v : Value) {z : Dx} {dd : Dm} (hx : X 4 = .tuple #[.agg (dvC z dd), .int .i64 (erM m)]) {q : Nat} (hq : X 8 = .pointer (some ⟨q, 0, none⟩)) : IB w0 x m (nx L 9) (upd X 9 v) (W.setRow q (dvC z dd)) := by
  obtain ⟨q', h1, h2, h3, h5⟩ := h.f h8
  have e : q' = q := by
    rw [h1] at hq
    injection hq with hq
    injection hq with hq
    injection hq with hq
  subst e
  have hbt := But.setRow (w := W) q' (dvC z dd)
  refine ⟨hbt.below h.bel h2 h.bel.size, h.c43, h.c4, h.c5, h.c6, h.c7, fun _ => ⟨h4, h8⟩, h.a, h.b, fun _ e2 => absurd ((h.c4 h4).symm.trans e2) (by decide), h.d, fun e => ?_, fun _ => ⟨q', h1, h2, Nat.lt_of_lt_of_le h3 hbt.size, fun e => (by cases e)⟩⟩
  obtain ⟨z', d', g1, g2, g3, g4, g5, g6, g7⟩ := h.e e
  refine ⟨z', d', g1, (g7 h8 q' h1).1 h9 _ hbt, g3, g4, g5, g6, fun _ p hp => ⟨fun e => (by cases e), fun _ => ?_⟩⟩
  have hpq : p = q' := by
    have h7 : X 8 = .pointer (some ⟨p, 0, none⟩) := hp
    rw [h1] at h7
    injection h7 with h7
    injection h7 with h7
    injection h7 with h7
    exact h7.symm
  rw [hx] at g1
  injection g1 with g1
  have h8 := congrArg (·[0]?) g1
  simp at h8
  rw [hpq, ← h8]
  exact setRow_heap W q' _ _ _ _ (h5 h9)
end
end Sk
end Go.Proofs.YtmjjkamndlefmaaDoor
namespace Go.Proofs.YtmjjkamndlefmaaDoor
open Go.RowKit Sets Nf Df Cls
namespace Sk
theorem ls_tot' {a b : List Nat} (h1 : Le a b) (h2 : Le b a) : a = b := ls_tot h2 h1
/-- The chapter's machine without the empty text. -/
def bareM : Mc := ⟨[(ofN [97], 0), (ofN [98], 0), (ofN [99], 0)], [0], [[1, 2], [], []], [false, true, false], false⟩
theorem bare_right : rightM bareM = true := by decide +kernel
theorem bare_fine : Fine bareM := ⟨some_fine.sp, some_fine.fi, some_fine.fo, some_fine.la, some_fine.each, some_fine.fiN, some_fine.set⟩
def abS : ByteArray := ⟨#[97, 98]⟩
theorem bare_ab : takesM bareM (bs abS) = true := by decide +kernel
theorem zeroMc (w : World) : (zeroValue 43).run Tryd.prog w = .ok (.agg #[.slice none 0 0, .slice none 0 0, .slice none 0 0, .slice none 0 0, .bool false]) w := by kernel_rfl
theorem wpList_lay_mc {ops : Array Oper} {rest : List Oper} {o : Oper} {a : Act} {w : World} {Q : Exit → Act → World → Prop} (hgd : o.guard = none) (x y : Operand)
    (ho : o.op = .store 43 x y) (z : Ma) (m : Mc) (hx : a.eval x = .pointer (some ⟨w.heap.size, 0, none⟩)) (hy : a.eval y = .agg (mc z m))
    (h : wpList Tryd.prog ops Q rest (a.put o.dst undef) (w.alloc (.cells (mc z m) 43))) : wpList Tryd.prog ops Q (o :: rest) a (w.alloc (.cells #[.slice none 0 0, .slice none 0 0, .slice none 0 0, .slice none 0 0, .bool false] 43)) := by
  refine wpList_store_row hgd 43 x y ho w.heap.size (mc z m) hx hy 43 _ (heap_alloc_new w _) (sizeMach z m) rfl (oneMach z m) ?_
  rw [World.setRow_alloc_new]
  exact h
theorem ownM_types {B : Nat} {w w' : World} {x : Ma} {m : Mc} (h : OwnM B w x m) (hk : ∀ (k : Nat) (cs : Array Value) (t : TypeId), w.heap[k]? = some (.cells cs t (0, 0)) → t ≠ 43 → w'.heap[k]? = w.heap[k]?) : OwnM B w' x m := by
  obtain ⟨vs, h1, h2, h3⟩ := h.fo
  refine ⟨own_kept h.sp fun g hg => ?_, own_kept h.fi fun g hg => ?_, ⟨vs, h1, own_kept h2 fun g hg => ?_, fun i hi => own_kept (h3 i hi) fun g hg => ?_⟩, own_kept h.la fun g hg => ?_⟩
  · obtain ⟨cs, hc⟩ := own_type h.sp hg; exact hk g cs _ hc (by decide)
  · obtain ⟨cs, hc⟩ := own_type h.fi hg; exact hk g cs _ hc (by decide)
  · obtain ⟨cs, hc⟩ := own_type h2 hg; exact hk g cs _ hc (by decide)
  · obtain ⟨cs, hc⟩ := own_type (h3 i hi) hg; exact hk g cs _ hc (by decide)
  · obtain ⟨cs, hc⟩ := own_type h.la hg; exact hk g cs _ hc (by decide)
set_option maxHeartbeats 6400000 in
set_option maxRecDepth 100000 in
theorem bare_any (w : World) : Calls Tryd.prog 29 #[] w fun e w' => ∃ x, e = .returned (.agg (mc x bareM)) ∧ MAt w' x bareM ∧ Below w.heap.size w w' := by
  have hz := zeroMc
  go_enter Tryd.func29, Tryd.ntmps29
  go_upto_region 1 with fail
  have HR0 := Lib.hid (heap_alloc_new w (.cells #[.slice none 0 0, .slice none 0 0, .slice none 0 0, .slice none 0 0, .bool false] 43))
  have HB0 := Lib.hid ((Below.refl w.heap.size w).alloc (Nat.le_refl _) (.cells #[.slice none 0 0, .slice none 0 0, .slice none 0 0, .slice none 0 0, .bool false] 43))
  obtain ⟨s, hs⟩ : ∃ s, Hid (w.heap.size = s) := ⟨_, Lib.hid rfl⟩
  rw [hs.out] at HR0 HB0 ⊢
  generalize w.alloc (.cells #[.slice none 0 0, .slice none 0 0, .slice none 0 0, .slice none 0 0, .bool false] 43) = w1 at *
  have HSZ : Hid (s < w1.heap.size) := Lib.hid (Array.getElem?_eq_some_iff.1 HR0.out).1
  go_upto_region 2 with (first
    | (go_at_call 54; refine (some_any w1).mono ?_; rintro e w2 ⟨x, rfl, ho, hb⟩; have HO := Lib.hid ho; have HB := Lib.hid hb; clear ho hb)
    | (refine wpList_lay_mc rfl (.tmp 1) (.tmp 2) rfl x someM rfl rfl ?_))
  have hal := (Below.refl w2.heap.size w2).alloc (Nat.le_refl _) (.cells (mc x someM) 43)
  have HR1 := Lib.hid (heap_alloc_new w2 (.cells (mc x someM) 43))
  have HB1 := Lib.hid (HB.out.trans (hal.mono HB.out.size))
  have HBA := Lib.hid hal
  obtain ⟨q, hq⟩ : ∃ q, Hid (w2.heap.size = q) := ⟨_, Lib.hid rfl⟩
  have HQ : Hid (w1.heap.size ≤ q) := Lib.hid (by rw [← hq.out]; exact HB.out.size)
  rw [hq.out] at HR1 ⊢
  clear hal
  generalize w2.alloc (.cells (mc x someM) 43) = w3 at *
  have c4 : w3.cell? ⟨q, 4, none⟩ = some (.bool true) := by rw [cell_of_row w3 q 4 _ _ _ HR1.out]; rfl
  have f4 : w3.frozen? ⟨q, 4, none⟩ = false := frozen_of_row w3 q 4 _ _ HR1.out
  have HR2 : Hid ((w3.setCell ⟨q, 4, none⟩ (.bool false)).heap[q]? = some (.cells (mc x bareM) 43 (0, 0))) := Lib.hid (by
    rw [heap_setCell_same w3 q 4 _ _ _ HR1.out]; rfl)
  have HB2 := Lib.hid (But.set q w3 4 (.bool false))
  go_upto_region 3 with fail
  clear c4 f4
  generalize w3.setCell ⟨q, 4, none⟩ (.bool false) = w4 at *
  have HSQ : Hid (s ≠ q) := Lib.hid (by have := HSZ.out; have := HQ.out; omega)
  have HRS3 : Hid (w3.heap[s]? = some (.cells #[.slice none 0 0, .slice none 0 0, .slice none 0 0, .slice none 0 0, .bool false] 43 (0, 0))) := Lib.hid ((HB1.out.block s HSZ.out).trans HR0.out)
  have HRS : Hid (w4.heap[s]? = some (.cells #[.slice none 0 0, .slice none 0 0, .slice none 0 0, .slice none 0 0, .bool false] 43 (0, 0))) := Lib.hid ((HB2.out.block s (Array.getElem?_eq_some_iff.1 HRS3.out).1 HSQ.out).trans HRS3.out)
  have hbs := But.setRow (w := w4) s (mc x bareM)
  have HBE : Hid (Below s w (w4.setRow s (mc x bareM))) := Lib.hid (by
    have h1 : Below s w w3 := HB0.out.trans (HB1.out.mono (Nat.le_of_lt HSZ.out))
    have h2 : s ≤ w3.heap.size := by have := HB1.out.size; have := HSZ.out; omega
    have h3 := HB2.out.below h1 (by have := HQ.out; have := HSZ.out; omega) h2
    exact hbs.below h3 (Nat.le_refl _) (Nat.le_trans h2 HB2.out.size))
  have HME : Hid (MAt (w4.setRow s (mc x bareM)) x bareM) := Lib.hid (by
    have h1 : OwnM w1.heap.size (w4.setRow s (mc x bareM)) x someM := ownM_types HO.out (fun k cs t hk ht => by
      have hlt := (Array.getElem?_eq_some_iff.1 hk).1
      have h2 : w3.heap[k]? = w2.heap[k]? := HBA.out.block k hlt
      have hkq : k ≠ q := by have := hq.out; omega
      have h3 : w4.heap[k]? = w3.heap[k]? := HB2.out.block k (by have := HBA.out.size; omega) hkq
      have hks : k ≠ s := fun e => by
        have h5 := HRS.out
        rw [← e, h3, h2, hk] at h5
        injection h5 with h5
        injection h5 with _ h6
        exact ht h6
      rw [hbs.block k (by have := HBA.out.size; have := HB2.out.size; omega) hks, h3, h2])
    have h2 := h1.mat
    exact ⟨h2.sp, h2.fi, h2.fo, h2.la⟩)
  clear hbs
  go_wp2_with (first
    | (refine wpList_load_mach rfl _ rfl q x bareM rfl ⟨HR2.out⟩ ?_)
    | (refine wpList_store_row rfl 43 (.tmp 0) (.tmp 4) rfl s (mc x bareM) rfl rfl 43 _ HRS.out (sizeMach x bareM) rfl (oneMach x bareM) ?_))
  refine bodyPost_ret (v := .agg (mc x bareM)) (results_cell_row (p := 0) Tryd.results29 _ _ s 43 _ (0, 0) _ rfl (setRow_heap w4 _ _ _ _ _ HRS.out) Tryd.underlying43 rfl (sizeMach x bareM)) rfl ⟨x, rfl, HME.out, ?_⟩
  rw [hs.out]
  exact HBE.out
end Sk
end Go.Proofs.YtmjjkamndlefmaaDoor
namespace Go.Proofs.YtmjjkamndlefmaaDoor
open Go.RowKit Sets Nf Df Cls DfK DfR
namespace Sk
set_option maxHeartbeats 3200000 in
set_option maxRecDepth 100000 in
theorem empty_any (x : Dx) (d : Dm) (w : World) (h : DAt w x d) (hf : DFine d) (hR : d.R.length ≤ 1000) (hT : Tab w) :
    Calls Tryd.prog 15 #[.agg (dvC x d)] w fun e w' => (∃ s ok, e = .returned (.bool (!ok)) ∧ WordIs d s ok) ∧ Below w.heap.size w w' := by
  have HM := Lib.hid h
  have HF := Lib.hid hf
  have HR := Lib.hid hR
  have HT := Lib.hid hT
  have HG : Hid (0 < w.heap.size) := Lib.hid (World.block_lt_of_cell? _ _ (hT 0 (by decide)))
  clear h hf hR hT
  go_enter Tryd.func15, Tryd.ntmps15
  go_upto_region 1 with fail
  have HX := Lib.hid (BoxD.new w x d)
  have HB := Lib.hid ((Below.refl w.heap.size w).alloc (Nat.le_refl _) (.cells (dvC x d) 28))
  have HW := Lib.hid (word_any x d (w.alloc (.cells (dvC x d) 28)) (HM.out.kept HB.out) HF.out HR.out (HT.out.below HB.out HG.out))
  generalize w.alloc (.cells (dvC x d) 28) = w1 at *
  go_wp2_with (first
    | (refine BigFrame.wpList_want rfl (fun K' hK' => ?_); refine wp_load_dv _ rfl w.heap.size x d rfl HX.out ?_; refine hK' _ _ ?_; clear hK' K')
    | (go_at_call 13; refine HW.out.mono ?_; rintro e w2 ⟨⟨s, ok, rfl, hw⟩, hb⟩; have HWI := Lib.hid hw; have HB2 := Lib.hid (HB.out.trans (hb.mono HB.out.size)); clear hw hb))
  go_ret
  exact ⟨⟨s, ok, rfl, HWI.out⟩, HB2.out⟩
/-- What Word answers is one thing. -/
theorem WordIs.one {d : Dm} {s s' : ByteArray} {ok ok' : Bool} (h : WordIs d s ok) (h' : WordIs d s' ok') : ok = ok' ∧ Nf.bs s = Nf.bs s' := by
  rcases h with ⟨h1, hr, h2, -⟩ | ⟨h1, h2, h3⟩
  · rcases h' with ⟨g1, -, g2, -⟩ | ⟨g1, g2, g3⟩
    · exact ⟨by rw [h1, g1], h2.one g2⟩
    · exfalso
      have := g3 _ h2.byte
      rw [takes_R hr, h2.takes] at this; cases this
  · rcases h' with ⟨g1, gr, g2, -⟩ | ⟨g1, g2, g3⟩
    · exfalso
      have := h3 _ g2.byte
      rw [takes_R gr, g2.takes] at this; cases this
    · exact ⟨by rw [h1, g1], by rw [h2, g2]⟩
theorem bs_inj {s t : ByteArray} (h : Nf.bs s = Nf.bs t) : s = t := by
  unfold Nf.bs at h
  have h2 : s.data.toList = t.data.toList := List.map_inj_right (fun a b e => UInt8.toNat_inj.1 e) |>.1 h
  cases s; cases t
  simp only [ByteArray.mk.injEq]
  exact Array.toList_inj.1 h2
theorem bs_ex {u : List Nat} (h : byt u) : ∃ t : ByteArray, Nf.bs t = u := ⟨_, bs_of u h⟩
theorem takes_byt {m : Mc} (hS : ∀ k, stN m k < 2 ^ 256) {u : List Nat} (h : takesM m u = true) : byt u := by
  have hbit : ∀ k c, (stN m k).testBit c = true → c < 256 := fun k c hc => by
    rcases Nat.lt_or_ge c 256 with h1 | h1
    · exact h1
    · rw [Nat.testBit_lt_two_pow (Nat.lt_of_lt_of_le (hS k) (Nat.pow_le_pow_right (by decide) h1))] at hc; cases hc
  have hld : ∀ u k, Ld m u k → byt u := fun u k h => by
    induction h with
    | one h1 h2 => intro x hx; rw [List.mem_singleton] at hx; rw [hx]; exact hbit _ _ h2
    | more h1 h2 h3 ih => exact byt_snoc ih (hbit _ _ h3)
  have ht := ((takes_iff m u).1 h).2
  cases u with
  | nil => intro x hx; cases hx
  | cons c u =>
    obtain ⟨k, hk, -⟩ := (tk_iff (by simp)).1 ht
    exact hld _ k hk
theorem st_lt {m : Mc} (hf : Fine m) (k : Nat) : stN m k < 2 ^ 256 := by
  unfold stN
  rcases Nat.lt_or_ge k m.sp.length with h1 | h1
  · exact (hf.set _ (getD_mem h1)).1
  · rw [getD_ge h1]; exact Nat.two_pow_pos 256
/-- Path tells what Word tells of the machine's automaton. -/
theorem path_word {m : Mc} {d : Dm} (hf : Fine m) (hb : Bd m (clM m) (ncM m) d) {s t : ByteArray} {ok ok' : Bool} (h : PathIs m s ok) (h' : WordIs d t ok') : ok = ok' ∧ s = t := by
  have htk : ∀ u, byt u → takesD d u = takesM m u := fun u hu => by
    obtain ⟨v, rfl⟩ := bs_ex hu
    exact hb.takes v
  rcases h with ⟨h1, h2, -, h3⟩ | ⟨h1, h2, h3⟩
  · have hby := takes_byt (st_lt hf) h2
    rcases h' with ⟨g1, gr, g2, -⟩ | ⟨g1, g2, g3⟩
    · refine ⟨by rw [h1, g1], bs_inj ?_⟩
      have e1 : takesR d (Nf.bs s) = true := by rw [← takes_R gr, htk _ hby]; exact h2
      have e2 : takesM m (Nf.bs t) = true := by rw [← htk _ g2.byte, takes_R gr]; exact g2.takes
      exact ls_tot' (h3 _ e2) (g2.least _ hby e1)
    · exfalso
      have := g3 _ hby
      rw [htk _ hby, h2] at this; cases this
  · rcases h' with ⟨g1, gr, g2, -⟩ | ⟨g1, g2, g3⟩
    · exfalso
      have e2 : takesM m (Nf.bs t) = true := by rw [← htk _ g2.byte, takes_R gr]; exact g2.takes
      rw [h3] at e2; cases e2
    · exact ⟨by rw [h1, g1], by rw [h2, g2]⟩
theorem ab_list : (abS.toList == [97, 98]) = true := by decide +kernel
theorem bare_least : ∀ u, takesM bareM u = true → Le [97, 98] u := by
  intro u hu
  have ht := ((takes_iff bareM u).1 hu).2
  cases u with
  | nil => cases ht
  | cons c u =>
    obtain ⟨k, hk, hc, hg⟩ := ht
    have hk0 : k = 0 := by
      have h1 := (testBit_grp bareM.fi k).1 hk
      have h2 : k ∈ [0] := h1
      simpa using h2
    subst hk0
    have hc97 : c = 97 := by
      have h1 : (ofN [97]).testBit c = true := hc
      rw [ofN_testBit] at h1
      simpa using h1
    subst hc97
    cases hg with
    | done h => cases h
    | @more _ j c w h1 h2 h3 =>
      rcases Nat.lt_or_ge 2 (97 :: c :: w).length with hlen | hlen
      · exact .of ((ls_iff _ _).2 (.inl hlen))
      · have hw : w = [] := by
          simp at hlen
          exact hlen
        subst hw
        have hj : j = 1 ∨ j = 2 := by
          have h4 := (testBit_grp [1, 2] j).1 h1
          have h5 : j ∈ [1, 2] := h4
          simpa using h5
        rcases hj with rfl | rfl
        · have h6 : (ofN [98]).testBit c = true := h2
          rw [ofN_testBit] at h6
          have : c = 98 := by simpa using h6
          subst this
          exact .refl _
        · cases h3 with
          | done h => cases h
theorem bare_path {s : ByteArray} {ok : Bool} (h : PathIs bareM s ok) : s = abS ∧ ok = true := by
  rcases h with ⟨h1, h2, -, h3⟩ | ⟨-, -, h3⟩
  · exact ⟨bs_inj (ls_tot' (h3 _ bare_ab) (bare_least _ h2)), h1⟩
  · have := h3 (Nf.bs abS)
    rw [bare_ab] at this; cases this
def RBa : Nat → Nat
  | 0 => 10
  | 1 => 11
  | 2 => 12
  | 3 => 13
  | 4 => 14
  | 5 => 9
  | 6 => 15
  | 7 => 16
  | 8 => 2
  | _ => 1000
set_option maxHeartbeats 12800000 in
set_option maxRecDepth 100000 in
theorem awake13_any (w : World) (hT : Tab w) : Calls Tryd.prog 10 #[] w fun e w' => e = .returned (.bool true) ∧ Below w.heap.size w w' := by
  have HG : Hid (0 < w.heap.size) := Lib.hid (World.block_lt_of_cell? _ _ (hT 0 (by decide)))
  have HT := Lib.hid hT
  have hz := zeroMc
  clear hT
  go_enter Tryd.func10, Tryd.ntmps10
  go_upto_region 2 with (first
    | (go_at_call 29; refine (bare_any w).mono ?_; rintro e w1 ⟨x, rfl, hm, hb⟩; have HM := Lib.hid hm; have HB := Lib.hid hb; clear hm hb)
    | (refine wpList_lay_mc rfl (.tmp 1) (.tmp 8) rfl x bareM rfl rfl ?_))
  have hput : ∀ a : Act, a.put none undef = a := fun _ => rfl
  rw [hput]
  clear hput hz
  have hal := (Below.refl w1.heap.size w1).alloc (Nat.le_refl _) (.cells (mc x bareM) 43)
  have HX := Lib.hid (BoxM.new w1 x bareM)
  have HM2 := Lib.hid (HM.out.kept hal)
  have HB2 := Lib.hid (HB.out.trans (hal.mono HB.out.size))
  obtain ⟨s, hs⟩ : ∃ s, Hid (w1.heap.size = s) := ⟨_, Lib.hid rfl⟩
  rw [hs.out] at HX ⊢
  clear hal HM HB
  generalize w1.alloc (.cells (mc x bareM) 43) = w2 at *
  clear hs w1
  have HXB : Hid (∀ W, Below w2.heap.size w2 W → BoxM W s x bareM ∧ MAt W x bareM ∧ Tab W ∧ 0 < W.heap.size) := Lib.hid (fun W hW => by
    have h1 := HB2.out.trans (hW.mono HB2.out.size)
    exact ⟨HX.out.kept hW HX.out.lt, HM2.out.kept hW, HT.out.below h1 HG.out, Nat.lt_of_lt_of_le HG.out h1.size⟩)
  have HSZ := Lib.hid HX.out.lt
  have HW0 := Lib.hid HB2.out.size
  refine Rinv.region_inv4 (IB w2 x bareM) 10 RBa (by kernel_rfl) (by kernel_rfl) ?_ ?_ ?_ ?_
  · intro j hj
    have : j = 0 ∨ j = 1 ∨ j = 2 ∨ j = 3 ∨ j = 4 ∨ j = 5 ∨ j = 6 ∨ j = 7 ∨ j = 8 ∨ j = 9 := by omega
    rcases this with rfl | rfl | rfl | rfl | rfl | rfl | rfl | rfl | rfl | rfl
    iterate 9 exact .inl rfl
    exact .inr (Nat.le_of_ble_eq_true rfl)
  · intro L X hL
    exact IB.zero w2 x bareM L X (fun j hj => hL j hj)
  · intro i hi L X w' hLi hdep hI K hK
    have HK := Lib.hid hK
    have HI := Lib.hid hI
    have HLI := Lib.hid hLi
    have HXW := Lib.hid (HXB.out _ hI.bel)
    have hi' : i = 0 ∨ i = 1 ∨ i = 2 ∨ i = 3 ∨ i = 4 ∨ i = 5 ∨ i = 6 ∨ i = 7 ∨ i = 8 ∨ i = 9 := by omega
    clear hK hI hLi
    rcases hi' with rfl | rfl | rfl | rfl | rfl | rfl | rfl | rfl | rfl | rfl
    · simp only [List.getD_cons_zero]
      clear hdep
      simp only [Rinv.putAll, RBa, Act.put, List.setIfInBounds_toArray, List.set_cons_zero, List.set_cons_succ, List.set_nil]
      go_wp2_with (refine wpList_load_mach rfl _ rfl s x bareM rfl HXW.out.1 ?_)
      exact HK.out _ _ (.agg (mc x bareM)) (by simp only [Rinv.putAll, RBa, Act.put, List.setIfInBounds_toArray, List.set_cons_zero, List.set_cons_succ, List.set_nil]) (HI.out.s0)
    · simp only [List.getD_cons_zero, List.getD_cons_succ]
      clear hdep
      simp only [Rinv.putAll, RBa, Act.put, List.setIfInBounds_toArray, List.set_cons_zero, List.set_cons_succ, List.set_nil]
      go_wp2_with (refine wpList_load_mach rfl _ rfl s x bareM rfl HXW.out.1 ?_)
      exact HK.out _ _ (.agg (mc x bareM)) (by simp only [Rinv.putAll, RBa, Act.put, List.setIfInBounds_toArray, List.set_cons_zero, List.set_cons_succ, List.set_nil]) (HI.out.s1)
    · simp only [List.getD_cons_zero, List.getD_cons_succ]
      have e1 := HI.out.b (hdep 1 (by decide) (by unfold Rinv.waits; kernel_rfl))
      have HSE := Lib.hid (nsets_any x bareM w' HXW.out.2.1 bare_fine)
      clear hdep
      simp only [Rinv.putAll, RBa, Act.put, List.setIfInBounds_toArray, List.set_cons_zero, List.set_cons_succ, List.set_nil, e1]
      go_wp2_with (go_at_call 22; refine HSE.out.mono ?_; rintro e w4 ⟨a4, c4, rfl, ho4, hb4⟩; have HO4 := Lib.hid ho4; have HB4 := Lib.hid hb4; clear ho4 hb4)
      exact HK.out _ _ (.slice a4 (stTo bareM bareM.sp.length).length c4) (by simp only [Rinv.putAll, RBa, Act.put, List.setIfInBounds_toArray, List.set_cons_zero, List.set_cons_succ, List.set_nil, e1]) (HI.out.s2 HLI.out HB4.out (owns_setsIn HO4.out (by have := stTo_len bareM bareM.sp.length; have := (show bareM.sp.length ≤ 8 from by decide); unfold maxLen; omega)))
    · simp only [List.getD_cons_zero, List.getD_cons_succ]
      have h2 := hdep 2 (by decide) (by unfold Rinv.waits; kernel_rfl)
      have H2 := Lib.hid h2
      have HSI := Lib.hid (HI.out.c h2 HLI.out)
      clear h2
      generalize hv2 : X 2 = v2 at HSI
      have HRE := Lib.hid (Refine_any v2 _ w' HSI.out (by have := stTo_len bareM bareM.sp.length; have := (show bareM.sp.length ≤ 8 from by decide); omega))
      clear hdep
      simp only [Rinv.putAll, RBa, Act.put, List.setIfInBounds_toArray, List.set_cons_zero, List.set_cons_succ, List.set_nil, hv2]
      go_wp2_with (go_at_call 21; refine HRE.out.mono ?_; rintro e w4 ⟨rfl, hb4⟩; have HB4 := Lib.hid hb4; clear hb4)
      exact HK.out _ _ (.agg (partC (clM bareM) (ncM bareM : Nat))) (by simp only [Rinv.putAll, RBa, Act.put, List.setIfInBounds_toArray, List.set_cons_zero, List.set_cons_succ, List.set_nil, hv2]) (HI.out.s3 H2.out HLI.out HB4.out)
    · simp only [List.getD_cons_zero, List.getD_cons_succ]
      have e0 := HI.out.a (hdep 0 (by decide) (by unfold Rinv.waits; kernel_rfl))
      have h3 := hdep 3 (by decide) (by unfold Rinv.waits; kernel_rfl)
      have H3 := Lib.hid h3
      have e3 := HI.out.d h3
      clear h3
      have HBU := Lib.hid (mbuild_any x bareM w' HXW.out.2.1 bare_fine ((show bareM.sp.length ≤ 8 from by decide)) HXW.out.2.2.1)
      clear hdep
      simp only [Rinv.putAll, RBa, Act.put, List.setIfInBounds_toArray, List.set_cons_zero, List.set_cons_succ, List.set_nil, e0, e3]
      go_wp2_with (go_at_call 20; refine HBU.out.mono ?_; rintro e w4 ⟨z, dd, rfl, hb4, hm4, hd4, hq4⟩; have HB4 := Lib.hid hb4; have HM4 := Lib.hid hm4; have HD4 := Lib.hid hd4; have HQ4 := Lib.hid hq4; clear hb4 hm4 hd4 hq4)
      exact HK.out _ _ (.tuple #[.agg (dvC z dd), .int .i64 (erM bareM)]) (by simp only [Rinv.putAll, RBa, Act.put, List.setIfInBounds_toArray, List.set_cons_zero, List.set_cons_succ, List.set_nil, e0, e3]) (HI.out.s4 H3.out HLI.out HB4.out HD4.out HM4.out HQ4.out)
    · simp only [List.getD_cons_zero, List.getD_cons_succ]
      have h4 := hdep 4 (by decide) (by unfold Rinv.waits; kernel_rfl)
      obtain ⟨z, dd, e4, -⟩ := HI.out.e h4
      have H4 := Lib.hid h4
      have E4 := Lib.hid e4
      clear h4
      clear hdep
      simp only [Rinv.putAll, RBa, Act.put, List.setIfInBounds_toArray, List.set_cons_zero, List.set_cons_succ, List.set_nil, e4]
      go_wp2_with fail
      exact HK.out _ _ (.tuple #[.agg (dvC z dd), .int .i64 (erM bareM)]) (by simp only [Rinv.putAll, RBa, Act.put, List.setIfInBounds_toArray, List.set_cons_zero, List.set_cons_succ, List.set_nil, e4]) (HI.out.s5 H4.out E4.out)
    · simp only [List.getD_cons_zero, List.getD_cons_succ]
      have h5 := hdep 5 (by decide) (by unfold Rinv.waits; kernel_rfl)
      have h4 := HI.out.c5 h5
      obtain ⟨z, dd, e4, -, -, e5, -⟩ := HI.out.e h4
      replace e5 := e5 h5
      have H4 := Lib.hid h4
      have E4 := Lib.hid e4
      clear h4 h5 e4
      clear hdep
      simp only [Rinv.putAll, RBa, Act.put, List.setIfInBounds_toArray, List.set_cons_zero, List.set_cons_succ, List.set_nil, e5]
      go_wp2_with fail
      exact HK.out _ _ (.agg (dvC z dd)) (by simp only [Rinv.putAll, RBa, Act.put, List.setIfInBounds_toArray, List.set_cons_zero, List.set_cons_succ, List.set_nil, e5]) (HI.out.s6 H4.out E4.out)
    · simp only [List.getD_cons_zero, List.getD_cons_succ]
      have h5 := hdep 5 (by decide) (by unfold Rinv.waits; kernel_rfl)
      have h4 := HI.out.c5 h5
      obtain ⟨z, dd, e4, -, -, e5, -⟩ := HI.out.e h4
      replace e5 := e5 h5
      have H4 := Lib.hid h4
      clear h4 h5 e4
      clear hdep
      simp only [Rinv.putAll, RBa, Act.put, List.setIfInBounds_toArray, List.set_cons_zero, List.set_cons_succ, List.set_nil, e5]
      go_wp2_with fail
      exact HK.out _ _ (.int .i64 (erM bareM)) (by simp only [Rinv.putAll, RBa, Act.put, List.setIfInBounds_toArray, List.set_cons_zero, List.set_cons_succ, List.set_nil, e5]) (HI.out.s7 H4.out)
    · simp only [List.getD_cons_zero, List.getD_cons_succ]
      have hz := zeroD
      clear hdep
      simp only [Rinv.putAll, RBa, Act.put, List.setIfInBounds_toArray, List.set_cons_zero, List.set_cons_succ, List.set_nil]
      go_wp2_with fail
      exact HK.out _ _ (.pointer (some ⟨w'.heap.size, 0, none⟩)) (by simp only [Rinv.putAll, RBa, Act.put, List.setIfInBounds_toArray, List.set_cons_zero, List.set_cons_succ, List.set_nil]) (HI.out.s8 HLI.out)
    · simp only [List.getD_cons_zero, List.getD_cons_succ]
      have h4 := hdep 4 (by decide) (by unfold Rinv.waits; kernel_rfl)
      have h6 := hdep 6 (by decide) (by unfold Rinv.waits; kernel_rfl)
      have h8 := hdep 8 (by decide) (by unfold Rinv.waits; kernel_rfl)
      obtain ⟨z, dd, e4, -, -, -, e6, -⟩ := HI.out.e h4
      replace e6 := e6 h6
      obtain ⟨q, e8, -, -, hr8⟩ := HI.out.f h8
      have HR8 := Lib.hid (hr8 HLI.out)
      have H4 := Lib.hid h4
      have H8 := Lib.hid h8
      have E4 := Lib.hid e4
      have E8 := Lib.hid e8
      clear h4 h6 h8 e4 hr8
      clear hdep
      simp only [Rinv.putAll, RBa, Act.put, List.setIfInBounds_toArray, List.set_cons_zero, List.set_cons_succ, List.set_nil, e6, e8]
      go_wp2_with (refine wpList_store_row rfl 28 (.tmp 2) (.tmp 15) rfl q (dvC z dd) rfl rfl 28 _ HR8.out (sizeDf _ _ _ _) (by unfold dvC; rw [dfC_size, dfC_size]) (oneDf _ _ _ _ _ _ _ _) ?_)
      exact HK.out _ _ (undef) (by simp only [Rinv.putAll, RBa, Act.put, List.setIfInBounds_toArray, List.set_cons_zero, List.set_cons_succ, List.set_nil, e6, e8]) (HI.out.s9 H4.out H8.out HLI.out undef E4.out E8.out)
  · intro L X w' hall hI K hK
    have HK := Lib.hid hK
    have HI := Lib.hid hI
    clear hK hI
    obtain ⟨z, dd, e4, hd, hm, e5, e6, e7, h8⟩ := HI.out.e (hall 4 (by decide))
    replace e5 := e5 (hall 5 (by decide))
    replace e6 := e6 (hall 6 (by decide))
    replace e7 := e7 (hall 7 (by decide))
    obtain ⟨q, e8, hq, hqs, -⟩ := HI.out.f (hall 8 (by decide))
    have HDD := Lib.hid hd
    have HBM := Lib.hid hm
    have HDR := Lib.hid ((h8 (hall 8 (by decide)) q e8).2 (hall 9 (by decide)))
    have HQ0 := Lib.hid hq
    have HBW := Lib.hid HI.out.bel
    have e0 := HI.out.a (hall 0 (by decide))
    have e1 := HI.out.b (hall 1 (by decide))
    have e3 := HI.out.d (hall 3 (by decide))
    clear hd hm h8 hq hqs HI hall
    simp only [List.getD_cons_zero, List.getD_cons_succ]
    simp only [Rinv.putAll, RBa, Act.put, List.setIfInBounds_toArray, List.set_cons_zero, List.set_cons_succ, List.set_nil, e0, e1, e3, e4, e5, e6, e7, e8]
    clear e0 e1 e3 e4 e5 e6 e7 e8
    go_wp2_with fail
    refine HK.out _ _ ?_
    clear HK
    generalize X 2 = y2 at *
    clear X
    have HKE : Hid (∀ W, Below w'.heap.size w' W → BoxM W s x bareM ∧ MAt W x bareM ∧ Tab W ∧ DAt W z dd ∧ W.heap[q]? = some (.cells (dvC z dd) 28 (0, 0)) ∧ Below w.heap.size w W) := Lib.hid (fun W hW => by
      have h1 := HBW.out.trans (hW.mono HBW.out.size)
      obtain ⟨h2, h3, h4, -⟩ := HXB.out W h1
      exact ⟨h2, h3, h4, HDD.out.kept hW, (hW.block q (Array.getElem?_eq_some_iff.1 HDR.out).1).trans HDR.out, HB2.out.trans (h1.mono HB2.out.size)⟩)
    have HBD := Lib.hid (HBM.out.yes bare_right)
    have HWD := Lib.hid (fun W (hW : Below w'.heap.size w' W) => word_any z dd W (HKE.out W hW).2.2.2.1 HBD.out.fine (by have := HBD.out.few; omega) (HKE.out W hW).2.2.1)
    have HPA := Lib.hid (fun W (hW : Below w'.heap.size w' W) => path_any x bareM W (HKE.out W hW).2.1 bare_fine (HKE.out W hW).2.2.1)
    have HEM := Lib.hid (fun W (hW : Below w'.heap.size w' W) => empty_any z dd W (HKE.out W hW).2.2.2.1 HBD.out.fine (by have := HBD.out.few; omega) (HKE.out W hW).2.2.1)
    have HLB : Hid (ls (Nf.bs ⟨#[98]⟩) (Nf.bs abS) = true) := Lib.hid (by decide +kernel)
    have HLS := Lib.hid (fun W => less_any ⟨#[98]⟩ abS W)
    rw [HLB.out] at HLS
    have HAB : Hid (∀ (s : ByteArray) ok (t : ByteArray) ok', PathIs bareM s ok → WordIs dd t ok' → s = abS ∧ ok = true ∧ t = abS ∧ ok' = true) := Lib.hid (fun s ok t ok' h h' => by
      obtain ⟨h1, h2⟩ := bare_path h
      obtain ⟨h3, h4⟩ := path_word bare_fine HBD.out h h'
      exact ⟨h1, h2, by rw [← h4, h1], by rw [← h3, h2]⟩)
    have her : erM bareM = 0 := by unfold erM; rw [bare_right]; rfl
    rw [her]
    clear her HXB HDD HBM HX HM2 HT
    have HB0 := Lib.hid (Below.refl w'.heap.size w')
    go_upto_region 5 with (first
      | (refine BigFrame.wpList_want rfl (fun K' hK' => ?_); refine wp_load_dv _ rfl q z dd rfl ⟨HDR.out⟩ ?_; refine hK' _ _ ?_; clear hK' K')
      | (go_at_call 13; refine (HWD.out _ HB0.out).mono ?_; rintro e w4 ⟨⟨t, ok, rfl, hw⟩, hb⟩; have HWI := Lib.hid hw; have HB4 := Lib.hid hb; clear hw hb)
      | (refine wpList_load_mach rfl _ rfl s x bareM rfl (HKE.out _ HB4.out).1 ?_)
      | (go_at_call 19; refine (HPA.out _ HB4.out).mono ?_; rintro e w5 ⟨⟨t2, ok2, rfl, hp⟩, hb⟩; have HPI := Lib.hid hp; have HB5 := Lib.hid (HB4.out.trans (hb.mono HB4.out.size)); clear hp hb))
    obtain ⟨rfl, rfl, rfl, rfl⟩ := HAB.out _ _ _ _ HPI.out HWI.out
    have hq1 : ((0 : Int) == 0) = true := rfl
    have hst : (abS.toList == [97, 98]) = true := ab_list
    have hst2 : abS.toList = [97, 98] := by simpa using hst
    go_wp2_with (first
      | (refine BigFrame.wpList_want rfl (fun K' hK' => ?_); refine wp_load_dv _ rfl q z dd rfl ⟨(HKE.out _ HB5.out).2.2.2.2.1⟩ ?_; refine hK' _ _ ?_; clear hK' K')
      | (go_at_call 15; refine (HEM.out _ HB5.out).mono ?_; rintro e w6 ⟨⟨t3, ok3, rfl, hw⟩, hb⟩; obtain ⟨h7, -⟩ := WordIs.one HWI.out hw; subst h7; have HB6 := Lib.hid (HB5.out.trans (hb.mono HB5.out.size)); clear hw hb)
      | (go_at_call 11; refine (HLS.out _).mono ?_; rintro e w7 ⟨rfl, rfl⟩))
    go_ret
    exact ⟨rfl, (HKE.out _ HB6.out).2.2.2.2.2⟩
end Sk
end Go.Proofs.YtmjjkamndlefmaaDoor
