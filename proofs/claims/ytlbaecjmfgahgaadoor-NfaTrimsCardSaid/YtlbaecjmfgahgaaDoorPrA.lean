/- Several texts in one. -/
import Derived.Test.YtlbaecjmfgahgaaDoorNfR
import Derived.Test.YtlbaecjmfgahgaaDoorNfL
import Derived.Test.YtlbaecjmfgahgaaDoorNfG
namespace Go.Proofs.YtlbaecjmfgahgaaDoor
open Sets Nf
namespace Nu
def u1 (C : Nat → Bool) (j : Nat) (v : Bool) : Nat → Bool := fun t => if t = j then v else C t
theorem u1_same (C : Nat → Bool) (j : Nat) (v : Bool) : u1 C j v j = v := if_pos rfl
theorem u1_id {C : Nat → Bool} {j : Nat} (h : C j = true) : u1 C j true = C := by
  funext t
  unfold u1
  split
  · next e => rw [e, h]
  · rfl
def fl (m : Mc) (i : Nat) : Bool := stN m i != 0
theorem fl_bit (m : Mc) (i : Nat) : fl m i = true ↔ (fullN m).testBit i = true := by
  rw [full_bit]; unfold fl; rw [bne_iff_ne]
def jn (m : Mc) (i k : Nat) : Nat := ((m.fo.getD i []).getD k 0).toNat
def cnt1 (m : Mc) (C : Nat → Bool) : Nat := ((List.range m.sp.length).filter C).length
theorem cnt1_le (m : Mc) (C : Nat → Bool) : cnt1 m C ≤ m.sp.length := by
  unfold cnt1
  have := List.length_filter_le C (List.range m.sp.length)
  rwa [List.length_range] at this
theorem cf_le {p q : Nat → Bool} : ∀ N : Nat, (∀ t, t < N → q t = true → p t = true) → ((List.range N).filter q).length ≤ ((List.range N).filter p).length
  | 0, _ => Nat.le_refl _
  | N + 1, h => by
    have ih := cf_le N (fun t ht => h t (by omega))
    rw [List.range_succ, List.filter_append, List.filter_append, List.length_append, List.length_append]
    have := h N (by omega)
    cases hq : q N with
    | false => simp [hq]; omega
    | true => simp [hq, this hq]; omega
theorem cf_lt {p q : Nat → Bool} : ∀ (N t0 : Nat), (∀ t, t < N → q t = true → p t = true) → t0 < N → p t0 = true → q t0 = false → ((List.range N).filter q).length + 1 ≤ ((List.range N).filter p).length
  | 0, _, _, h, _, _ => absurd h (Nat.not_lt_zero _)
  | N + 1, t0, h, ht, hp, hq => by
    rw [List.range_succ, List.filter_append, List.filter_append, List.length_append, List.length_append]
    by_cases e : t0 = N
    · subst e
      have ih := cf_le t0 (fun t ht => h t (by omega))
      simp [hp, hq]; omega
    · have ih := cf_lt N t0 (fun t ht => h t (by omega)) (by omega) hp hq
      have := h N (by omega)
      cases hq : q N with
      | false => simp [hq]; omega
      | true => simp [hq, this hq]; omega
/-! One row; R: what the row may hold; B: what it must at once; E i k: what holds it holds more. -/
/-- Each of R that is from E of what is there, is there: as far as rows below a, pairs below i, k. -/
structure Vw (m : Mc) (b : Nat → Bool) (s t : Nat → Nat → Nat) (C : Nat → Bool) (a i k : Nat) : Prop where
  base : ∀ r, r < m.sp.length → r < a → b r = true → C r = true
  pair : ∀ r q, r < m.sp.length → q < (m.fo.getD r []).length → (r < i ∨ (r = i ∧ q < k)) → C (s r q) = true → fl m (t r q) = true → C (t r q) = true
/-- A round: from the row C0 to C. -/
structure Ur (m : Mc) (R : Nat → Prop) (b : Nat → Bool) (s t : Nat → Nat → Nat) (C0 : Nat → Bool) (a i k : Nat) (C : Nat → Bool) : Prop where
  sound : ∀ r, r < m.sp.length → C r = true → R r
  mono : ∀ r, r < m.sp.length → C0 r = true → C r = true
  view : cnt1 m C0 + 1 ≤ cnt1 m C ∨ ((∀ r, r < m.sp.length → C r = C0 r) ∧ Vw m b s t C a i k)
section
variable {m : Mc} {R : Nat → Prop} {b : Nat → Bool} {s t : Nat → Nat → Nat} {C0 C : Nat → Bool} {a i k : Nat}
theorem Ur.start (h : ∀ r, r < m.sp.length → C r = true → R r) : Ur m R b s t C 0 0 0 C := ⟨h, fun _ _ h => h, .inr ⟨fun _ _ => rfl, fun r _ h => absurd h (Nat.not_lt_zero _), fun r q _ _ h => by omega⟩⟩
/-- One is laid. -/
theorem Ur.put (h : Ur m R b s t C0 a i k C) {j : Nat} (hj : j < m.sp.length) (hr : R j) : Ur m R b s t C0 a i k (u1 C j true) := by
  cases hc : C j with
  | true => rw [u1_id hc]; exact h
  | false =>
    refine ⟨fun r hr' hq => ?_, fun r hr' hq => ?_, .inl ?_⟩
    · unfold u1 at hq
      by_cases e : r = j
      · rw [e]; exact hr
      · rw [if_neg e] at hq; exact h.sound r hr' hq
    · unfold u1
      split
      · rfl
      · exact h.mono r hr' hq
    · have h1 : cnt1 m C0 ≤ cnt1 m C := cf_le _ h.mono
      have h2 : cnt1 m C + 1 ≤ cnt1 m (u1 C j true) := cf_lt _ j (fun r _ hq => by unfold u1; split; rfl; exact hq) hj (u1_same _ _ _) hc
      omega
theorem Ur.base (h : Ur m R b s t C0 i i 0 C) (hb : b i = true → C i = true) : Ur m R b s t C0 (i + 1) i 0 C := by
  refine ⟨h.sound, h.mono, ?_⟩
  rcases h.view with h1 | ⟨h1, h2⟩
  · exact .inl h1
  · refine .inr ⟨h1, fun r hr hi hq => ?_, h2.pair⟩
    by_cases e : r = i
    · rw [e] at hq ⊢; exact hb hq
    · exact h2.base r hr (by omega) hq
theorem Ur.pair (h : Ur m R b s t C0 a i k C) (hb : C (s i k) = true → fl m (t i k) = true → C (t i k) = true) : Ur m R b s t C0 a i (k + 1) C := by
  refine ⟨h.sound, h.mono, ?_⟩
  rcases h.view with h1 | ⟨h1, h2⟩
  · exact .inl h1
  · refine .inr ⟨h1, h2.base, fun r q hr hq ho g1 g2 => ?_⟩
    by_cases e : r = i ∧ q = k
    · obtain ⟨rfl, rfl⟩ := e
      exact hb g1 g2
    · exact h2.pair r q hr hq (by omega) g1 g2
theorem Ur.row (h : Ur m R b s t C0 (i + 1) i (m.fo.getD i []).length C) : Ur m R b s t C0 (i + 1) (i + 1) 0 C := by
  refine ⟨h.sound, h.mono, ?_⟩
  rcases h.view with h1 | ⟨h1, h2⟩
  · exact .inl h1
  · refine .inr ⟨h1, h2.base, fun r q hr hq ho g1 g2 => h2.pair r q hr hq ?_ g1 g2⟩
    rcases ho with ho | ⟨-, ho⟩
    · by_cases e : r = i
      · subst e; exact .inr ⟨rfl, hq⟩
      · exact .inl (by omega)
    · omega
/-- Behind r rounds: all is there, or r are. -/
structure Ro (m : Mc) (R : Nat → Prop) (b : Nat → Bool) (s t : Nat → Nat → Nat) (r : Nat) (C : Nat → Bool) : Prop where
  sound : ∀ r, r < m.sp.length → C r = true → R r
  many : Vw m b s t C m.sp.length m.sp.length 0 ∨ r ≤ cnt1 m C
theorem Ro.start : Ro m R b s t 0 (fun _ => false) := ⟨fun _ _ h => (by cases h), .inr (Nat.zero_le _)⟩
theorem Ro.begin {r : Nat} (h : Ro m R b s t r C) : Ur m R b s t C 0 0 0 C := Ur.start h.sound
theorem Ro.next {r : Nat} (h : Ro m R b s t r C0) (hu : Ur m R b s t C0 m.sp.length m.sp.length 0 C) (hw : ∀ C', (∀ r, r < m.sp.length → C' r = true → R r) → Vw m b s t C' m.sp.length m.sp.length 0 → ∀ r, r < m.sp.length → R r → C' r = true)
    (hst : ∀ r q, r < m.sp.length → q < (m.fo.getD r []).length → s r q < m.sp.length ∧ t r q < m.sp.length) : Ro m R b s t (r + 1) C := by
  refine ⟨hu.sound, ?_⟩
  rcases h.many with h1 | h1
  · refine .inl ⟨fun r hr ha hb => hu.mono r hr (h1.base r hr ha hb), fun r q hr hq ho g1 g2 => ?_⟩
    obtain ⟨l1, l2⟩ := hst r q hr hq
    have hR := hu.sound _ l1 g1
    exact hu.mono _ l2 (h1.pair r q hr hq ho (hw C0 h.sound h1 _ l1 hR) g2)
  · rcases hu.view with h2 | ⟨h2, h3⟩
    · exact .inr (by omega)
    · exact .inl h3
theorem Ro.done {r : Nat} (h : Ro m R b s t r C) (hr : m.sp.length < r) (hw : ∀ C', (∀ r, r < m.sp.length → C' r = true → R r) → Vw m b s t C' m.sp.length m.sp.length 0 → ∀ r, r < m.sp.length → R r → C' r = true) : ∀ i, i < m.sp.length → (C i = true ↔ R i) := by
  intro i hi
  refine ⟨h.sound i hi, ?_⟩
  rcases h.many with h1 | h1
  · exact hw C h.sound h1 i hi
  · have := cnt1_le m C
    omega
end
/-! What comes, what goes. -/
def bC (m : Mc) (i : Nat) : Bool := (grp m.fi).testBit i && fl m i
def bG (m : Mc) (i : Nat) : Bool := m.la.getD i false && fl m i
def here (i _k : Nat) : Nat := i
abbrev UrC (m : Mc) := Ur m (Co m) (bC m) here (jn m)
abbrev UrG (m : Mc) := Ur m (Gg m) (bG m) (jn m) here
abbrev RoC (m : Mc) := Ro m (Co m) (bC m) here (jn m)
abbrev RoG (m : Mc) := Ro m (Gg m) (bG m) (jn m) here
theorem fo_at {m : Mc} (hr : Rt m) {a i : Nat} (hi : i < (m.fo.getD a []).length) : (m.fo.getD a []).getD i 0 = (jn m a i : Int) ∧ jn m a i < m.sp.length ∧ (foN m a).testBit (jn m a i) = true := by
  have hm := getD_mem (d := 0) hi
  by_cases ha : a < m.fo.length
  · have hl : m.fo.getD a [] ∈ m.fo := getD_mem ha
    have h1 := ((rise_iff _ _).1 (hr.foR _ hl)).1 _ hm
    have e : (m.fo.getD a []).getD i 0 = (jn m a i : Int) := by unfold jn; omega
    refine ⟨e, by unfold jn; omega, ?_⟩
    exact (testBit_grp _ _).2 (List.mem_map.2 ⟨_, hm, rfl⟩)
  · rw [List.getD_eq_getElem?_getD (l := m.fo), List.getElem?_eq_none (by omega)] at hi
    exact absurd hi (Nat.not_lt_zero _)
theorem fo_ix {m : Mc} {a x : Nat} (h : (foN m a).testBit x = true) : ∃ i, i < (m.fo.getD a []).length ∧ jn m a i = x := by
  have hm := (testBit_grp _ _).1 h
  obtain ⟨i, hi, e⟩ := List.mem_iff_getElem.1 hm
  rw [List.getElem_map] at e
  rw [List.length_map] at hi
  refine ⟨i, hi, ?_⟩
  unfold jn
  rw [List.getD_eq_getElem?_getD, List.getElem?_eq_getElem hi]
  exact e
theorem fo_lt {m : Mc} (hr : Rt m) {a x : Nat} (h : (foN m a).testBit x = true) : a < m.sp.length := by
  obtain ⟨i, hi, -⟩ := fo_ix h
  by_cases ha : a < m.fo.length
  · rw [← hr.fol]; exact ha
  · rw [List.getD_eq_getElem?_getD (l := m.fo), List.getElem?_eq_none (by omega)] at hi
    exact absurd hi (Nat.not_lt_zero _)
theorem full_rng {m : Mc} {k : Nat} (h : (fullN m).testBit k = true) : k < m.sp.length := by
  have := (full_bit m k).1 h
  rcases Nat.lt_or_ge k m.sp.length with hk | hk
  · exact hk
  · unfold stN at this; rw [getD_ge hk] at this; exact absurd rfl this
theorem wantC {m : Mc} (hr : Rt m) (C : Nat → Bool) (_ : ∀ r, r < m.sp.length → C r = true → Co m r) (hv : Vw m (bC m) here (jn m) C m.sp.length m.sp.length 0) : ∀ r, r < m.sp.length → Co m r → C r = true := by
  intro r _ hc
  refine Rc.least (p := fun r => C r = true) (fun k h1 h2 => ?_) (fun i k hi h1 h2 => ?_) r hc
  · have hk := full_rng h2
    exact hv.base k hk hk (by unfold bC; rw [h1, (fl_bit m k).2 h2]; rfl)
  · obtain ⟨q, hq, e⟩ := fo_ix h1
    have := hv.pair i q (fo_lt hr h1) hq (.inl (fo_lt hr h1)) hi (by rw [e]; exact (fl_bit m k).2 h2)
    rwa [e] at this
theorem la_bit {m : Mc} (_ : Rt m) (k : Nat) : (lastN m).testBit k = true ↔ m.la.getD k false = true := last_bit m k
theorem wantG {m : Mc} (hr : Rt m) (G : Nat → Bool) (_ : ∀ r, r < m.sp.length → G r = true → Gg m r) (hv : Vw m (bG m) (jn m) here G m.sp.length m.sp.length 0) : ∀ r, r < m.sp.length → Gg m r → G r = true := by
  intro r _ hc
  refine Rc.least (p := fun r => G r = true) (fun k h1 h2 => ?_) (fun i k hi h1 h2 => ?_) r hc
  · have hk := full_rng h2
    exact hv.base k hk hk (by unfold bG; rw [(la_bit hr k).1 h1, (fl_bit m k).2 h2]; rfl)
  · obtain ⟨q, hq, e⟩ := fo_ix h1
    have := hv.pair k q (fo_lt hr h1) hq (.inl (fo_lt hr h1)) (by rw [e]; exact hi) ((fl_bit m k).2 h2)
    exact this
/-- What the rounds lay is right. -/
theorem co_base {m : Mc} {i : Nat} (h1 : (grp m.fi).testBit i = true) (h2 : fl m i = true) : Co m i := .base h1 ((fl_bit m i).1 h2)
theorem co_step {m : Mc} {i j : Nat} (h : Co m i) (h1 : (foN m i).testBit j = true) (h2 : fl m j = true) : Co m j := .step h h1 ((fl_bit m j).1 h2)
theorem gg_base {m : Mc} (hr : Rt m) {i : Nat} (h1 : m.la.getD i false = true) (h2 : fl m i = true) : Gg m i := .base ((la_bit hr i).2 h1) ((fl_bit m i).1 h2)
theorem gg_step {m : Mc} {i j : Nat} (h : Gg m j) (h1 : (foN m i).testBit j = true) (h2 : fl m i = true) : Gg m i := .step h h1 ((fl_bit m i).1 h2)
end Nu
end Go.Proofs.YtlbaecjmfgahgaaDoor
namespace Go.Proofs.YtlbaecjmfgahgaaDoor
open Go.RowKit Sets Nf
namespace Nu
theorem infoBool1 : (Tryd.prog.info? 4).map (fun i => (i.zero.map (·.cells), i.size, i.bytes)) = some (some #[.bool false], 1, 1) := by kernel_rfl
theorem wpList_make_bools {w : World} {ops : Array Oper} {rest : List Oper} {o : Oper} {a : Act} {Q : Exit → Act → World → Prop}
    (hg : o.guard = none) (l c : Operand) (hop : o.op = Op.makeSlice 25 l c) (n : Nat) (hl : a.eval l = .int .i64 (n : Int)) (hc : a.eval c = .int .i64 (n : Int)) (hn : n ≤ 1000)
    (hK : wpList Tryd.prog ops Q rest (a.put o.dst (.slice (some ⟨w.heap.size, 0, none⟩) n n)) (w.alloc (.cells (madeCells #[.bool false] n) 4))) :
    wpList Tryd.prog ops Q (o :: rest) a w := by
  refine wpList_plain hg fun K hK' => ?_
  obtain ⟨i, hi, hzz⟩ := Option.map_eq_some_iff.1 infoBool1
  simp only [Prod.mk.injEq] at hzz
  obtain ⟨hz, hs, hb⟩ := hzz
  obtain ⟨z, hz1, hz2⟩ := Option.map_eq_some_iff.1 hz
  have hrun := run_make (P := Tryd.prog) w 25 4 i z Tryd.underlying25 hi hz1 .i64 .i64 n n (by omega) (Int.le_refl _) (by rw [hb]; omega) (by omega)
  simp only [Int.toNat_natCast, hs, hz2, Nat.mul_one] at hrun
  unfold Oper.wp
  simp [execOp, hop, hl, hc, hrun, Result.andThen]
  exact hK' _ _ hK
theorem fl_eq (m : Mc) (i : Nat) : (!decide (stN m i = 0)) = fl m i := by
  unfold fl
  rw [Bool.eq_iff_iff, bne_iff_ne, Bool.not_eq_true', decide_eq_false_iff_not]
set_option maxHeartbeats 3200000 in
set_option maxRecDepth 100000 in
theorem rfull_any (S : Nat) (w : World) (hS : S < 2 ^ 256) :
    Calls Tryd.prog 47 #[.agg (setC S)] w fun e w' => e = .returned (.bool (!decide (S = 0))) ∧ Below w.heap.size w w' := by
  have HS := Lib.hid hS
  clear hS
  go_enter Tryd.func47, Tryd.ntmps47
  go_upto_region 1 with fail
  have HB := Lib.hid (SetB.new w S)
  have HBL := Lib.hid ((Below.refl w.heap.size w).alloc (Nat.le_refl _) (.cells (setC S) 39))
  generalize w.alloc (.cells (setC S) 39) = w1 at *
  obtain ⟨B, hB⟩ : ∃ B, Hid (w.heap.size = B) := ⟨_, Lib.hid rfl⟩
  rw [hB.out] at HB HBL ⊢
  go_wp2_with (first
    | (refine wpList_load_set rfl (.tmp 1) rfl B S rfl HB.out ?_)
    | (refine wpList_neq_zero rfl _ (.tmp 3) (.tmp 4) rfl S rfl rfl HS.out ?_))
  go_ret
  exact ⟨rfl, by rw [hB.out]; exact HBL.out⟩
theorem fi_has {m : Mc} (hr : Rt m) (a : Nat) : m.fi.contains (a : Int) = (grp m.fi).testBit a := by
  rw [Bool.eq_iff_iff, grp_bit hr.fiR, List.contains_iff_mem]
/-- The two rows: what comes, what goes. -/
structure Tw (x : Ma) (m : Mc) (s : Nat) (w0 : World) (C G : Nat → Bool) (W : World) : Prop where
  box : BoxM W s x m
  c : W.rowIs (s + 1) 4 m.sp.length (fun j => .bool (C j))
  g : W.rowIs (s + 2) 4 m.sp.length (fun j => .bool (G j))
  bel : Below s w0 W
section
variable {x : Ma} {m : Mc} {s : Nat} {w0 W W' : World} {C G : Nat → Bool}
theorem Tw.stay (h : Tw x m s w0 C G W) (hb : Below W.heap.size W W') : Tw x m s w0 C G W' :=
  ⟨h.box.kept hb h.box.lt, World.rowIs.of_block h.c (hb.block _ (World.rowIs.lt h.c)), World.rowIs.of_block h.g (hb.block _ (World.rowIs.lt h.g)), h.bel.trans (hb.mono (Nat.le_of_lt h.box.lt))⟩
theorem Tw.setC (h : Tw x m s w0 C G W) (j : Nat) (v : Bool) : Tw x m s w0 (u1 C j v) G (W.setCell ⟨s + 1, j, none⟩ (.bool v)) := by
  refine ⟨⟨?_⟩, ?_, World.rowIs.setOther h.g (a := ⟨s + 1, j, none⟩) (by show s + 2 ≠ s + 1; omega) _, But.below h.bel (But.set _ W j _) (by omega) (Nat.le_of_lt h.box.lt)⟩
  · rw [Below.heap_setCell W ⟨s + 1, j, none⟩ _ s (by show s ≠ s + 1; omega)]; exact h.box.row
  · refine World.rowIs.congr (World.rowIs.set h.c j (.bool v)) (fun q _ => ?_)
    unfold u1
    by_cases e : q = j
    · simp [e]
    · simp [e]
theorem Tw.setG (h : Tw x m s w0 C G W) (j : Nat) (v : Bool) : Tw x m s w0 C (u1 G j v) (W.setCell ⟨s + 2, j, none⟩ (.bool v)) := by
  refine ⟨⟨?_⟩, World.rowIs.setOther h.c (a := ⟨s + 2, j, none⟩) (by show s + 1 ≠ s + 2; omega) _, ?_, But.below h.bel (But.set _ W j _) (by omega) (Nat.le_of_lt h.box.lt)⟩
  · rw [Below.heap_setCell W ⟨s + 2, j, none⟩ _ s (by show s ≠ s + 2; omega)]; exact h.box.row
  · refine World.rowIs.congr (World.rowIs.set h.g j (.bool v)) (fun q _ => ?_)
    unfold u1
    by_cases e : q = j
    · simp [e]
    · simp [e]
theorem Tw.c1 (h : Tw x m s w0 C G W) {j : Nat} (hj : j < m.sp.length) : W.cell? ⟨s + 1, j, none⟩ = some (.bool (C j)) ∧ W.frozen? ⟨s + 1, j, none⟩ = false := ⟨World.rowIs.cell h.c hj, World.rowIs.frozen h.c j⟩
theorem Tw.g1 (h : Tw x m s w0 C G W) {j : Nat} (hj : j < m.sp.length) : W.cell? ⟨s + 2, j, none⟩ = some (.bool (G j)) ∧ W.frozen? ⟨s + 2, j, none⟩ = false := ⟨World.rowIs.cell h.g hj, World.rowIs.frozen h.g j⟩
theorem Tw.start {w1 : World} (hx : BoxM w1 s x m) (hb : Below s w0 w1) (hz : w1.heap.size = s + 1) : Tw x m s w0 (fun _ => false) (fun _ => false) ((w1.alloc (.cells (madeCells #[.bool false] m.sp.length) 4)).alloc (.cells (madeCells #[.bool false] m.sp.length) 4)) := by
  have h1 := (Below.refl w1.heap.size w1).alloc (Nat.le_refl _) (.cells (madeCells #[.bool false] m.sp.length) 4)
  have hz2 : (w1.alloc (.cells (madeCells #[.bool false] m.sp.length) 4)).heap.size = s + 2 := by rw [World.size_alloc, hz]
  have h2 := (Below.refl (s + 2) (w1.alloc (.cells (madeCells #[.bool false] m.sp.length) 4))).alloc (by omega) (.cells (madeCells #[.bool false] m.sp.length) 4)
  rw [hz] at h1
  have r1 : (w1.alloc (.cells (madeCells #[.bool false] m.sp.length) 4)).rowIs (s + 1) 4 m.sp.length (fun _ => .bool false) := by rw [← hz]; exact World.rowIs_made _ _ _ _
  refine ⟨(hx.kept h1 (by omega)).kept h2 (by omega), World.rowIs.of_block r1 (h2.block _ (by omega)), ?_, (hb.trans (h1.mono (by omega))).trans (h2.mono (by omega))⟩
  rw [← hz2]; exact World.rowIs_made _ _ _ _
end
end Nu
end Go.Proofs.YtlbaecjmfgahgaaDoor
namespace Go.Proofs.YtlbaecjmfgahgaaDoor
open Go.RowKit Sets Nf
namespace Nu
def nuL (U n : Nat) : List Int := (List.range n).map fun k => (nu U k : Int)
theorem nuL_len (U n : Nat) : (nuL U n).length = n := by unfold nuL; rw [List.length_map, List.length_range]
theorem nuL_get (U n k : Nat) (h : k < n) : (nuL U n).getD k 0 = (nu U k : Int) := by
  unfold nuL
  rw [List.getD_eq_getElem?_getD, List.getElem?_map, List.getElem?_range h]; rfl
theorem nuL_succ (U n : Nat) : nuL U (n + 1) = nuL U n ++ [(nu U n : Int)] := by unfold nuL; rw [List.range_succ, List.map_append]; rfl
theorem nu_succ (U k : Nat) : nu U (k + 1) = nu U k + (if U.testBit k = true then 1 else 0) := by
  unfold nu
  rw [List.range_succ, List.filter_append, List.length_append]
  cases h : U.testBit k <;> simp [h]
theorem nu_le (U k : Nat) : nu U k ≤ k := by
  unfold nu
  refine Nat.le_trans (List.length_filter_le _ _) ?_
  rw [List.length_range]; exact Nat.le_refl _
theorem leftL_nil (U : Nat) : leftL U [] = [] := rfl
theorem leftL_take (U : Nat) (l : List Int) (j t : Nat) (h : j < l.length) (e : l.getD j 0 = (t : Int)) :
    leftL U (l.take (j + 1)) = if U.testBit t = true then leftL U (l.take j) ++ [(nu U t : Int)] else leftL U (l.take j) := by
  have e2 : l[j] = (t : Int) := by rw [← e, List.getD_eq_getElem?_getD, List.getElem?_eq_getElem h]; rfl
  unfold leftL
  rw [List.take_succ_eq_append_getElem h, List.filter_append, List.map_append, e2]
  cases hb : U.testBit t <;> simp [hb]
theorem leftL_len (U : Nat) (l : List Int) : (leftL U l).length ≤ l.length := by
  unfold leftL
  rw [List.length_map]; exact List.length_filter_le _ _
theorem kept_succ (U n : Nat) : kept U (n + 1) = if U.testBit n = true then kept U n ++ [n] else kept U n := by
  unfold kept
  rw [List.range_succ, List.filter_append]
  cases h : U.testBit n <;> simp [h]
theorem kept_len (U n : Nat) : (kept U n).length ≤ n := by
  unfold kept
  have := List.length_filter_le U.testBit (List.range n)
  rwa [List.length_range] at this
/-- The machine in block b: what has come to its lists, lf to First, from the spots ps, po, pl to the others. All lies from b on, but w0 has no more. -/
structure Tq (b : Nat) (m : Mc) (U : Nat) (w0 : World) (lf : List Int) (ps po pl : List Nat) (sv fv ov lv : Value) (vs : List Value) (W : World) : Prop where
  row : W.heap[b]? = some (.cells #[sv, fv, ov, lv, .bool m.em] 27 (0, 0))
  sp : W.ownsRow b 41 5 sv ps.length (spL (ps.map fun k => m.sp.getD k (0, 0)))
  fi : OwnN b W fv lf
  fo : W.ownsRow b 23 1 ov po.length vs
  len : vs.length = po.length
  each : ∀ i, i < po.length → OwnN b W (vs.getD i (.slice none 0 0)) (leftL U (m.fo.getD (po.getD i 0) []))
  la : W.ownsRow b 4 1 lv pl.length (bL (pl.map fun k => m.la.getD k false))
  below : Below b w0 W
section
variable {b : Nat} {m : Mc} {U : Nat} {w0 : World} {lf : List Int} {ps po pl : List Nat} {sv fv ov lv : Value} {vs : List Value} {W W' W2 : World}
theorem Tq.lt (h : Tq b m U w0 lf ps po pl sv fv ov lv vs W) : b < W.heap.size := (Array.getElem?_eq_some_iff.1 h.row).1
theorem Tq.notB (h : Tq b m U w0 lf ps po pl sv fv ov lv vs W) {B size n : Nat} {e : TypeId} {v : Value} {xs : List Value} (ho : W.ownsRow B e size v n xs) (he : e ≠ 27) : ∀ g, v.ownBlock = some g → g ≠ b := fun g hg eq => by
  obtain ⟨cs, hc⟩ := own_type ho hg
  rw [eq, h.row] at hc
  injection hc with hc
  injection hc with _ h2
  exact he h2.symm
theorem Tq.stay (h : Tq b m U w0 lf ps po pl sv fv ov lv vs W) (hb : Below W.heap.size W W') : Tq b m U w0 lf ps po pl sv fv ov lv vs W' :=
  ⟨(hb.block b h.lt).trans h.row, own_stay h.sp hb, own_stay h.fi hb, own_stay h.fo hb, h.len, fun i hi => own_stay (h.each i hi) hb, own_stay h.la hb, h.below.trans (hb.mono (Nat.le_of_lt h.lt))⟩
theorem own_put {B size n : Nat} {e : TypeId} {v : Value} {xs : List Value} {cs : Array Value} {fr : Nat × Nat} (ho : W2.ownsRow B e size v n xs) (hr : W2.heap[b]? = some (.cells cs 27 fr)) (he : e ≠ 27) (i : Nat) (u : Value) : (W2.setCell ⟨b, i, none⟩ u).ownsRow B e size v n xs :=
  own_kept ho fun g hg => Below.heap_setCell W2 ⟨b, i, none⟩ u g (fun eq => by
    obtain ⟨cs2, hc⟩ := own_type ho hg
    rw [show g = b from eq, hr] at hc
    injection hc with hc
    injection hc with _ h2
    exact he h2.symm)
theorem Tq.pushS (h : Tq b m U w0 lf ps po pl sv fv ov lv vs W) {sv' : Value} {k : Nat}
    (ho : W2.ownsRow b 41 5 sv' (ps.length + 1) (spL (ps.map fun k => m.sp.getD k (0, 0)) ++ sp5 (m.sp.getD k (0, 0)))) (hb : Below b W W2) (ha : Ap W sv W2 sv') :
    Tq b m U w0 lf (ps ++ [k]) po pl sv' fv ov lv vs (W2.setCell ⟨b, 0, none⟩ sv') := by
  have hf2 := (ha.fr h.sp b).set (i := 0) sv'
  have hr2 := (ha.block b h.lt (fun e => h.notB h.sp (by decide) b e rfl)).trans h.row
  refine ⟨?_, ?_, hf2.own h.fi (by decide) (h.notB h.fi (by decide)), hf2.own h.fo (by decide) (h.notB h.fo (by decide)), h.len, fun i hi => hf2.own (h.each i hi) (by decide) (h.notB (h.each i hi) (by decide)), hf2.own h.la (by decide) (h.notB h.la (by decide)), (h.below.trans hb).setCell (Nat.le_refl b) _⟩
  · rw [heap_setCell_same _ _ _ _ _ _ hr2]; rfl
  · rw [List.length_append, List.map_append, List.map_cons, List.map_nil, spL_snoc]
    exact own_put ho hr2 (by decide) _ _
theorem Tq.pushL (h : Tq b m U w0 lf ps po pl sv fv ov lv vs W) {lv' : Value} {k : Nat}
    (ho : W2.ownsRow b 4 1 lv' (pl.length + 1) (bL (pl.map fun k => m.la.getD k false) ++ [.bool (m.la.getD k false)])) (hb : Below b W W2) (ha : Ap W lv W2 lv') :
    Tq b m U w0 lf ps po (pl ++ [k]) sv fv ov lv' vs (W2.setCell ⟨b, 3, none⟩ lv') := by
  have hf2 := (ha.fr h.la b).set (i := 3) lv'
  have hr2 := (ha.block b h.lt (fun e => h.notB h.la (by decide) b e rfl)).trans h.row
  refine ⟨?_, hf2.own h.sp (by decide) (h.notB h.sp (by decide)), hf2.own h.fi (by decide) (h.notB h.fi (by decide)), hf2.own h.fo (by decide) (h.notB h.fo (by decide)), h.len, fun i hi => hf2.own (h.each i hi) (by decide) (h.notB (h.each i hi) (by decide)), ?_, (h.below.trans hb).setCell (Nat.le_refl b) _⟩
  · rw [heap_setCell_same _ _ _ _ _ _ hr2]; rfl
  · rw [List.length_append, List.map_append, List.map_cons, List.map_nil]
    unfold bL at ho ⊢
    rw [List.map_append, List.map_cons, List.map_nil]
    exact own_put ho hr2 (by decide) _ _
/-- First is yet alone of its kind. -/
theorem Tq.pushF (h : Tq b m U w0 lf [] [] [] sv fv ov lv vs W) {fv' : Value} {z : Int}
    (ho : OwnN b W2 fv' (lf ++ [z])) (hb : Below b W W2) (ha : Ap W fv W2 fv') :
    Tq b m U w0 (lf ++ [z]) [] [] [] sv fv' ov lv vs (W2.setCell ⟨b, 1, none⟩ fv') := by
  have hf2 := (ha.fr h.fi b).set (i := 1) fv'
  have hr2 := (ha.block b h.lt (fun e => h.notB h.fi (by decide) b e rfl)).trans h.row
  refine ⟨?_, hf2.own h.sp (by decide) (h.notB h.sp (by decide)), own_put ho hr2 (by decide) _ _, hf2.own h.fo (by decide) (h.notB h.fo (by decide)), h.len, fun i hi => absurd hi (Nat.not_lt_zero _), hf2.own h.la (by decide) (h.notB h.la (by decide)), (h.below.trans hb).setCell (Nat.le_refl b) _⟩
  rw [heap_setCell_same _ _ _ _ _ _ hr2]; rfl
theorem Tq.pushO (h : Tq b m U w0 lf ps po pl sv fv ov lv vs W) {ov' v : Value} {k : Nat}
    (ho : W2.ownsRow b 23 1 ov' (po.length + 1) (vs ++ [v])) (hv : OwnN b W2 v (leftL U (m.fo.getD k []))) (hb : Below b W W2) (ha : Ap W ov W2 ov') :
    Tq b m U w0 lf ps (po ++ [k]) pl sv fv ov' lv (vs ++ [v]) (W2.setCell ⟨b, 2, none⟩ ov') := by
  have hf2 := (ha.fr h.fo b).set (i := 2) ov'
  have hr2 := (ha.block b h.lt (fun e => h.notB h.fo (by decide) b e rfl)).trans h.row
  refine ⟨?_, hf2.own h.sp (by decide) (h.notB h.sp (by decide)), hf2.own h.fi (by decide) (h.notB h.fi (by decide)), ?_, by simp [h.len], fun i hi => ?_, hf2.own h.la (by decide) (h.notB h.la (by decide)), (h.below.trans hb).setCell (Nat.le_refl b) _⟩
  · rw [heap_setCell_same _ _ _ _ _ _ hr2]; rfl
  · rw [List.length_append]; exact own_put ho hr2 (by decide) _ _
  · rw [List.length_append] at hi
    simp only [List.length_cons, List.length_nil] at hi
    by_cases e : i < po.length
    · rw [List.getD_eq_getElem?_getD, List.getElem?_append_left (by rw [h.len]; exact e), ← List.getD_eq_getElem?_getD, List.getD_eq_getElem?_getD (l := po ++ [k]), List.getElem?_append_left e, ← List.getD_eq_getElem?_getD]
      exact hf2.own (h.each i e) (by decide) (h.notB (h.each i e) (by decide))
    · have e2 : i = po.length := by omega
      rw [List.getD_eq_getElem?_getD, List.getElem?_append_right (by rw [h.len]; omega), List.getD_eq_getElem?_getD (l := po ++ [k]), List.getElem?_append_right (by omega), h.len, e2, Nat.sub_self]
      exact own_put hv hr2 (by decide) _ _
/-- The whole machine. -/
theorem Tq.whole (h : Tq b m U w0 (leftL U m.fi) (kept U m.sp.length) (kept U m.sp.length) (kept U m.sp.length) sv fv ov lv vs W) : ∃ y : Ma, (#[sv, fv, ov, lv, .bool m.em] : Array Value) = mc y (trimM m U) ∧ OwnM b W y (trimM m U) := by
  obtain ⟨a1, c1, rfl, -⟩ := own_slice h.sp
  obtain ⟨a2, c2, rfl, -⟩ := own_slice h.fi
  obtain ⟨a3, c3, rfl, -⟩ := own_slice h.fo
  obtain ⟨a4, c4, rfl, -⟩ := own_slice h.la
  refine ⟨⟨a1, c1, a2, c2, a3, c3, a4, c4⟩, by unfold mc trimM; simp, ?_⟩
  have e1 : (trimM m U).sp.length = (kept U m.sp.length).length := by simp [trimM]
  have e2 : (trimM m U).fo.length = (kept U m.sp.length).length := by simp [trimM]
  have e3 : (trimM m U).la.length = (kept U m.sp.length).length := by simp [trimM]
  refine ⟨by rw [e1]; exact h.sp, h.fi, ⟨vs, by rw [h.len, e2], by rw [e2]; exact h.fo, fun i hi => ?_⟩, by rw [e3]; exact h.la⟩
  rw [e2] at hi
  have he := h.each i hi
  have e4 : (trimM m U).fo.getD i [] = leftL U (m.fo.getD ((kept U m.sp.length).getD i 0) []) := by
    unfold trimM
    rw [List.getD_eq_getElem?_getD, List.getElem?_map, List.getElem?_eq_getElem hi, List.getD_eq_getElem?_getD (l := kept U m.sp.length), List.getElem?_eq_getElem hi]; rfl
  rw [e4]; exact he
end
end Nu
end Go.Proofs.YtlbaecjmfgahgaaDoor
