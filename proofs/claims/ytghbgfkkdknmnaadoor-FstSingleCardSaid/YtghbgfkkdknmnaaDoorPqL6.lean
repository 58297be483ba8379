/- Several texts in one. -/
import Derived.Test.YtghbgfkkdknmnaaDoorPqL5
import Derived.Deep.OwnRows
namespace Go.Proofs.YtghbgfkkdknmnaaDoor
open Go.RowKit Sets Nf Fs
namespace Ft
/-! Grids -/
/-- A grid of n rows of n booleans: its rows' blocks b, from s on. -/
structure Grd (s n : Nat) (O : Option Addr) (b : Nat → Nat) (f : Nat → Nat → Bool) (W : World) : Prop where
  out : ∀ i, i < n → ∃ h c, O = some ⟨h, 0, none⟩ ∧ W.cell? ⟨h, i, none⟩ = some (.slice (some ⟨b i, 0, none⟩) n c) ∧ ∃ cs, W.heap[h]? = some (.cells cs 25 (0, 0))
  row : ∀ i, i < n → W.rowIs (b i) 4 n (fun j => .bool (f i j))
  inj : ∀ i k, i < n → k < n → b i = b k → i = k
  low : ∀ i, i < n → s ≤ b i
section
variable {s n : Nat} {O : Option Addr} {b : Nat → Nat} {f : Nat → Nat → Bool} {W W' : World}
theorem Grd.stay (h : Grd s n O b f W) (hb : Below W.heap.size W W') : Grd s n O b f W' := by
  refine ⟨fun i hi => ?_, fun i hi => World.rowIs.of_block (h.row i hi) (hb.block _ (World.rowIs.lt (h.row i hi))), h.inj, h.low⟩
  obtain ⟨g, c, e, hc, cs, hs⟩ := h.out i hi
  exact ⟨g, c, e, (hb.cell (World.block_lt_of_cell? _ _ hc)).trans hc, cs, (hb.block g (Array.getElem?_eq_some_iff.1 hs).1).trans hs⟩
theorem Grd.lt (h : Grd s n O b f W) {i : Nat} (hi : i < n) : b i < W.heap.size := World.rowIs.lt (h.row i hi)
/-- A cell of its own is written. -/
theorem Grd.set (h : Grd s n O b f W) {i : Nat} (hi : i < n) (j : Nat) (v : Bool) : Grd s n O b (fun a c => if a = i ∧ c = j then v else f a c) (W.setCell ⟨b i, j, none⟩ (.bool v)) := by
  obtain ⟨cs0, hr0, -⟩ := h.row i hi
  refine ⟨fun k hk => ?_, fun k hk => ?_, h.inj, h.low⟩
  · obtain ⟨g, c, e, hc, cs, hs⟩ := h.out k hk
    have hne : b i ≠ g := fun e => by
      rw [e, hs] at hr0
      injection hr0 with hr0
      injection hr0 with _ hr0
      exact absurd hr0 (by decide)
    exact ⟨g, c, e, by rw [World.cell?_setCell_far _ _ _ _ hne]; exact hc, cs, by rw [Below.heap_setCell W ⟨b i, j, none⟩ _ g (fun h => hne h.symm)]; exact hs⟩
  · by_cases e : k = i
    · subst e
      refine World.rowIs.congr (World.rowIs.set (h.row k hk) j (.bool v)) (fun q hq => ?_)
      by_cases e2 : q = j
      · simp [e2]
      · simp [e2]
    · refine World.rowIs.congr (World.rowIs.setOther (h.row k hk) (a := ⟨b i, j, none⟩) (fun h2 => e (h.inj k i hk hi h2)) (.bool v)) (fun q hq => ?_)
      simp [e]
/-- A cell of another row of booleans is written. -/
theorem Grd.off (h : Grd s n O b f W) {g : Nat} {cs0 : Array Value} (hg : W.heap[g]? = some (.cells cs0 4 (0, 0))) (hn : ∀ i, i < n → b i ≠ g) (j : Nat) (v : Value) : Grd s n O b f (W.setCell ⟨g, j, none⟩ v) := by
  refine ⟨fun k hk => ?_, fun k hk => World.rowIs.setOther (h.row k hk) (a := ⟨g, j, none⟩) (hn k hk) v, h.inj, h.low⟩
  obtain ⟨g2, c, e, hc, cs, hs⟩ := h.out k hk
  have hne : g ≠ g2 := fun e => by
    rw [e, hs] at hg
    injection hg with hg
    injection hg with _ hg
    exact absurd hg (by decide)
  exact ⟨g2, c, e, by rw [World.cell?_setCell_far _ _ _ _ hne]; exact hc, cs, by rw [Below.heap_setCell W ⟨g, j, none⟩ _ g2 (fun h => hne h.symm)]; exact hs⟩
end
/-- The three grids: what may be both, what comes, what goes. -/
structure G3 (s n : Nat) (O1 O2 O3 : Option Addr) (b1 b2 b3 : Nat → Nat) (M C G : Nat → Nat → Bool) (W : World) : Prop where
  m : Grd s n O1 b1 M W
  c : Grd s n O2 b2 C W
  g : Grd s n O3 b3 G W
  mc : ∀ i k, i < n → k < n → b1 i ≠ b2 k
  mg : ∀ i k, i < n → k < n → b1 i ≠ b3 k
  cg : ∀ i k, i < n → k < n → b2 i ≠ b3 k
/-- One cell of a grid turned. -/
def u2 (f : Nat → Nat → Bool) (i j : Nat) (v : Bool) : Nat → Nat → Bool := fun a c => if a = i ∧ c = j then v else f a c
section
variable {s n : Nat} {O1 O2 O3 : Option Addr} {b1 b2 b3 : Nat → Nat} {M C G : Nat → Nat → Bool} {W W' : World}
theorem G3.stay (h : G3 s n O1 O2 O3 b1 b2 b3 M C G W) (hb : Below W.heap.size W W') : G3 s n O1 O2 O3 b1 b2 b3 M C G W' := ⟨h.m.stay hb, h.c.stay hb, h.g.stay hb, h.mc, h.mg, h.cg⟩
theorem G3.setM (h : G3 s n O1 O2 O3 b1 b2 b3 M C G W) {i : Nat} (hi : i < n) (j : Nat) (v : Bool) : G3 s n O1 O2 O3 b1 b2 b3 (u2 M i j v) C G (W.setCell ⟨b1 i, j, none⟩ (.bool v)) := by
  obtain ⟨cs0, hr0, -⟩ := h.m.row i hi
  exact ⟨h.m.set hi j v, h.c.off hr0 (fun k hk e => h.mc i k hi hk e.symm) j _, h.g.off hr0 (fun k hk e => h.mg i k hi hk e.symm) j _, h.mc, h.mg, h.cg⟩
theorem G3.setC (h : G3 s n O1 O2 O3 b1 b2 b3 M C G W) {i : Nat} (hi : i < n) (j : Nat) (v : Bool) : G3 s n O1 O2 O3 b1 b2 b3 M (u2 C i j v) G (W.setCell ⟨b2 i, j, none⟩ (.bool v)) := by
  obtain ⟨cs0, hr0, -⟩ := h.c.row i hi
  exact ⟨h.m.off hr0 (fun k hk e => h.mc k i hk hi e) j _, h.c.set hi j v, h.g.off hr0 (fun k hk e => h.cg i k hi hk e.symm) j _, h.mc, h.mg, h.cg⟩
theorem G3.setG (h : G3 s n O1 O2 O3 b1 b2 b3 M C G W) {i : Nat} (hi : i < n) (j : Nat) (v : Bool) : G3 s n O1 O2 O3 b1 b2 b3 M C (u2 G i j v) (W.setCell ⟨b3 i, j, none⟩ (.bool v)) := by
  obtain ⟨cs0, hr0, -⟩ := h.g.row i hi
  exact ⟨h.m.off hr0 (fun k hk e => h.mg k i hk hi e) j _, h.c.off hr0 (fun k hk e => h.cg k i hk hi e) j _, h.g.set hi j v, h.mc, h.mg, h.cg⟩
end
/-- Where it lies, and what stands there. -/
theorem Grd.at {s n : Nat} {O : Option Addr} {b : Nat → Nat} {f : Nat → Nat → Bool} {W : World} (h : Grd s n O b f W) {i j : Nat} (hi : i < n) (hj : j < n) :
    ∃ g c, O = some ⟨g, 0, none⟩ ∧ W.cell? ⟨g, i, none⟩ = some (.slice (some ⟨b i, 0, none⟩) n c) ∧ W.cell? ⟨b i, j, none⟩ = some (.bool (f i j)) ∧ W.frozen? ⟨b i, j, none⟩ = false := by
  obtain ⟨g, c, e, hc, -⟩ := h.out i hi
  exact ⟨g, c, e, hc, World.rowIs.cell (h.row i hi) hj, World.rowIs.frozen (h.row i hi) j⟩
/-! What is left to turn -/
theorem filt_le {p q : Nat → Bool} : ∀ N : Nat, (∀ t, t < N → q t = true → p t = true) → ((List.range N).filter q).length ≤ ((List.range N).filter p).length
  | 0, _ => Nat.le_refl _
  | N + 1, h => by
    have ih := filt_le N (fun t ht => h t (by omega))
    rw [List.range_succ, List.filter_append, List.filter_append, List.length_append, List.length_append]
    have := h N (by omega)
    cases hq : q N with
    | false => simp [hq]; omega
    | true => simp [hq, this hq]; omega
theorem filt_lt {p q : Nat → Bool} : ∀ (N t0 : Nat), (∀ t, t < N → q t = true → p t = true) → t0 < N → p t0 = true → q t0 = false → ((List.range N).filter q).length + 1 ≤ ((List.range N).filter p).length
  | 0, _, _, h, _, _ => absurd h (Nat.not_lt_zero _)
  | N + 1, t0, h, ht, hp, hq => by
    rw [List.range_succ, List.filter_append, List.filter_append, List.length_append, List.length_append]
    by_cases e : t0 = N
    · subst e
      have ih := filt_le t0 (fun t ht => h t (by omega))
      simp [hp, hq]; omega
    · have ih := filt_lt N t0 (fun t ht => h t (by omega)) (by omega) hp hq
      have := h N (by omega)
      cases hq : q N with
      | false => simp [hq]; omega
      | true => simp [hq, this hq]; omega
def isT : Option Value → Bool
  | some (.bool true) => true
  | _ => false
/-- How many cells of a grid are not true. -/
def cntW (W : World) (b : Nat → Nat) (n : Nat) : Nat := ((List.range (n * n)).filter fun t => !isT (W.cell? ⟨b (t / n), t % n, none⟩)).length
def leftG (n : Nat) (b2 b3 : Nat → Nat) (W : World) : Nat := cntW W b2 n + cntW W b3 n
theorem cntW_off {W : World} {b : Nat → Nat} {n g : Nat} (hn : ∀ i, i < n → g ≠ b i) (j : Nat) (v : Value) : cntW (W.setCell ⟨g, j, none⟩ v) b n = cntW W b n := by
  unfold cntW
  congr 1
  refine List.filter_congr (fun t ht => ?_)
  rw [List.mem_range] at ht
  have : t / n < n := Nat.div_lt_of_lt_mul ht
  rw [World.cell?_setCell_far _ _ _ _ (hn _ this)]
theorem cntW_set {s n : Nat} {O : Option Addr} {b : Nat → Nat} {f : Nat → Nat → Bool} {W : World} (h : Grd s n O b f W) {i j : Nat} (hi : i < n) (hj : j < n) (hf : f i j = false) : cntW (W.setCell ⟨b i, j, none⟩ (.bool true)) b n + 1 ≤ cntW W b n := by
  obtain ⟨g, c, -, -, hc, -⟩ := h.at hi hj
  have hd : (i * n + j) / n = i := by rw [Nat.mul_comm, Nat.mul_add_div (by omega), Nat.div_eq_of_lt hj]; rfl
  have hm : (i * n + j) % n = j := by rw [Nat.mul_comm, Nat.mul_add_mod, Nat.mod_eq_of_lt hj]
  have ht : i * n + j < n * n := by
    have : i * n + n ≤ n * n := by rw [← Nat.succ_mul]; exact Nat.mul_le_mul_right n hi
    omega
  refine filt_lt (n * n) (i * n + j) (fun t ht h2 => ?_) ht ?_ ?_
  · by_cases e : (⟨b i, j, none⟩ : Addr) = ⟨b (t / n), t % n, none⟩
    · rw [← e, World.cell?_setCell_same _ _ _ hc] at h2
      simp [isT] at h2
    · rw [World.cell?_setCell_other _ _ _ _ e] at h2
      exact h2
  · rw [hd, hm, hc, hf]; rfl
  · rw [hd, hm, World.cell?_setCell_same _ _ _ hc]; rfl
theorem leftG_setC {s n : Nat} {O1 O2 O3 : Option Addr} {b1 b2 b3 : Nat → Nat} {M C G : Nat → Nat → Bool} {W : World} (h : G3 s n O1 O2 O3 b1 b2 b3 M C G W) {i j : Nat} (hi : i < n) (hj : j < n) (hf : C i j = false) : leftG n b2 b3 (W.setCell ⟨b2 i, j, none⟩ (.bool true)) + 1 ≤ leftG n b2 b3 W := by
  have h1 := cntW_set h.c hi hj hf
  have h2 := cntW_off (W := W) (b := b3) (n := n) (g := b2 i) (fun k hk => h.cg i k hi hk) j (.bool true)
  unfold leftG
  omega
theorem leftG_setG {s n : Nat} {O1 O2 O3 : Option Addr} {b1 b2 b3 : Nat → Nat} {M C G : Nat → Nat → Bool} {W : World} (h : G3 s n O1 O2 O3 b1 b2 b3 M C G W) {i j : Nat} (hi : i < n) (hj : j < n) (hf : G i j = false) : leftG n b2 b3 (W.setCell ⟨b3 i, j, none⟩ (.bool true)) + 1 ≤ leftG n b2 b3 W := by
  have h1 := cntW_set h.g hi hj hf
  have h2 := cntW_off (W := W) (b := b2) (n := n) (g := b3 i) (fun k hk e => h.cg k i hk hi e.symm) j (.bool true)
  unfold leftG
  omega
/-! What the rounds find -/
/-- A byte is in both. -/
def Bo (m : Mc) (i j : Nat) : Prop := ∃ c, (stN m i).testBit c = true ∧ (stN m j).testBit c = true
structure Iv (m : Mc) (M C G : Nat → Nat → Bool) : Prop where
  mm : ∀ i j, i < m.sp.length → j < m.sp.length → (M i j = true ↔ Bo m i j)
  cs : ∀ i j, i < m.sp.length → j < m.sp.length → C i j = true → PL m i j
  c0 : ∀ i j, i < m.sp.length → j < m.sp.length → (grp m.fi).testBit i = true → (grp m.fi).testBit j = true → Bo m i j → C i j = true
  gs : ∀ i j, i < m.sp.length → j < m.sp.length → G i j = true → Bo m i j ∧ PG m i j
  g0 : ∀ i j, i < m.sp.length → j < m.sp.length → m.la.getD i false = true → m.la.getD j false = true → Bo m i j → G i j = true
/-- Nothing is to turn at a, b, x, y. -/
def Cl (M C G : Nat → Nat → Bool) (a b x y : Nat) : Prop := (C a b = true → M x y = true → C x y = true) ∧ (G x y = true → M a b = true → G a b = true)
/-- Nothing is to turn at all. -/
def ClA (m : Mc) (M C G : Nat → Nat → Bool) : Prop := ∀ a b, a < m.sp.length → b < m.sp.length → ∀ i k, i < (m.fo.getD a []).length → k < (m.fo.getD b []).length → Cl M C G a b ((m.fo.getD a []).getD i 0).toNat ((m.fo.getD b []).getD k 0).toNat
theorem fo_at {m : Mc} (hr : Rt m) {a i : Nat} (hi : i < (m.fo.getD a []).length) : ∃ x : Nat, (m.fo.getD a []).getD i 0 = (x : Int) ∧ x < m.sp.length ∧ (foN m a).testBit x = true := by
  have hm := getD_mem (d := 0) hi
  by_cases ha : a < m.fo.length
  · have hl : m.fo.getD a [] ∈ m.fo := getD_mem ha
    obtain ⟨x, hx, hl2⟩ : ∃ x : Nat, (m.fo.getD a []).getD i 0 = (x : Int) ∧ x < m.sp.length := by
      have h1 := ((rise_iff _ _).1 (hr.foR _ hl)).1 _ hm
      exact ⟨((m.fo.getD a []).getD i 0).toNat, by omega, by omega⟩
    refine ⟨x, hx, hl2, ?_⟩
    rw [hx] at hm
    exact (testBit_grp _ _).2 (List.mem_map.2 ⟨_, hm, by simp⟩)
  · rw [List.getD_eq_getElem?_getD (l := m.fo), List.getElem?_eq_none (by omega)] at hi
    exact absurd hi (Nat.not_lt_zero _)
theorem fo_ix {m : Mc} {a x : Nat} (h : (foN m a).testBit x = true) : ∃ i, i < (m.fo.getD a []).length ∧ ((m.fo.getD a []).getD i 0).toNat = x := by
  have hm := (testBit_grp _ _).1 h
  obtain ⟨i, hi, e⟩ := List.mem_iff_getElem.1 hm
  rw [List.getElem_map] at e
  rw [List.length_map] at hi
  refine ⟨i, hi, ?_⟩
  rw [List.getD_eq_getElem?_getD, List.getElem?_eq_getElem hi]
  exact e
theorem fo_rng {m : Mc} (hr : Rt m) {a x : Nat} (h : (foN m a).testBit x = true) : a < m.sp.length ∧ x < m.sp.length := by
  obtain ⟨i, hi, e⟩ := fo_ix h
  obtain ⟨y, hy, hl, -⟩ := fo_at hr hi
  rw [hy] at e
  refine ⟨?_, by simp at e; omega⟩
  by_cases ha : a < m.fo.length
  · rw [← hr.fol]; exact ha
  · rw [List.getD_eq_getElem?_getD (l := m.fo), List.getElem?_eq_none (by omega)] at hi
    exact absurd hi (Nat.not_lt_zero _)
theorem st_rng {m : Mc} {a c : Nat} (h : (stN m a).testBit c = true) : a < m.sp.length := by
  refine Nat.lt_of_not_le fun ha => ?_
  unfold stN at h
  rw [List.getD_eq_getElem?_getD, List.getElem?_eq_none ha] at h
  simp at h
theorem Iv.come {m : Mc} (hr : Rt m) {M C G : Nat → Nat → Bool} (h : Iv m M C G) (hc : ClA m M C G) {i j : Nat} (hp : PL m i j) : C i j = true := by
  induction hp with
  | @one a b c h1 h2 h3 h4 => exact h.c0 a b (st_rng h3) (st_rng h4) h1 h2 ⟨c, h3, h4⟩
  | @more a b x y c _ h1 h2 h3 h4 ih =>
    obtain ⟨i, hi, ei⟩ := fo_ix h1
    obtain ⟨k, hk, ek⟩ := fo_ix h2
    have := (hc a b (fo_rng hr h1).1 (fo_rng hr h2).1 i k hi hk).1
    rw [ei, ek] at this
    exact this ih ((h.mm x y (st_rng h3) (st_rng h4)).2 ⟨c, h3, h4⟩)
theorem Iv.goes {m : Mc} (hr : Rt m) {M C G : Nat → Nat → Bool} (h : Iv m M C G) (hc : ClA m M C G) {i j : Nat} (hp : PG m i j) : Bo m i j → G i j = true := by
  induction hp with
  | @done a b h1 h2 =>
    rintro ⟨c, h3, h4⟩
    exact h.g0 a b (st_rng h3) (st_rng h4) h1 h2 ⟨c, h3, h4⟩
  | @more a b x y c h1 h2 h3 h4 _ ih =>
    intro hb
    obtain ⟨i, hi, ei⟩ := fo_ix h1
    obtain ⟨k, hk, ek⟩ := fo_ix h2
    have := (hc a b (fo_rng hr h1).1 (fo_rng hr h2).1 i k hi hk).2
    rw [ei, ek] at this
    exact this (ih ⟨c, h3, h4⟩) ((h.mm a b (fo_rng hr h1).1 (fo_rng hr h2).1).2 hb)
theorem PL.both {m : Mc} {i j : Nat} (h : PL m i j) : Bo m i j := by
  cases h with
  | one _ _ h3 h4 => exact ⟨_, h3, h4⟩
  | more _ _ _ h3 h4 => exact ⟨_, h3, h4⟩
/-- What the last look finds. -/
theorem Iv.tell {m : Mc} (hr : Rt m) {M C G : Nat → Nat → Bool} (h : Iv m M C G) (hc : ClA m M C G) : (∀ a b, a < m.sp.length → b < m.sp.length → C a b = true → G a b = true → tgN m a = tgN m b) ↔ Sv m := by
  rw [sv_iff]
  constructor
  · intro h1
    refine ⟨hr, fun a b hl hg => ?_⟩
    obtain ⟨c, h3, h4⟩ := PL.both hl
    exact h1 a b (st_rng h3) (st_rng h4) (h.come hr hc hl) (h.goes hr hc hg ⟨c, h3, h4⟩)
  · rintro ⟨-, h1⟩ a b ha hb h2 h3
    exact h1 a b (h.cs a b ha hb h2) (h.gs a b ha hb h3).2
/-- A cell comes. -/
theorem Iv.setC {m : Mc} {M C G : Nat → Nat → Bool} (h : Iv m M C G) {a b x y : Nat} (ha : a < m.sp.length) (hb : b < m.sp.length) (hx : x < m.sp.length) (hy : y < m.sp.length) (h1 : (foN m a).testBit x = true) (h2 : (foN m b).testBit y = true) (h3 : C a b = true) (h4 : M x y = true) :
    Iv m M (u2 C x y true) G := by
  refine ⟨h.mm, fun i j hi hj h5 => ?_, fun i j hi hj f1 f2 f3 => ?_, h.gs, h.g0⟩
  · unfold u2 at h5
    by_cases e : i = x ∧ j = y
    · obtain ⟨rfl, rfl⟩ := e
      obtain ⟨c, g1, g2⟩ := (h.mm i j hi hj).1 h4
      exact .more (h.cs a b ha hb h3) h1 h2 g1 g2
    · rw [if_neg e] at h5
      exact h.cs i j hi hj h5
  · unfold u2
    split
    · rfl
    · exact h.c0 i j hi hj f1 f2 f3
/-- A cell goes. -/
theorem Iv.setG {m : Mc} {M C G : Nat → Nat → Bool} (h : Iv m M C G) {a b x y : Nat} (ha : a < m.sp.length) (hb : b < m.sp.length) (hx : x < m.sp.length) (hy : y < m.sp.length) (h1 : (foN m a).testBit x = true) (h2 : (foN m b).testBit y = true) (h3 : G x y = true) (h4 : M a b = true) :
    Iv m M C (u2 G a b true) := by
  refine ⟨h.mm, h.cs, h.c0, fun i j hi hj h5 => ?_, fun i j hi hj f1 f2 f3 => ?_⟩
  · unfold u2 at h5
    by_cases e : i = a ∧ j = b
    · obtain ⟨rfl, rfl⟩ := e
      obtain ⟨⟨c, g1, g2⟩, hp⟩ := h.gs x y hx hy h3
      exact ⟨(h.mm i j hi hj).1 h4, .more h1 h2 g1 g2 hp⟩
    · rw [if_neg e] at h5
      exact h.gs i j hi hj h5
  · unfold u2
    split
    · rfl
    · exact h.g0 i j hi hj f1 f2 f3
end Ft
end Go.Proofs.YtghbgfkkdknmnaaDoor
namespace Go.Proofs.YtghbgfkkdknmnaaDoor
open Go.RowKit Sets Nf Fs
namespace Ft
theorem infoBool1 : (Tryd.prog.info? 4).map (fun i => (i.zero.map (·.cells), i.size, i.bytes)) = some (some #[.bool false], 1, 1) := by kernel_rfl
theorem infoBs : (Tryd.prog.info? 25).map (fun i => (i.zero, i.size, i.bytes)) = some (some (.slice none 0 0), 1, 24) := by kernel_rfl
theorem wpList_make_bools {w : World} {ops : Array Oper} {rest : List Oper} {o : Oper} {a : Act} {Q : Exit → Act → World → Prop}
    (hg : o.guard = none) (l c : Operand) (hop : o.op = Op.makeSlice 25 l c) (n : Nat) (hl : a.eval l = .int .i64 (n : Int)) (hc : a.eval c = .int .i64 (n : Int)) (hn : n ≤ 1000)
    (hK : wpList Tryd.prog ops Q rest (a.put o.dst (.slice (some ⟨w.heap.size, 0, none⟩) n n)) (w.alloc (.cells (madeCells #[.bool false] n) 4))) :
    wpList Tryd.prog ops Q (o :: rest) a w := by
  refine wpList_plain hg fun K hK' => ?_
  obtain ⟨i, hi, hzz⟩ := Option.map_eq_some_iff.1 infoBool1
  simp only [Prod.mk.injEq] at hzz
  obtain ⟨hz, hs, hb⟩ := hzz
  obtain ⟨z, hz1, hz2⟩ := Option.map_eq_some_iff.1 hz
  have hrun := run_make (P := Tryd.prog) w 25 4 i z Tryd.underlying25 hi hz1 .i64 .i64 n n (by omega) (Int.le_refl _) (by rw [hb]; omega) (by omega)
  simp only [Int.toNat_natCast, hs, hz2, Nat.mul_one] at hrun
  unfold Oper.wp
  simp [execOp, hop, hl, hc, hrun, Result.andThen]
  exact hK' _ _ hK
def rowV (b : Nat → Nat) (n i : Nat) : List Value := (List.range i).map fun k => .slice (some ⟨b k, 0, none⟩) n n
/-- i rows of the grid are there. -/
structure GrI (w : World) (n i : Nat) (sv : Value) (b : Nat → Nat) (W : World) : Prop where
  own : W.ownsRow w.heap.size 25 1 sv i (rowV b n i)
  row : ∀ k, k < i → W.rowIs (b k) 4 n (fun _ => .bool false)
  inj : ∀ k l, k < i → l < i → b k = b l → k = l
  low : ∀ k, k < i → w.heap.size ≤ b k
  bel : Below w.heap.size w W
theorem GrI.start (w : World) (n : Nat) : GrI w n 0 (.slice none 0 0) (fun _ => 0) w := ⟨World.ownsRow_nil _ _ _ _, fun _ hk => absurd hk (Nat.not_lt_zero _), fun _ _ hk => absurd hk (Nat.not_lt_zero _), fun _ hk => absurd hk (Nat.not_lt_zero _), Below.refl _ _⟩
theorem GrI.next {w W W1 W2 : World} {n i : Nat} {sv sv' : Value} {b : Nat → Nat} (h : GrI w n i sv b W) (e : W1 = W.alloc (.cells (madeCells #[.bool false] n) 4))
    (ho : W2.ownsRow w.heap.size 25 1 sv' (i + 1) (rowV b n i ++ [.slice (some ⟨W.heap.size, 0, none⟩) n n])) (hb : Below w.heap.size W1 W2) (ha : Ap W1 sv W2 sv') : GrI w n (i + 1) sv' (fun k => if k = i then W.heap.size else b k) W2 := by
  have h1 : W1.ownsRow w.heap.size 25 1 sv i (rowV b n i) := by rw [e]; exact h.own.alloc _
  have hsz : W1.heap.size = W.heap.size + 1 := by rw [e]; simp
  have hf := ha.fr h1 W1.heap.size
  have hrow : ∀ g, W1.rowIs g 4 n (fun _ => .bool false) → W2.rowIs g 4 n (fun _ => .bool false) := fun g hg => by
    obtain ⟨cs, hc, h2, h3⟩ := hg
    have hl := (Array.getElem?_eq_some_iff.1 hc).1
    exact ⟨cs, hf g cs _ _ hc (by decide) (by omega), h2, h3⟩
  refine ⟨?_, fun k hk => ?_, fun k l hk hl => ?_, fun k hk => ?_, ?_⟩
  · have : rowV (fun k => if k = i then W.heap.size else b k) n (i + 1) = rowV b n i ++ [.slice (some ⟨W.heap.size, 0, none⟩) n n] := by
      unfold rowV
      simp only [List.range_succ, List.map_append, List.map_cons, List.map_nil, if_true]
      congr 1
      refine List.map_congr_left (fun k hk => ?_)
      rw [List.mem_range] at hk
      rw [if_neg (by omega)]
    rw [this]; exact ho
  · show W2.rowIs (if k = i then W.heap.size else b k) _ _ _
    split
    · exact hrow _ (by rw [e]; exact World.rowIs_made _ _ _ _)
    · exact hrow _ (by rw [e]; exact World.rowIs.alloc (h.row k (by omega)) _)
  · have hlt : ∀ k, k < i → b k < W.heap.size := fun k hk => World.rowIs.lt (h.row k hk)
    show (if k = i then W.heap.size else b k) = (if l = i then W.heap.size else b l) → _
    intro e2
    by_cases h3 : k = i
    · by_cases h4 : l = i
      · omega
      · rw [if_pos h3, if_neg h4] at e2
        have := hlt l (by omega)
        omega
    · by_cases h4 : l = i
      · rw [if_neg h3, if_pos h4] at e2
        have := hlt k (by omega)
        omega
      · rw [if_neg h3, if_neg h4] at e2
        exact h.inj k l (by omega) (by omega) e2
  · show w.heap.size ≤ (if k = i then W.heap.size else b k)
    split
    · exact h.bel.size
    · exact h.low k (by omega)
  · refine (h.bel.trans ?_).trans hb
    rw [e]
    exact (Below.refl _ _).alloc h.bel.size _
theorem GrI.grid {w W : World} {n : Nat} {sv : Value} {b : Nat → Nat} (h : GrI w n n sv b W) : ∃ O c, sv = .slice O n c ∧ Grd w.heap.size n O b (fun _ _ => false) W := by
  obtain ⟨O, c, e, -⟩ := own_slice h.own
  refine ⟨O, c, e, fun i hi => ?_, h.row, h.inj, h.low⟩
  have ho := h.own
  rw [e] at ho
  obtain ⟨g, hg⟩ := own_addr ho (by omega)
  rw [hg] at ho
  obtain ⟨cs, hcs⟩ := own_type ho rfl
  refine ⟨g, n, hg, ?_, cs, hcs⟩
  rw [World.ownsRow.cellAt ho i (by omega)]
  unfold rowV
  rw [List.getElem?_map, List.getElem?_range hi]; rfl
set_option maxHeartbeats 6400000 in
set_option maxRecDepth 100000 in
theorem grid_any (n : Nat) (w : World) (hn : n ≤ 1000) :
    Calls Tryd.prog 33 #[.int .i64 n] w fun e w' => ∃ O c b, e = .returned (.slice O n c) ∧ Grd w.heap.size n O b (fun _ _ => false) w' ∧ Below w.heap.size w w' := by
  have HN := Lib.hid hn
  clear hn
  go_enter Tryd.func33, Tryd.ntmps33
  go_wp2_with fail
  go_loopw [3, 4] (fun sv i wr => ∃ (j : Nat) (b : Nat → Nat), i = .int .i64 j ∧ j ≤ n ∧ Hid (GrI w n j sv b wr)) (fun _ i _ => ((n : Int) - intOf i).toNat)
  case atStart => exact ⟨0, fun _ => 0, rfl, Nat.zero_le _, Lib.hid (GrI.start w n)⟩
  case round =>
    obtain ⟨j, b, rfl, hj, HI⟩ := hrel
    generalize hsv : u3 = sv at *
    clear hsv u3
    generalize hwr : wr = w1 at *
    clear hwr wr
    by_cases hlt : j < n
    · have hdd : decide ((j : Int) < (n : Int)) = true := decide_eq_true (by omega)
      have hd2 : decide (j < n) = true := decide_eq_true hlt
      have HW1 : Hid (wrap64 ((j : Int) + 1) = ((j + 1 : Nat) : Int)) := Lib.hid (nat_wrap (by have := HN.out; omega))
      have HJ := Lib.hid hlt
      have HO1 : Hid ((w1.alloc (.cells (madeCells #[.bool false] n) 4)).ownsRow w.heap.size 25 1 sv j (rowV b n j)) := Lib.hid (HI.out.own.alloc _)
      have HSZ : Hid (w.heap.size ≤ (w1.alloc (.cells (madeCells #[.bool false] n) 4)).heap.size) := Lib.hid (by rw [World.size_alloc]; have := HI.out.bel.size; omega)
      have HJL : Hid (j ≤ 100000) := Lib.hid (by have := HN.out; omega)
      clear hlt
      go_wp2_with (first
        | (refine wpList_make_bools rfl _ _ rfl n rfl rfl HN.out ?_)
        | (refine wpList_push 64 25 (.slice none 0 0) 1 24 Tryd.underlying64 infoBs rfl (by decide) rfl (.tmp 10) (.tmp 13) rfl w.heap.size sv j (rowV b n j) rfl HO1.out [.slice (some ⟨w1.heap.size, 0, none⟩) n n] _ rfl rfl (fun u hu => by rw [List.mem_singleton.1 hu]; rfl) (by rw [World.size_alloc]; rfl) HJL.out (by decide) HSZ.out ?_; intro v' w2 ho hb ha; have HI2 := Lib.hid (HI.out.next rfl ho hb ha); clear ho hb ha))
      go_roundw
      case rel => exact ⟨j + 1, _, by rw [HW1.out], HJ.out, HI2⟩
      case measure => rw [HW1.out]; have := HJ.out; simp only [intOf]; omega
    · have hdd : decide ((j : Int) < (n : Int)) = false := decide_eq_false (by omega)
      have hd2 : decide (j < n) = false := decide_eq_false hlt
      obtain rfl : j = n := by omega
      obtain ⟨O, c, rfl, hg⟩ := HI.out.grid
      have HG := Lib.hid hg
      clear hg
      go_wp2_with fail
      go_ret
      exact ⟨O, c, b, rfl, HG.out, HI.out.bel⟩
end Ft
end Go.Proofs.YtghbgfkkdknmnaaDoor
namespace Go.Proofs.YtghbgfkkdknmnaaDoor
open Go.RowKit Sets Nf Fs
namespace Ft
theorem below_set {A g : Nat} {W w : World} (h : Below A W w) (hA : A ≤ g) (hs : A ≤ w.heap.size) (i : Nat) (v : Value) : Below A W (w.setCell ⟨g, i, none⟩ v) := But.below h (But.set g w i v) hA hs
theorem u2_same (f : Nat → Nat → Bool) (i j : Nat) (v : Bool) : u2 f i j v i j = v := if_pos ⟨rfl, rfl⟩
theorem u2_other (f : Nat → Nat → Bool) {i j a b : Nat} (v : Bool) (h : ¬ (a = i ∧ b = j)) : u2 f i j v a b = f a b := if_neg h
theorem fi_has {m : Mc} (hr : Rt m) (a : Nat) : m.fi.contains (a : Int) = true ↔ (grp m.fi).testBit a = true := by
  rw [testBit_grp, List.contains_iff_mem, List.mem_map]
  constructor
  · intro h
    exact ⟨_, h, by simp⟩
  · rintro ⟨x, hx, e⟩
    have := ((rise_iff _ _).1 hr.fiR).1 x hx
    have e2 : x = (a : Int) := by omega
    rw [← e2]; exact hx
theorem bo_iff {m : Mc} (hf : Fine m) {a b : Nat} (ha : a < m.sp.length) : (∃ c, c < 256 ∧ (stN m a).testBit c = true ∧ (stN m b).testBit c = true) ↔ Bo m a b := by
  constructor
  · rintro ⟨c, -, h1, h2⟩
    exact ⟨c, h1, h2⟩
  · rintro ⟨c, h1, h2⟩
    refine ⟨c, Nat.lt_of_not_le fun hc => ?_, h1, h2⟩
    have hs : stN m a < 2 ^ 256 := by
      have := (hf.set _ (getD_mem (d := (0, 0)) ha)).1
      exact this
    rw [Nat.testBit_lt_two_pow (Nat.lt_of_lt_of_le hs (Nat.pow_le_pow_right (by decide) hc))] at h1
    cases h1
/-- The grids' cells up to row a, place b. -/
def Ii (m : Mc) (a b : Nat) (M C G : Nat → Nat → Bool) : Prop := ∀ i j, i < m.sp.length → j < m.sp.length → (i < a ∨ (i = a ∧ j < b)) →
  (M i j = true ↔ Bo m i j) ∧ (C i j = true ↔ Bo m i j ∧ (grp m.fi).testBit i = true ∧ (grp m.fi).testBit j = true) ∧ (G i j = true ↔ Bo m i j ∧ m.la.getD i false = true ∧ m.la.getD j false = true)
theorem Ii.start (m : Mc) (M C G : Nat → Nat → Bool) : Ii m 0 0 M C G := fun i j _ _ h => by omega
theorem Ii.next {m : Mc} {a b : Nat} {M C G : Nat → Nat → Bool} (h : Ii m a b M C G) {vM vC vG : Bool} (h1 : vM = true ↔ Bo m a b) (h2 : vC = true ↔ Bo m a b ∧ (grp m.fi).testBit a = true ∧ (grp m.fi).testBit b = true) (h3 : vG = true ↔ Bo m a b ∧ m.la.getD a false = true ∧ m.la.getD b false = true) :
    Ii m a (b + 1) (u2 M a b vM) (u2 C a b vC) (u2 G a b vG) := fun i j hi hj hij => by
  by_cases e : i = a ∧ j = b
  · obtain ⟨rfl, rfl⟩ := e
    rw [u2_same, u2_same, u2_same]
    exact ⟨h1, h2, h3⟩
  · rw [u2_other _ _ e, u2_other _ _ e, u2_other _ _ e]
    exact h i j hi hj (by omega)
theorem Ii.row {m : Mc} {a : Nat} {M C G : Nat → Nat → Bool} (h : Ii m a m.sp.length M C G) : Ii m (a + 1) 0 M C G := fun i j hi hj hij => h i j hi hj (by omega)
theorem Ii.done {m : Mc} {M C G : Nat → Nat → Bool} (h : Ii m m.sp.length 0 M C G) : Iv m M C G := by
  refine ⟨fun i j hi hj => (h i j hi hj (.inl hi)).1, fun i j hi hj hc => ?_, fun i j hi hj f1 f2 f3 => (h i j hi hj (.inl hi)).2.1.2 ⟨f3, f1, f2⟩, fun i j hi hj hg => ?_, fun i j hi hj l1 l2 hb => (h i j hi hj (.inl hi)).2.2.2 ⟨hb, l1, l2⟩⟩
  · obtain ⟨⟨c, h3, h4⟩, h1, h2⟩ := (h i j hi hj (.inl hi)).2.1.1 hc
    exact .one h1 h2 h3 h4
  · obtain ⟨hb, h1, h2⟩ := (h i j hi hj (.inl hi)).2.2.1 hg
    exact ⟨hb, .done h1 h2⟩
/-- What has been looked through in a round: rows below a, of row a the pairs below b, of those the places below i, of that the places below k. -/
def Cv (m : Mc) (a b i k : Nat) (M C G : Nat → Nat → Bool) : Prop := ∀ a' b', a' < m.sp.length → b' < m.sp.length → ∀ i' k', i' < (m.fo.getD a' []).length → k' < (m.fo.getD b' []).length →
  (a' < a ∨ (a' = a ∧ (b' < b ∨ (b' = b ∧ (i' < i ∨ (i' = i ∧ k' < k)))))) → Cl M C G a' b' ((m.fo.getD a' []).getD i' 0).toNat ((m.fo.getD b' []).getD k' 0).toNat
theorem Cv.start (m : Mc) (M C G : Nat → Nat → Bool) : Cv m 0 0 0 0 M C G := fun a b _ _ i k _ _ h => by omega
theorem Cv.next {m : Mc} {a b i k : Nat} {M C G : Nat → Nat → Bool} (h : Cv m a b i k M C G) {x y : Nat} (hx : (m.fo.getD a []).getD i 0 = (x : Int)) (hy : (m.fo.getD b []).getD k 0 = (y : Int)) (hc : Cl M C G a b x y) : Cv m a b i (k + 1) M C G := fun a' b' ha hb i' k' hi hk ho => by
  by_cases e : a' = a ∧ b' = b ∧ i' = i ∧ k' = k
  · obtain ⟨rfl, rfl, rfl, rfl⟩ := e
    rw [hx, hy]
    exact hc
  · exact h a' b' ha hb i' k' hi hk (by omega)
theorem Cv.nextI {m : Mc} {a b i : Nat} {M C G : Nat → Nat → Bool} (h : Cv m a b i (m.fo.getD b []).length M C G) : Cv m a b (i + 1) 0 M C G := fun a' b' ha hb i' k' hi hk ho => h a' b' ha hb i' k' hi hk (by
  rcases ho with h | ⟨h, h2⟩
  · exact .inl h
  · refine .inr ⟨h, ?_⟩
    rcases h2 with h2 | ⟨rfl, h3⟩
    · exact .inl h2
    · refine .inr ⟨rfl, ?_⟩
      omega)
theorem Cv.nextB {m : Mc} {a b : Nat} {M C G : Nat → Nat → Bool} (h : Cv m a b (m.fo.getD a []).length 0 M C G) : Cv m a (b + 1) 0 0 M C G := fun a' b' ha hb i' k' hi hk ho => h a' b' ha hb i' k' hi hk (by
  rcases ho with h | ⟨rfl, h2⟩
  · exact .inl h
  · refine .inr ⟨rfl, ?_⟩
    omega)
theorem Cv.nextA {m : Mc} {a : Nat} {M C G : Nat → Nat → Bool} (h : Cv m a m.sp.length 0 0 M C G) : Cv m (a + 1) 0 0 0 M C G := fun a' b' ha hb i' k' hi hk ho => h a' b' ha hb i' k' hi hk (by omega)
theorem Cv.all {m : Mc} {M C G : Nat → Nat → Bool} (h : Cv m m.sp.length 0 0 0 M C G) : ClA m M C G := fun a b ha hb i k hi hk => h a b ha hb i k hi hk (.inl ha)
theorem Grd.atS {s n q : Nat} {b : Nat → Nat} {f : Nat → Nat → Bool} {W : World} (h : Grd s n (some ⟨q, 0, none⟩) b f W) {i j : Nat} (hi : i < n) (hj : j < n) :
    ∃ c, W.cell? ⟨q, i, none⟩ = some (.slice (some ⟨b i, 0, none⟩) n c) ∧ W.cell? ⟨b i, j, none⟩ = some (.bool (f i j)) ∧ W.frozen? ⟨b i, j, none⟩ = false := by
  obtain ⟨g, c, e, h1, h2, h3⟩ := h.at hi hj
  injection e with e
  injection e with e
  subst e
  exact ⟨c, h1, h2, h3⟩
def bN (b : Bool) : Nat := if b = true then 1 else 0
def oneV : Value → Nat
  | .bool true => 1
  | _ => 0
theorem oneV_bool (b : Bool) : oneV (.bool b) = bN b := by cases b <;> rfl
/-- Where a round stands. -/
structure Rd (m : Mc) (s : Nat) (O1 O2 O3 : Option Addr) (b1 b2 b3 : Nat → Nat) (M : Nat → Nat → Bool) (w2 : World) (L0 a b i k : Nat) (mo : Bool) (C G : Nat → Nat → Bool) (W : World) : Prop where
  g3 : G3 s m.sp.length O1 O2 O3 b1 b2 b3 M C G W
  iv : Iv m M C G
  cv : mo = false → Cv m a b i k M C G
  mu : leftG m.sp.length b2 b3 W + bN mo ≤ L0
  bel : Below s w2 W
section
variable {m : Mc} {s : Nat} {O1 O2 O3 : Option Addr} {b1 b2 b3 : Nat → Nat} {M : Nat → Nat → Bool} {w2 : World} {L0 a b i k : Nat} {mo : Bool} {C G : Nat → Nat → Bool} {W : World}
theorem Rd.start (h : G3 s m.sp.length O1 O2 O3 b1 b2 b3 M C G W) (hi : Iv m M C G) (hb : Below s w2 W) : Rd m s O1 O2 O3 b1 b2 b3 M w2 (leftG m.sp.length b2 b3 W) 0 0 0 0 false C G W := ⟨h, hi, fun _ => Cv.start _ _ _ _, Nat.le_refl _, hb⟩
theorem Rd.nextI (h : Rd m s O1 O2 O3 b1 b2 b3 M w2 L0 a b i (m.fo.getD b []).length mo C G W) : Rd m s O1 O2 O3 b1 b2 b3 M w2 L0 a b (i + 1) 0 mo C G W := ⟨h.g3, h.iv, fun e => (h.cv e).nextI, h.mu, h.bel⟩
theorem Rd.nextB (h : Rd m s O1 O2 O3 b1 b2 b3 M w2 L0 a b (m.fo.getD a []).length 0 mo C G W) : Rd m s O1 O2 O3 b1 b2 b3 M w2 L0 a (b + 1) 0 0 mo C G W := ⟨h.g3, h.iv, fun e => (h.cv e).nextB, h.mu, h.bel⟩
theorem Rd.nextA (h : Rd m s O1 O2 O3 b1 b2 b3 M w2 L0 a m.sp.length 0 0 mo C G W) : Rd m s O1 O2 O3 b1 b2 b3 M w2 L0 (a + 1) 0 0 0 mo C G W := ⟨h.g3, h.iv, fun e => (h.cv e).nextA, h.mu, h.bel⟩
theorem Rd.step (h : Rd m s O1 O2 O3 b1 b2 b3 M w2 L0 a b i k mo C G W) {x y : Nat} (hx : (m.fo.getD a []).getD i 0 = (x : Int)) (hy : (m.fo.getD b []).getD k 0 = (y : Int)) (h1 : C a b = true → M x y = true → C x y = true) (h2 : G x y = true → M a b = true → G a b = true) :
    Rd m s O1 O2 O3 b1 b2 b3 M w2 L0 a b i (k + 1) mo C G W := ⟨h.g3, h.iv, fun e => (h.cv e).next hx hy ⟨h1, h2⟩, h.mu, h.bel⟩
theorem Rd.come (h : Rd m s O1 O2 O3 b1 b2 b3 M w2 L0 a b i k mo C G W) (hs : s ≤ w2.heap.size) {x y : Nat} (ha : a < m.sp.length) (hb : b < m.sp.length) (hx : x < m.sp.length) (hy : y < m.sp.length) (h1 : (foN m a).testBit x = true) (h2 : (foN m b).testBit y = true) (h3 : C a b = true) (h4 : M x y = true) (h5 : C x y = false) :
    Rd m s O1 O2 O3 b1 b2 b3 M w2 L0 a b i k true (u2 C x y true) G (W.setCell ⟨b2 x, y, none⟩ (.bool true)) := by
  refine ⟨h.g3.setC hx y true, h.iv.setC ha hb hx hy h1 h2 h3 h4, fun e => (by cases e), ?_, below_set h.bel (h.g3.c.low x hx) (Nat.le_trans hs h.bel.size) y _⟩
  have e1 := leftG_setC h.g3 hx hy h5
  have e2 := h.mu
  show leftG _ _ _ _ + 1 ≤ L0
  omega
theorem Rd.goes (h : Rd m s O1 O2 O3 b1 b2 b3 M w2 L0 a b i k mo C G W) (hs : s ≤ w2.heap.size) {x y : Nat} (ha : a < m.sp.length) (hb : b < m.sp.length) (hx : x < m.sp.length) (hy : y < m.sp.length) (h1 : (foN m a).testBit x = true) (h2 : (foN m b).testBit y = true) (h3 : G x y = true) (h4 : M a b = true) (h5 : G a b = false) :
    Rd m s O1 O2 O3 b1 b2 b3 M w2 L0 a b i (k + 1) true C (u2 G a b true) (W.setCell ⟨b3 a, b, none⟩ (.bool true)) := by
  refine ⟨h.g3.setG ha b true, h.iv.setG ha hb hx hy h1 h2 h3 h4, fun e => (by cases e), ?_, below_set h.bel (h.g3.g.low a ha) (Nat.le_trans hs h.bel.size) b _⟩
  have e1 := leftG_setG h.g3 ha hb h5
  have e2 := h.mu
  show leftG _ _ _ _ + 1 ≤ L0
  omega
end
theorem u2_up (C : Nat → Nat → Bool) (x y : Nat) : u2 C x y true x y = true := u2_same _ _ _ _
/-- The lists of Follow, at a fixed place. -/
theorem fo_lists {W : World} {x : Ma} {m : Mc} (h : MAt W x m) {ob oo : Nat} (e : x.oa = some ⟨ob, oo, none⟩) {i : Nat} (hi : i < m.fo.length) : ∃ y c, W.cell? ⟨ob, oo + i, none⟩ = some (.slice y (m.fo.getD i []).length c) ∧ NumsIn W y (m.fo.getD i []) := by
  obtain ⟨b, o, y, c, e2, hc, hn⟩ := h.fo i hi
  rw [e] at e2
  injection e2 with e2
  injection e2 with e3 e4
  subst e3; subst e4
  exact ⟨y, c, hc, hn⟩
end Ft
end Go.Proofs.YtghbgfkkdknmnaaDoor
