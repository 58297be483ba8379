/- Machines that read bytes: what they take, what of them is useful, what is left (no program). -/
import Derived.Test.YtlbaecjmfgahgaaDoorLst
namespace Go.Proofs.YtlbaecjmfgahgaaDoor
namespace Nf
open Sets
structure Mc where
  sp : List (Nat × Nat)
  fi : List Int
  fo : List (List Int)
  la : List Bool
  em : Bool
def riseF (n : Nat) : Int → List Int → Bool
  | _, [] => true
  | low, k :: l => decide (low ≤ k) && (decide (k < (n : Int)) && riseF n (k + 1) l)
def rise (n : Nat) (l : List Int) : Bool := riseF n 0 l
def rightM (m : Mc) : Bool :=
  decide (m.sp.length ≤ 250) && (decide (m.fo.length = m.sp.length) && (decide (m.la.length = m.sp.length) && (m.sp.all (fun s => decide (s.2 ≤ 2)) && (m.fo.all (rise m.sp.length) && rise m.sp.length m.fi))))
def grp (l : List Int) : Nat := ofN (l.map Int.toNat)
def stN (m : Mc) (k : Nat) : Nat := (m.sp.getD k (0, 0)).1
def foN (m : Mc) (k : Nat) : Nat := grp (m.fo.getD k [])
def lastN (m : Mc) : Nat := ofN ((List.range m.la.length).filter fun k => m.la.getD k false)
def rd (m : Mc) (q c : Nat) : Nat := ofN ((listN q).filter fun k => (stN m k).testBit c)
def bh (G : List Nat) (q : Nat) : Nat := (listN q).foldl (fun a k => a ||| G.getD k 0) 0
def runS (m : Mc) (w : List Nat) : Nat × Nat := w.foldl (fun p c => (rd m p.2 c, bh (m.fo.map grp) (rd m p.2 c))) (0, grp m.fi)
def takesM (m : Mc) (w : List Nat) : Bool := rightM m && (if w = [] then m.em else decide ((runS m w).1 &&& lastN m ≠ 0))
theorem riseF_cons (n : Nat) (low k : Int) (l : List Int) : riseF n low (k :: l) = (decide (low ≤ k) && (decide (k < (n : Int)) && riseF n (k + 1) l)) := rfl
theorem riseF_drop (n : Nat) (low : Int) (l : List Int) (j : Nat) (h : j < l.length) :
    riseF n low (l.drop j) = (decide (low ≤ l.getD j 0) && (decide (l.getD j 0 < (n : Int)) && riseF n (l.getD j 0 + 1) (l.drop (j + 1)))) := by
  rw [List.drop_eq_getElem_cons h, riseF_cons, List.getD_eq_getElem?_getD, List.getElem?_eq_getElem h]; rfl
theorem riseF_end (n : Nat) (low : Int) (l : List Int) (j : Nat) (h : l.length ≤ j) : riseF n low (l.drop j) = true := by
  rw [List.drop_eq_nil_of_le h]; rfl
theorem riseF_iff (n : Nat) : ∀ (l : List Int) (low : Int), riseF n low l = true ↔ (∀ k ∈ l, low ≤ k ∧ k < (n : Int)) ∧ l.Pairwise (· < ·)
  | [], low => by simp [riseF]
  | k :: l, low => by
    rw [riseF_cons, Bool.and_eq_true, Bool.and_eq_true, decide_eq_true_iff, decide_eq_true_iff, riseF_iff n l (k + 1), List.pairwise_cons]
    constructor
    · rintro ⟨h1, h2, h3, h4⟩
      refine ⟨fun x hx => ?_, fun x hx => ?_, h4⟩
      · rcases List.mem_cons.1 hx with rfl | hx
        · exact ⟨h1, h2⟩
        · have := h3 x hx; omega
      · have := h3 x hx; omega
    · rintro ⟨h1, h2, h3⟩
      have := h1 k (List.mem_cons_self ..)
      refine ⟨this.1, this.2, fun x hx => ?_, h3⟩
      have a := h1 x (List.mem_cons_of_mem _ hx)
      have b := h2 x hx
      omega
theorem rise_iff (n : Nat) (l : List Int) : rise n l = true ↔ (∀ k ∈ l, 0 ≤ k ∧ k < (n : Int)) ∧ l.Pairwise (· < ·) := riseF_iff n l 0
/-- What a right machine is. -/
structure Rt (m : Mc) : Prop where
  many : m.sp.length ≤ 250
  fol : m.fo.length = m.sp.length
  lal : m.la.length = m.sp.length
  tag : ∀ s ∈ m.sp, s.2 ≤ 2
  foR : ∀ l ∈ m.fo, rise m.sp.length l = true
  fiR : rise m.sp.length m.fi = true
theorem right_iff (m : Mc) : rightM m = true ↔ Rt m := by
  unfold rightM
  simp only [Bool.and_eq_true, decide_eq_true_iff, List.all_eq_true]
  constructor
  · rintro ⟨h1, h2, h3, h4, h5, h6⟩; exact ⟨h1, h2, h3, h4, h5, h6⟩
  · rintro ⟨h1, h2, h3, h4, h5, h6⟩; exact ⟨h1, h2, h3, h4, h5, h6⟩
theorem testBit_grp (l : List Int) (k : Nat) : (grp l).testBit k = true ↔ k ∈ l.map Int.toNat := by
  unfold grp; rw [ofN_testBit]; simp
theorem grp_bit {n : Nat} {l : List Int} (h : rise n l = true) (k : Nat) : (grp l).testBit k = true ↔ (k : Int) ∈ l := by
  rw [testBit_grp, List.mem_map]
  have := (rise_iff n l).1 h
  constructor
  · rintro ⟨x, hx, rfl⟩
    rw [Int.toNat_of_nonneg (this.1 x hx).1]; exact hx
  · intro hk; exact ⟨k, hk, by simp⟩
theorem grp_lt {n : Nat} {l : List Int} (h : rise n l = true) {k : Nat} (hk : (grp l).testBit k = true) : k < n := by
  have := ((rise_iff n l).1 h).1 _ ((grp_bit h k).1 hk); omega
theorem getD_mem {α : Type} {l : List α} {j : Nat} {d : α} (h : j < l.length) : l.getD j d ∈ l := by
  rw [List.getD_eq_getElem?_getD, List.getElem?_eq_getElem h]; exact List.getElem_mem _
theorem getD_ge {α : Type} {l : List α} {j : Nat} {d : α} (h : l.length ≤ j) : l.getD j d = d := by
  rw [List.getD_eq_getElem?_getD, List.getElem?_eq_none h]; rfl
theorem foN_rise {m : Mc} (h : Rt m) (k : Nat) : rise m.sp.length (m.fo.getD k []) = true := by
  rcases Nat.lt_or_ge k m.fo.length with hk | hk
  · exact h.foR _ (getD_mem hk)
  · rw [getD_ge hk]; rfl
theorem fo_lt {m : Mc} (h : Rt m) {i k : Nat} (hk : (foN m i).testBit k = true) : k < m.sp.length := grp_lt (foN_rise h i) hk
theorem fo_lt' {m : Mc} (h : Rt m) {i k : Nat} (hk : (foN m i).testBit k = true) : i < m.sp.length := by
  rcases Nat.lt_or_ge i m.fo.length with hi | hi
  · rw [← h.fol]; exact hi
  · unfold foN at hk; rw [getD_ge hi] at hk; simp [grp, ofN] at hk
theorem fi_lt {m : Mc} (h : Rt m) {k : Nat} (hk : (grp m.fi).testBit k = true) : k < m.sp.length := grp_lt h.fiR hk
theorem map_grp (m : Mc) (k : Nat) : (m.fo.map grp).getD k 0 = foN m k := by
  unfold foN
  rw [List.getD_eq_getElem?_getD, List.getElem?_map, List.getD_eq_getElem?_getD]
  cases m.fo[k]? <;> rfl
theorem rd_bit (m : Mc) (q c k : Nat) : (rd m q c).testBit k = true ↔ k < 256 ∧ q.testBit k = true ∧ (stN m k).testBit c = true := by
  unfold rd; rw [ofN_testBit]; simp [mem_listN, and_assoc]
theorem foldl_or_bit (G : List Nat) (k : Nat) : ∀ (l : List Nat) (A : Nat), (l.foldl (fun a i => a ||| G.getD i 0) A).testBit k = true ↔ A.testBit k = true ∨ ∃ i ∈ l, (G.getD i 0).testBit k = true
  | [], A => by simp
  | x :: l, A => by
    rw [List.foldl_cons, foldl_or_bit G k l, Nat.testBit_or, Bool.or_eq_true]
    simp [or_assoc]
theorem bh_bit (G : List Nat) (q k : Nat) : (bh G q).testBit k = true ↔ ∃ i, i < 256 ∧ q.testBit i = true ∧ (G.getD i 0).testBit k = true := by
  unfold bh; rw [foldl_or_bit]; simp [mem_listN, and_assoc]
theorem last_bit (m : Mc) (k : Nat) : (lastN m).testBit k = true ↔ m.la.getD k false = true := by
  unfold lastN; rw [ofN_testBit, List.contains_iff_mem, List.mem_filter, List.mem_range]
  constructor
  · exact fun h => h.2
  · intro h
    refine ⟨?_, h⟩
    rcases Nat.lt_or_ge k m.la.length with hk | hk
    · exact hk
    · rw [getD_ge hk] at h; cases h
/-- From spot k on, the text w ends well. -/
inductive Gs (m : Mc) : Nat → List Nat → Prop
  | done {k : Nat} : m.la.getD k false = true → Gs m k []
  | more {k j c : Nat} {w : List Nat} : (foN m k).testBit j = true → (stN m j).testBit c = true → Gs m j w → Gs m k (c :: w)
def Tk (m : Mc) : List Nat → Prop
  | [] => m.em = true
  | c :: w => ∃ k, (grp m.fi).testBit k = true ∧ (stN m k).testBit c = true ∧ Gs m k w
/-- The runs on w, from the spots q that may come next. -/
def stepS (m : Mc) (p : Nat × Nat) (c : Nat) : Nat × Nat := (rd m p.2 c, bh (m.fo.map grp) (rd m p.2 c))
theorem fold_iff {m : Mc} (h : Rt m) : ∀ (w : List Nat) (A q : Nat), (∀ k, q.testBit k = true → k < m.sp.length) →
    ((w.foldl (stepS m) (A, q)).1 &&& lastN m ≠ 0 ↔ (w = [] ∧ A &&& lastN m ≠ 0) ∨ ∃ c v, w = c :: v ∧ ∃ k, q.testBit k = true ∧ (stN m k).testBit c = true ∧ Gs m k v)
  | [], A, q, _ => by simp
  | c :: w, A, q, hq => by
    have h256 := h.many
    have hr : ∀ k, (rd m q c).testBit k = true ↔ q.testBit k = true ∧ (stN m k).testBit c = true := by
      intro k; rw [rd_bit]
      constructor
      · exact fun h => h.2
      · exact fun h => ⟨by have := hq k h.1; omega, h⟩
    have hb : ∀ k, (bh (m.fo.map grp) (rd m q c)).testBit k = true ↔ ∃ i, (q.testBit i = true ∧ (stN m i).testBit c = true) ∧ (foN m i).testBit k = true := by
      intro k; rw [bh_bit]
      constructor
      · rintro ⟨i, _, h1, h2⟩; exact ⟨i, (hr i).1 h1, by rw [← map_grp]; exact h2⟩
      · rintro ⟨i, h1, h2⟩; exact ⟨i, by have := hq i h1.1; omega, (hr i).2 h1, by rw [map_grp]; exact h2⟩
    rw [List.foldl_cons]
    show (List.foldl (stepS m) (rd m q c, bh (m.fo.map grp) (rd m q c)) w).1 &&& lastN m ≠ 0 ↔ _
    rw [fold_iff h w _ _ (fun k hk => by obtain ⟨i, -, h2⟩ := (hb k).1 hk; exact fo_lt h h2)]
    have hne : rd m q c &&& lastN m ≠ 0 ↔ ∃ k, q.testBit k = true ∧ (stN m k).testBit c = true ∧ m.la.getD k false = true := by
      constructor
      · intro hn
        obtain ⟨k, hk⟩ := Nat.exists_testBit_of_ne_zero hn
        rw [Nat.testBit_and, Bool.and_eq_true, hr, last_bit] at hk
        exact ⟨k, hk.1.1, hk.1.2, hk.2⟩
      · rintro ⟨k, h1, h2, h3⟩ hz
        have : (rd m q c &&& lastN m).testBit k = true := by rw [Nat.testBit_and, Bool.and_eq_true, hr, last_bit]; exact ⟨⟨h1, h2⟩, h3⟩
        rw [hz] at this; simp at this
    constructor
    · rintro (⟨rfl, hA⟩ | ⟨d, v, rfl, k, hk, hd, hg⟩)
      · obtain ⟨k, h1, h2, h3⟩ := hne.1 hA
        exact .inr ⟨c, [], rfl, k, h1, h2, .done h3⟩
      · obtain ⟨i, ⟨h1, h2⟩, h3⟩ := (hb k).1 hk
        exact .inr ⟨c, _, rfl, i, h1, h2, .more h3 hd hg⟩
    · rintro (⟨h, -⟩ | ⟨d, v, e, k, h1, h2, hg⟩)
      · cases h
      · injection e with e1 e2
        subst e1 e2
        cases hg with
        | done hl => exact .inl ⟨rfl, hne.2 ⟨k, h1, h2, hl⟩⟩
        | more hf hs hg => exact .inr ⟨_, _, rfl, _, (hb _).2 ⟨k, ⟨h1, h2⟩, hf⟩, hs, hg⟩
theorem takes_iff (m : Mc) (w : List Nat) : takesM m w = true ↔ Rt m ∧ Tk m w := by
  unfold takesM
  rw [Bool.and_eq_true, right_iff]
  constructor
  · rintro ⟨h, h2⟩
    refine ⟨h, ?_⟩
    cases w with
    | nil => simpa [Tk] using h2
    | cons c w =>
      rw [if_neg (by simp), decide_eq_true_iff] at h2
      rcases (fold_iff h (c :: w) 0 (grp m.fi) (fun k hk => fi_lt h hk)).1 h2 with ⟨h, -⟩ | ⟨d, v, e, k, h1, h2, hg⟩
      · cases h
      · injection e with e1 e2
        subst e1 e2
        exact ⟨k, h1, h2, hg⟩
  · rintro ⟨h, h2⟩
    refine ⟨h, ?_⟩
    cases w with
    | nil => simpa [Tk] using h2
    | cons c w =>
      rw [if_neg (by simp), decide_eq_true_iff]
      obtain ⟨k, h1, h2, hg⟩ := h2
      exact (fold_iff h (c :: w) 0 (grp m.fi) (fun k hk => fi_lt h hk)).2 (.inr ⟨c, w, rfl, k, h1, h2, hg⟩)
/-- Spots that are come to from some of F, over such of W alone. -/
inductive Rc (F W : Nat) (E : Nat → Nat → Prop) : Nat → Prop
  | base {k : Nat} : F.testBit k = true → W.testBit k = true → Rc F W E k
  | step {i k : Nat} : Rc F W E i → E i k → W.testBit k = true → Rc F W E k
theorem Rc.within {F W : Nat} {E : Nat → Nat → Prop} {k : Nat} (h : Rc F W E k) : W.testBit k = true := by
  cases h with
  | base _ h => exact h
  | step _ _ h => exact h
theorem Rc.least {F W : Nat} {E : Nat → Nat → Prop} {p : Nat → Prop} (h1 : ∀ k, F.testBit k = true → W.testBit k = true → p k) (h2 : ∀ i k, p i → E i k → W.testBit k = true → p k) : ∀ k, Rc F W E k → p k := by
  intro k h
  induction h with
  | base a b => exact h1 _ a b
  | step _ a b ih => exact h2 _ _ ih a b
def fullN (m : Mc) : Nat := ofN ((List.range m.sp.length).filter fun k => stN m k != 0)
theorem full_bit (m : Mc) (k : Nat) : (fullN m).testBit k = true ↔ stN m k ≠ 0 := by
  unfold fullN
  rw [ofN_testBit, List.contains_iff_mem, List.mem_filter, List.mem_range, bne_iff_ne]
  constructor
  · exact fun h => h.2
  · intro h
    refine ⟨?_, h⟩
    rcases Nat.lt_or_ge k m.sp.length with hk | hk
    · exact hk
    · unfold stN at h; rw [getD_ge hk] at h; exact absurd rfl h
def Co (m : Mc) : Nat → Prop := Rc (grp m.fi) (fullN m) fun i k => (foN m i).testBit k = true
def Gg (m : Mc) : Nat → Prop := Rc (lastN m) (fullN m) fun i k => (foN m k).testBit i = true
/-- U is the set of the useful spots. -/
def Us (m : Mc) (U : Nat) : Prop := ∀ k, U.testBit k = true ↔ Co m k ∧ Gg m k
theorem Us.one {m : Mc} {U V : Nat} (h : Us m U) (g : Us m V) : U = V := by
  apply Nat.eq_of_testBit_eq
  intro k
  rw [Bool.eq_iff_iff, h k, g k]
theorem Us.lt {m : Mc} {U k : Nat} (h : Us m U) (hk : U.testBit k = true) : k < m.sp.length := by
  have := (full_bit m k).1 ((h k).1 hk).1.within
  rcases Nat.lt_or_ge k m.sp.length with hk | hk
  · exact hk
  · unfold stN at this; rw [getD_ge hk] at this; exact absurd rfl this
/-- The number that a spot has among those of U. -/
def nu (U k : Nat) : Nat := ((List.range k).filter U.testBit).length
def leftL (U : Nat) (l : List Int) : List Int := (l.filter fun k => U.testBit k.toNat).map fun k => (nu U k.toNat : Int)
def kept (U n : Nat) : List Nat := (List.range n).filter U.testBit
def trimM (m : Mc) (U : Nat) : Mc where
  sp := (kept U m.sp.length).map fun k => m.sp.getD k (0, 0)
  fi := leftL U m.fi
  fo := (kept U m.sp.length).map fun k => leftL U (m.fo.getD k [])
  la := (kept U m.sp.length).map fun k => m.la.getD k false
  em := m.em
end Nf
end Go.Proofs.YtlbaecjmfgahgaaDoor
