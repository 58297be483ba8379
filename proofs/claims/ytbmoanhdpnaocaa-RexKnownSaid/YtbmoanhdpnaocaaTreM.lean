/- Trees of numbered nodes, what is right of them, and their print. Plain; no program. -/
import Derived.Test.YtbmoanhdpnaocaaSets
import Derived.Test.YtbmoanhdpnaocaaLst
namespace Go.Proofs.Ytbmoanhdpnaocaa
namespace Tr
open Sets
structure Nd where
  k : Nat
  s : Nat
  a : Int
  b : Int
  mn : Int
  mx : Int
deriving DecidableEq
instance : Inhabited Nd := ⟨⟨0, 0, 0, 0, 0, 0⟩⟩
def countable (m n : Int) : Bool := if n = -1 then decide (m = 0 ∨ m = 1) else decide (0 ≤ m ∧ m ≤ n ∧ n ≤ 9)
def sound (x : Nd) : Bool :=
  if x.k = 1 then decide (x.s = 0 ∧ x.a = 0 ∧ x.b = 0 ∧ x.mn = 0 ∧ x.mx = 0)
  else if x.k = 2 then decide (x.a = 0 ∧ x.b = 0 ∧ x.mn = 0 ∧ x.mx = 0)
  else if x.k = 3 ∨ x.k = 4 then decide (x.s = 0 ∧ x.mn = 0 ∧ x.mx = 0)
  else if x.k = 5 then decide (x.s = 0 ∧ x.b = 0) && countable x.mn x.mx
  else false
def kids (x : Nd) : List Int := if x.k = 3 ∨ x.k = 4 then [x.a, x.b] else if x.k = 5 then [x.a] else []
/-- The numbers that the nodes of l, and ahead of them others, name. -/
def edges (N : List Nd) : List Int := N.flatMap kids
def roots (R : List (Int × Bool)) : List Int := R.map (·.1)
/-- May these be used, below i, where those of E are used? -/
def okUse (E : List Int) (i : Nat) (K : List Int) : Prop := (∀ c ∈ K, 0 ≤ c ∧ c < i) ∧ (∀ c ∈ K, c ∉ E) ∧ K.Nodup
structure Right (N : List Nd) (R : List (Int × Bool)) : Prop where
  few : 1 ≤ R.length ∧ R.length ≤ 20 ∧ N.length ≤ 600
  snd : ∀ i, i < N.length → sound (N.getD i default) = true
  low : ∀ i, i < N.length → ∀ c ∈ kids (N.getD i default), 0 ≤ c ∧ c < i
  rts : ∀ c ∈ roots R, 0 ≤ c ∧ c < N.length
  nod : (edges N ++ roots R).Nodup
  all : ∀ j, j < N.length → (j : Int) ∈ edges N ++ roots R
/-- Trees of numbers of nodes. -/
inductive T where
  | leaf (i : Nat)
  | one (i : Nat) (a : T)
  | two (i : Nat) (a b : T)
def T.root : T → Nat
  | .leaf i => i
  | .one i _ => i
  | .two i _ _ => i
def T.pre : T → List Nat
  | .leaf i => [i]
  | .one i a => i :: a.pre
  | .two i a b => i :: (a.pre ++ b.pre)
def T.sum (f : Nat → Nat) : T → Nat
  | .leaf i => f i
  | .one i a => f i + a.sum f
  | .two i a b => f i + (a.sum f + b.sum f)
/-- Does t say what stands below its root? -/
def Is (N : List Nd) : T → Prop
  | .leaf i => i < N.length ∧ kids (N.getD i default) = []
  | .one i a => i < N.length ∧ kids (N.getD i default) = [(a.root : Int)] ∧ a.root < i ∧ Is N a
  | .two i a b => i < N.length ∧ kids (N.getD i default) = [(a.root : Int), (b.root : Int)] ∧ a.root < i ∧ b.root < i ∧ Is N a ∧ Is N b
theorem Is.lt {N : List Nd} {t : T} (h : Is N t) : t.root < N.length := by cases t <;> exact h.1
theorem kids_len (x : Nd) : kids x = [] ∨ (∃ a, kids x = [a]) ∨ ∃ a b, kids x = [a, b] := by
  unfold kids
  split
  · exact .inr (.inr ⟨_, _, rfl⟩)
  · split
    · exact .inr (.inl ⟨_, rfl⟩)
    · exact .inl rfl
/-- Where all lead down there is a tree of each. -/
theorem is_of_low {N : List Nd} (low : ∀ i, i < N.length → ∀ c ∈ kids (N.getD i default), 0 ≤ c ∧ c < i) : ∀ (i : Nat), i < N.length → ∃ t, Is N t ∧ t.root = i := by
  intro i
  induction i using Nat.strongRecOn with
  | _ i ih =>
    intro hi
    have hl := low i hi
    rcases kids_len (N.getD i default) with h | ⟨a, h⟩ | ⟨a, b, h⟩
    · exact ⟨.leaf i, ⟨hi, h⟩, rfl⟩
    · rw [h] at hl
      have ha := hl a (by simp)
      obtain ⟨t, ht, hr⟩ := ih a.toNat (by omega) (by omega)
      exact ⟨.one i t, ⟨hi, by rw [h, hr, Int.toNat_of_nonneg ha.1], by omega, ht⟩, rfl⟩
    · rw [h] at hl
      have ha := hl a (by simp)
      have hb := hl b (by simp)
      obtain ⟨t, ht, hr⟩ := ih a.toNat (by omega) (by omega)
      obtain ⟨u, hu, hs⟩ := ih b.toNat (by omega) (by omega)
      exact ⟨.two i t u, ⟨hi, by rw [h, hr, hs, Int.toNat_of_nonneg ha.1, Int.toNat_of_nonneg hb.1], by omega, by omega, ht, hu⟩, rfl⟩
theorem is_unique {N : List Nd} : ∀ (t u : T), Is N t → Is N u → t.root = u.root → t = u := by
  intro t
  induction t with
  | leaf i =>
    intro u ht hu h
    cases u <;> simp only [T.root] at h <;> subst h <;> obtain ⟨-, h1⟩ := ht <;> simp only [Is] at hu <;> rw [h1] at hu
    all_goals first | rfl | (simp at hu; done)
  | one i a ih =>
    intro u ht hu h
    cases u <;> simp only [T.root] at h <;> subst h <;> obtain ⟨-, h1, -, h2⟩ := ht <;> simp only [Is] at hu <;> rw [h1] at hu
    case one b => simp at hu; rw [ih b h2 hu.2.2.2 (by omega)]
    all_goals (simp at hu; done)
  | two i a b ih1 ih2 =>
    intro u ht hu h
    cases u <;> simp only [T.root] at h <;> subst h <;> obtain ⟨-, h1, -, -, h2, h3⟩ := ht <;> simp only [Is] at hu <;> rw [h1] at hu
    case two c d => simp at hu; rw [ih1 c h2 hu.2.2.2.2.1 (by omega), ih2 d h3 hu.2.2.2.2.2 (by omega)]
    all_goals (simp at hu; done)
/-- The tree below a number. -/
noncomputable def tr (N : List Nd) (i : Nat) : T := open Classical in if h : ∃ t, Is N t ∧ t.root = i then h.choose else .leaf i
theorem tr_of {N : List Nd} {t : T} (h : Is N t) : tr N t.root = t := by
  have he : ∃ u, Is N u ∧ u.root = t.root := ⟨t, h, rfl⟩
  unfold tr
  rw [dif_pos he]
  exact is_unique _ _ he.choose_spec.1 h he.choose_spec.2
/-- Twice counted: what the roots' trees hold in sum is what the nodes hold. -/
theorem sum_flat (f : Int → Nat) (l : List Nd) : ((edges l).map f).sum = (l.map fun x => ((kids x).map f).sum).sum := by
  induction l with
  | nil => rfl
  | cons x l ih => simp only [edges, List.flatMap_cons, List.map_append, List.sum_append, List.map_cons, List.sum_cons] at *; rw [ih]
theorem sum_range (g : Nat → Nat) (n : Nat) (l : List Int) (h1 : l.Nodup) (h2 : ∀ c ∈ l, 0 ≤ c ∧ c < (n : Int)) (h3 : ∀ j, j < n → (j : Int) ∈ l) : (l.map fun c => g c.toNat).sum = ((List.range n).map g).sum := by
  have hp : (l.map Int.toNat).Perm (List.range n) := by
    refine (List.perm_ext_iff_of_nodup ?_ List.nodup_range).2 (fun a => ?_)
    · refine List.pairwise_map.2 (List.Pairwise.imp_of_mem (fun {a b} ha hb hne e => hne ?_) h1)
      have := h2 a ha
      have := h2 b hb
      omega
    · constructor
      · intro ha
        obtain ⟨c, hc, rfl⟩ := List.mem_map.1 ha
        have := h2 c hc
        exact List.mem_range.2 (by omega)
      · intro ha
        exact List.mem_map.2 ⟨a, h3 a (List.mem_range.1 ha), by simp⟩
  have := (hp.map g).sum_nat
  rw [List.map_map] at this
  exact this
theorem map_range_getD (l : List Nd) (g : Nd → Nat) : (l.map g).sum = ((List.range l.length).map fun i => g (l.getD i default)).sum := by
  congr 1
  apply List.ext_getElem
  · simp
  · intro i h1 h2
    simp only [List.length_map] at h1
    simp [List.getD_eq_getElem?_getD, h1]
theorem sum_split (n : Nat) (f g h : Nat → Nat) (e : ∀ i, i < n → f i = g i + h i) : ((List.range n).map f).sum = ((List.range n).map g).sum + ((List.range n).map h).sum := by
  induction n with
  | zero => rfl
  | succ n ih =>
    simp only [List.range_succ, List.map_append, List.sum_append, List.map_cons, List.map_nil, List.sum_cons, List.sum_nil]
    rw [ih (fun i hi => e i (by omega)), e n (by omega)]
    omega
theorem sum_node {N : List Nd} (low : ∀ i, i < N.length → ∀ c ∈ kids (N.getD i default), 0 ≤ c ∧ c < i) (f : Nat → Nat) (i : Nat) (hi : i < N.length) :
    (tr N i).sum f = f i + ((kids (N.getD i default)).map fun c => (tr N c.toNat).sum f).sum := by
  obtain ⟨t, ht, rfl⟩ := is_of_low low i hi
  rw [tr_of ht]
  cases t with
  | leaf i => obtain ⟨-, h⟩ := ht; simp only [T.root]; rw [h]; rfl
  | one i a => obtain ⟨-, h, -, h2⟩ := ht; simp only [T.root]; rw [h]; simp [T.sum, tr_of h2]
  | two i a b => obtain ⟨-, h, -, -, h2, h3⟩ := ht; simp only [T.root]; rw [h]; simp [T.sum, tr_of h2, tr_of h3]
theorem sum_roots {N : List Nd} {R : List (Int × Bool)} (h : Right N R) (f : Nat → Nat) : ((roots R).map fun c => (tr N c.toNat).sum f).sum = ((List.range N.length).map f).sum := by
  have h1 := sum_range (fun i => (tr N i).sum f) N.length (edges N ++ roots R) h.nod (fun c hc => by
    rcases List.mem_append.1 hc with hc | hc
    · obtain ⟨x, hx, hc⟩ := List.mem_flatMap.1 hc
      obtain ⟨i, hi, rfl⟩ := List.mem_iff_getElem.1 hx
      have := h.low i hi c (by rw [List.getD_eq_getElem?_getD, List.getElem?_eq_getElem hi]; exact hc)
      omega
    · exact h.rts c hc) h.all
  rw [List.map_append, List.sum_append, sum_flat, map_range_getD] at h1
  rw [sum_split N.length _ f _ (fun i hi => sum_node h.low f i hi)] at h1
  omega
theorem T.sum_pos (t : T) : 1 ≤ t.sum fun _ => 1 := by cases t <;> simp only [T.sum] <;> omega
theorem count_pre (j : Nat) (t : T) : t.pre.count j = t.sum fun i => if i = j then 1 else 0 := by
  induction t with
  | leaf i => simp [T.pre, T.sum, List.count_cons]
  | one i a ih => simp only [T.pre, T.sum, List.count_cons, ih, beq_iff_eq]; omega
  | two i a b ih1 ih2 => simp only [T.pre, T.sum, List.count_cons, List.count_append, ih1, ih2, beq_iff_eq]; omega
theorem sum_mono (f g : Nat → Nat) (h : ∀ i, f i ≤ g i) (t : T) : t.sum f ≤ t.sum g := by
  induction t with
  | leaf i => exact h i
  | one i a ih => have := h i; simp only [T.sum]; omega
  | two i a b ih1 ih2 => have := h i; simp only [T.sum]; omega
/-- A right tree's nodes: no more than there are, in all parts. -/
theorem size_roots {N : List Nd} {R : List (Int × Bool)} (h : Right N R) : ((roots R).map fun c => (tr N c.toNat).sum fun _ => 1).sum = N.length := by
  rw [sum_roots h]
  generalize N.length = n
  induction n with
  | zero => rfl
  | succ n ih => rw [List.range_succ, List.map_append, List.sum_append, ih]; rfl
theorem le_sum_of_mem (l : List Int) (f : Int → Nat) (c : Int) (h : c ∈ l) : f c ≤ (l.map f).sum := by
  induction l with
  | nil => cases h
  | cons a l ih =>
    simp only [List.map_cons, List.sum_cons]
    rcases List.mem_cons.1 h with rfl | h
    · omega
    · have := ih h; omega
end Tr
end Go.Proofs.Ytbmoanhdpnaocaa
