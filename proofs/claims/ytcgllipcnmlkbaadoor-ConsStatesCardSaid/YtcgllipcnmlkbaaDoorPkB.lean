/- Several texts in one. -/
import Derived.Test.YtcgllipcnmlkbaaDoorPkA
namespace Go.Proofs.YtcgllipcnmlkbaaDoor
namespace Tr
open Sets
structure Nd where
  k : Nat
  s : Nat
  a : Int
  b : Int
  mn : Int
  mx : Int
deriving DecidableEq
instance : Inhabited Nd := ⟨⟨0, 0, 0, 0, 0, 0⟩⟩
def countable (m n : Int) : Bool := if n = -1 then decide (m = 0 ∨ m = 1) else decide (0 ≤ m ∧ m ≤ n ∧ n ≤ 9)
def sound (x : Nd) : Bool :=
  if x.k = 1 then decide (x.s = 0 ∧ x.a = 0 ∧ x.b = 0 ∧ x.mn = 0 ∧ x.mx = 0)
  else if x.k = 2 then decide (x.a = 0 ∧ x.b = 0 ∧ x.mn = 0 ∧ x.mx = 0)
  else if x.k = 3 ∨ x.k = 4 then decide (x.s = 0 ∧ x.mn = 0 ∧ x.mx = 0)
  else if x.k = 5 then decide (x.s = 0 ∧ x.b = 0) && countable x.mn x.mx
  else false
def kids (x : Nd) : List Int := if x.k = 3 ∨ x.k = 4 then [x.a, x.b] else if x.k = 5 then [x.a] else []
/-- The numbers that the nodes of l, and ahead of them others, name. -/
def edges (N : List Nd) : List Int := N.flatMap kids
def roots (R : List (Int × Bool)) : List Int := R.map (·.1)
/-- May these be used, below i, where those of E are used? -/
def okUse (E : List Int) (i : Nat) (K : List Int) : Prop := (∀ c ∈ K, 0 ≤ c ∧ c < i) ∧ (∀ c ∈ K, c ∉ E) ∧ K.Nodup
structure Right (N : List Nd) (R : List (Int × Bool)) : Prop where
  few : 1 ≤ R.length ∧ R.length ≤ 20 ∧ N.length ≤ 600
  snd : ∀ i, i < N.length → sound (N.getD i default) = true
  low : ∀ i, i < N.length → ∀ c ∈ kids (N.getD i default), 0 ≤ c ∧ c < i
  rts : ∀ c ∈ roots R, 0 ≤ c ∧ c < N.length
  nod : (edges N ++ roots R).Nodup
  all : ∀ j, j < N.length → (j : Int) ∈ edges N ++ roots R
/-- Trees of numbers of nodes. -/
inductive T where
  | leaf (i : Nat)
  | one (i : Nat) (a : T)
  | two (i : Nat) (a b : T)
def T.root : T → Nat
  | .leaf i => i
  | .one i _ => i
  | .two i _ _ => i
def T.pre : T → List Nat
  | .leaf i => [i]
  | .one i a => i :: a.pre
  | .two i a b => i :: (a.pre ++ b.pre)
def T.sum (f : Nat → Nat) : T → Nat
  | .leaf i => f i
  | .one i a => f i + a.sum f
  | .two i a b => f i + (a.sum f + b.sum f)
/-- Does t say what stands below its root? -/
def Is (N : List Nd) : T → Prop
  | .leaf i => i < N.length ∧ kids (N.getD i default) = []
  | .one i a => i < N.length ∧ kids (N.getD i default) = [(a.root : Int)] ∧ a.root < i ∧ Is N a
  | .two i a b => i < N.length ∧ kids (N.getD i default) = [(a.root : Int), (b.root : Int)] ∧ a.root < i ∧ b.root < i ∧ Is N a ∧ Is N b
theorem Is.lt {N : List Nd} {t : T} (h : Is N t) : t.root < N.length := by cases t <;> exact h.1
theorem kids_len (x : Nd) : kids x = [] ∨ (∃ a, kids x = [a]) ∨ ∃ a b, kids x = [a, b] := by
  unfold kids
  split
  · exact .inr (.inr ⟨_, _, rfl⟩)
  · split
    · exact .inr (.inl ⟨_, rfl⟩)
    · exact .inl rfl
/-- Where all lead down there is a tree of each. -/
theorem is_of_low {N : List Nd} (low : ∀ i, i < N.length → ∀ c ∈ kids (N.getD i default), 0 ≤ c ∧ c < i) : ∀ (i : Nat), i < N.length → ∃ t, Is N t ∧ t.root = i := by
  intro i
  induction i using Nat.strongRecOn with
  | _ i ih =>
    intro hi
    have hl := low i hi
    rcases kids_len (N.getD i default) with h | ⟨a, h⟩ | ⟨a, b, h⟩
    · exact ⟨.leaf i, ⟨hi, h⟩, rfl⟩
    · rw [h] at hl
      have ha := hl a (by simp)
      obtain ⟨t, ht, hr⟩ := ih a.toNat (by omega) (by omega)
      exact ⟨.one i t, ⟨hi, by rw [h, hr, Int.toNat_of_nonneg ha.1], by omega, ht⟩, rfl⟩
    · rw [h] at hl
      have ha := hl a (by simp)
      have hb := hl b (by simp)
      obtain ⟨t, ht, hr⟩ := ih a.toNat (by omega) (by omega)
      obtain ⟨u, hu, hs⟩ := ih b.toNat (by omega) (by omega)
      exact ⟨.two i t u, ⟨hi, by rw [h, hr, hs, Int.toNat_of_nonneg ha.1, Int.toNat_of_nonneg hb.1], by omega, by omega, ht, hu⟩, rfl⟩
theorem is_unique {N : List Nd} : ∀ (t u : T), Is N t → Is N u → t.root = u.root → t = u := by
  intro t
  induction t with
  | leaf i =>
    intro u ht hu h
    cases u <;> simp only [T.root] at h <;> subst h <;> obtain ⟨-, h1⟩ := ht <;> simp only [Is] at hu <;> rw [h1] at hu
    all_goals first | rfl | (simp at hu; done)
  | one i a ih =>
    intro u ht hu h
    cases u <;> simp only [T.root] at h <;> subst h <;> obtain ⟨-, h1, -, h2⟩ := ht <;> simp only [Is] at hu <;> rw [h1] at hu
    case one b => simp at hu; rw [ih b h2 hu.2.2.2 (by omega)]
    all_goals (simp at hu; done)
  | two i a b ih1 ih2 =>
    intro u ht hu h
    cases u <;> simp only [T.root] at h <;> subst h <;> obtain ⟨-, h1, -, -, h2, h3⟩ := ht <;> simp only [Is] at hu <;> rw [h1] at hu
    case two c d => simp at hu; rw [ih1 c h2 hu.2.2.2.2.1 (by omega), ih2 d h3 hu.2.2.2.2.2 (by omega)]
    all_goals (simp at hu; done)
/-- The tree below a number. -/
noncomputable def tr (N : List Nd) (i : Nat) : T := open Classical in if h : ∃ t, Is N t ∧ t.root = i then h.choose else .leaf i
theorem tr_of {N : List Nd} {t : T} (h : Is N t) : tr N t.root = t := by
  have he : ∃ u, Is N u ∧ u.root = t.root := ⟨t, h, rfl⟩
  unfold tr
  rw [dif_pos he]
  exact is_unique _ _ he.choose_spec.1 h he.choose_spec.2
/-- Twice counted: what the roots' trees hold in sum is what the nodes hold. -/
theorem sum_flat (f : Int → Nat) (l : List Nd) : ((edges l).map f).sum = (l.map fun x => ((kids x).map f).sum).sum := by
  induction l with
  | nil => rfl
  | cons x l ih => simp only [edges, List.flatMap_cons, List.map_append, List.sum_append, List.map_cons, List.sum_cons] at *; rw [ih]
theorem sum_range (g : Nat → Nat) (n : Nat) (l : List Int) (h1 : l.Nodup) (h2 : ∀ c ∈ l, 0 ≤ c ∧ c < (n : Int)) (h3 : ∀ j, j < n → (j : Int) ∈ l) : (l.map fun c => g c.toNat).sum = ((List.range n).map g).sum := by
  have hp : (l.map Int.toNat).Perm (List.range n) := by
    refine (List.perm_ext_iff_of_nodup ?_ List.nodup_range).2 (fun a => ?_)
    · refine List.pairwise_map.2 (List.Pairwise.imp_of_mem (fun {a b} ha hb hne e => hne ?_) h1)
      have := h2 a ha
      have := h2 b hb
      omega
    · constructor
      · intro ha
        obtain ⟨c, hc, rfl⟩ := List.mem_map.1 ha
        have := h2 c hc
        exact List.mem_range.2 (by omega)
      · intro ha
        exact List.mem_map.2 ⟨a, h3 a (List.mem_range.1 ha), by simp⟩
  have := (hp.map g).sum_nat
  rw [List.map_map] at this
  exact this
theorem map_range_getD (l : List Nd) (g : Nd → Nat) : (l.map g).sum = ((List.range l.length).map fun i => g (l.getD i default)).sum := by
  congr 1
  apply List.ext_getElem
  · simp
  · intro i h1 h2
    simp only [List.length_map] at h1
    simp [List.getD_eq_getElem?_getD, h1]
theorem sum_split (n : Nat) (f g h : Nat → Nat) (e : ∀ i, i < n → f i = g i + h i) : ((List.range n).map f).sum = ((List.range n).map g).sum + ((List.range n).map h).sum := by
  induction n with
  | zero => rfl
  | succ n ih =>
    simp only [List.range_succ, List.map_append, List.sum_append, List.map_cons, List.map_nil, List.sum_cons, List.sum_nil]
    rw [ih (fun i hi => e i (by omega)), e n (by omega)]
    omega
theorem sum_node {N : List Nd} (low : ∀ i, i < N.length → ∀ c ∈ kids (N.getD i default), 0 ≤ c ∧ c < i) (f : Nat → Nat) (i : Nat) (hi : i < N.length) :
    (tr N i).sum f = f i + ((kids (N.getD i default)).map fun c => (tr N c.toNat).sum f).sum := by
  obtain ⟨t, ht, rfl⟩ := is_of_low low i hi
  rw [tr_of ht]
  cases t with
  | leaf i => obtain ⟨-, h⟩ := ht; simp only [T.root]; rw [h]; rfl
  | one i a => obtain ⟨-, h, -, h2⟩ := ht; simp only [T.root]; rw [h]; simp [T.sum, tr_of h2]
  | two i a b => obtain ⟨-, h, -, -, h2, h3⟩ := ht; simp only [T.root]; rw [h]; simp [T.sum, tr_of h2, tr_of h3]
theorem sum_roots {N : List Nd} {R : List (Int × Bool)} (h : Right N R) (f : Nat → Nat) : ((roots R).map fun c => (tr N c.toNat).sum f).sum = ((List.range N.length).map f).sum := by
  have h1 := sum_range (fun i => (tr N i).sum f) N.length (edges N ++ roots R) h.nod (fun c hc => by
    rcases List.mem_append.1 hc with hc | hc
    · obtain ⟨x, hx, hc⟩ := List.mem_flatMap.1 hc
      obtain ⟨i, hi, rfl⟩ := List.mem_iff_getElem.1 hx
      have := h.low i hi c (by rw [List.getD_eq_getElem?_getD, List.getElem?_eq_getElem hi]; exact hc)
      omega
    · exact h.rts c hc) h.all
  rw [List.map_append, List.sum_append, sum_flat, map_range_getD] at h1
  rw [sum_split N.length _ f _ (fun i hi => sum_node h.low f i hi)] at h1
  omega
theorem T.sum_pos (t : T) : 1 ≤ t.sum fun _ => 1 := by cases t <;> simp only [T.sum] <;> omega
theorem count_pre (j : Nat) (t : T) : t.pre.count j = t.sum fun i => if i = j then 1 else 0 := by
  induction t with
  | leaf i => simp [T.pre, T.sum, List.count_cons]
  | one i a ih => simp only [T.pre, T.sum, List.count_cons, ih, beq_iff_eq]; omega
  | two i a b ih1 ih2 => simp only [T.pre, T.sum, List.count_cons, List.count_append, ih1, ih2, beq_iff_eq]; omega
theorem sum_mono (f g : Nat → Nat) (h : ∀ i, f i ≤ g i) (t : T) : t.sum f ≤ t.sum g := by
  induction t with
  | leaf i => exact h i
  | one i a ih => have := h i; simp only [T.sum]; omega
  | two i a b ih1 ih2 => have := h i; simp only [T.sum]; omega
/-- A right tree's nodes: no more than there are, in all parts. -/
theorem size_roots {N : List Nd} {R : List (Int × Bool)} (h : Right N R) : ((roots R).map fun c => (tr N c.toNat).sum fun _ => 1).sum = N.length := by
  rw [sum_roots h]
  generalize N.length = n
  induction n with
  | zero => rfl
  | succ n ih => rw [List.range_succ, List.map_append, List.sum_append, ih]; rfl
theorem le_sum_of_mem (l : List Int) (f : Int → Nat) (c : Int) (h : c ∈ l) : f c ≤ (l.map f).sum := by
  induction l with
  | nil => cases h
  | cons a l ih =>
    simp only [List.map_cons, List.sum_cons]
    rcases List.mem_cons.1 h with rfl | h
    · omega
    · have := ih h; omega
end Tr
end Go.Proofs.YtcgllipcnmlkbaaDoor
namespace Go.Proofs.YtcgllipcnmlkbaaDoor
namespace Tr
open Sets
inductive X where
  | emp
  | set (s : Nat)
  | seq (a b : X)
  | alt (a b : X)
  | tim (a : X) (m n : Int)
deriving DecidableEq
def X.kd : X → Nat
  | .emp => 1
  | .set _ => 2
  | .seq _ _ => 3
  | .alt _ _ => 4
  | .tim _ _ _ => 5
def abs (N : List Nd) : T → X
  | .leaf i => if (N.getD i default).k = 1 then .emp else .set (N.getD i default).s
  | .one i a => .tim (abs N a) (N.getD i default).mn (N.getD i default).mx
  | .two i a b => if (N.getD i default).k = 3 then .seq (abs N a) (abs N b) else .alt (abs N a) (abs N b)
/-- ! & | * + ? { } [ ] ( ) . and the backslash -/
def marks : List Nat := [38, 33, 124, 42, 43, 63, 123, 125, 91, 93, 40, 41, 46, 92]
def inner : List Nat := [92, 93, 94, 45]
def hex (d : Nat) : Nat := if d < 10 then 48 + d else 87 + d
def esc (m : List Nat) (c : Nat) : List Nat := if m.contains c then [92, c] else if c < 33 ∨ 126 < c then [92, 120, hex (c / 16), hex (c % 16)] else [c]
/-- how many stand side by side ahead -/
def runLen : List Nat → Nat
  | [] => 0
  | [_] => 1
  | a :: b :: r => if b = a + 1 then runLen (b :: r) + 1 else 1
def oneRun (l : List Nat) : List Nat := esc inner (l.getD 0 0) ++ ((if 2 < l.length then [45] else []) ++ (if 1 < l.length then esc inner (l.getD (l.length - 1) 0) else []))
def runs : Nat → List Nat → List Nat
  | 0, _ => []
  | _ + 1, [] => []
  | f + 1, a :: l => oneRun ((a :: l).take (runLen (a :: l))) ++ runs f ((a :: l).drop (runLen (a :: l)))
def setPr (s : Nat) : List Nat :=
  if s = full then [46] else if (listN s).length = 1 then esc marks ((listN s).getD 0 0) else 91 :: (runs 256 (listN s) ++ [93])
def wr (c : Bool) (l : List Nat) : List Nat := if c then 40 :: (l ++ [41]) else l
def dig (m : Int) : Nat := 48 + m.toNat
def tm (m n : Int) : List Nat :=
  if n = -1 then (if m = 0 then [42] else [43]) else if m = 0 ∧ n = 1 then [63] else 123 :: dig m :: ((if n ≠ m then [44, dig n] else []) ++ [125])
def prX : X → List Nat
  | .emp => [40, 41]
  | .set s => setPr s
  | .seq a b => wr (a.kd == 4) (prX a) ++ wr (b.kd == 4 || b.kd == 3) (prX b)
  | .alt a b => prX a ++ 124 :: wr (b.kd == 4) (prX b)
  | .tim a m n => wr (decide (2 < a.kd)) (prX a) ++ tm m n
/-- the print of parts, behind i of them -/
def prParts : Nat → List (X × Bool) → List Nat
  | _, [] => []
  | i, p :: r => (if 0 < i then [38] else []) ++ ((if p.2 then [33] else []) ++ (prX p.1 ++ prParts (i + 1) r))
noncomputable def parts (N : List Nd) (R : List (Int × Bool)) : List (X × Bool) := R.map fun p => (abs N (tr N p.1.toNat), p.2)
noncomputable def pr (N : List Nd) (R : List (Int × Bool)) : List Nat := prParts 0 (parts N R)
theorem prParts_append (l : List (X × Bool)) : ∀ (i : Nat) (p : X × Bool), prParts i (l ++ [p]) = prParts i l ++ prParts (i + l.length) [p] := by
  induction l with
  | nil => intro i p; simp [prParts]
  | cons q l ih => intro i p; simp only [List.cons_append, prParts, ih, List.append_assoc, List.length_cons]; rw [show i + 1 + l.length = i + (l.length + 1) from by omega]
theorem runLen_pos (a : Nat) (l : List Nat) : 1 ≤ runLen (a :: l) := by
  cases l with
  | nil => exact Nat.le_refl _
  | cons b r => unfold runLen; split <;> omega
theorem runLen_le : ∀ (l : List Nat), runLen l ≤ l.length := by
  intro l
  induction l with
  | nil => exact Nat.le_refl _
  | cons a l ih =>
    cases l with
    | nil => exact Nat.le_refl _
    | cons b r => unfold runLen; split <;> simp at * <;> omega
theorem esc_len (m : List Nat) (c : Nat) : (esc m c).length ≤ 4 := by
  unfold esc; split
  · simp
  · split <;> simp
theorem oneRun_len (l : List Nat) : (oneRun l).length ≤ 9 := by
  have h1 := esc_len inner (l.getD 0 0)
  have h2 := esc_len inner (l.getD (l.length - 1) 0)
  unfold oneRun
  generalize esc inner (l.getD 0 0) = x at *
  generalize esc inner (l.getD (l.length - 1) 0) = y at *
  simp only [List.length_append]
  split <;> split <;> simp <;> omega
theorem runs_len : ∀ (f : Nat) (l : List Nat), (runs f l).length ≤ 9 * f := by
  intro f
  induction f with
  | zero => intro l; simp [runs]
  | succ f ih =>
    intro l
    cases l with
    | nil => simp [runs]
    | cons a l =>
      simp only [runs, List.length_append]
      have h1 := oneRun_len ((a :: l).take (runLen (a :: l)))
      have h2 := ih ((a :: l).drop (runLen (a :: l)))
      omega
theorem setPr_len (s : Nat) : (setPr s).length ≤ 2400 := by
  unfold setPr
  split
  · simp
  · split
    · have := esc_len marks ((listN s).getD 0 0); omega
    · have := runs_len 256 (listN s); simp only [List.length_cons, List.length_append, List.length_nil]; omega
theorem wr_len (c : Bool) (l : List Nat) : (wr c l).length ≤ l.length + 2 := by cases c <;> simp [wr]
theorem tm_len (m n : Int) : (tm m n).length ≤ 5 := by
  unfold tm; split
  · split <;> simp
  · split
    · simp
    · split <;> simp
theorem prX_len (N : List Nd) (t : T) : (prX (abs N t)).length ≤ 2400 * t.sum fun _ => 1 := by
  induction t with
  | leaf i =>
    simp only [abs, T.sum]
    split
    · simp [prX]
    · exact setPr_len _
  | one i a ih =>
    simp only [abs, T.sum, prX, List.length_append]
    have h1 := wr_len (decide (2 < (abs N a).kd)) (prX (abs N a))
    have h2 := tm_len (N.getD i default).mn (N.getD i default).mx
    omega
  | two i a b ih1 ih2 =>
    simp only [abs, T.sum]
    split
    · simp only [prX, List.length_append]
      have h1 := wr_len ((abs N a).kd == 4) (prX (abs N a))
      have h2 := wr_len ((abs N b).kd == 4 || (abs N b).kd == 3) (prX (abs N b))
      omega
    · simp only [prX, List.length_append, List.length_cons]
      have h2 := wr_len ((abs N b).kd == 4) (prX (abs N b))
      omega
/-- Places, each at most 2^30. -/
def cap : Nat := 1073741824
def pl (N : List Nd) : T → Nat
  | .leaf i => if (N.getD i default).k = 2 then 1 else 0
  | .one i a => min (pl N a * (if (N.getD i default).mx = -1 then 1 else (N.getD i default).mx.toNat)) cap
  | .two _ a b => min (pl N a + pl N b) cap
noncomputable def places (N : List Nd) (R : List (Int × Bool)) : Nat := min (R.map fun p => pl N (tr N p.1.toNat)).sum cap
def T.dep : T → Nat
  | .leaf _ => 1
  | .one _ a => a.dep + 1
  | .two _ a b => max a.dep b.dep + 1
noncomputable def depth (N : List Nd) (R : List (Int × Bool)) : Nat := (R.map fun p => (tr N p.1.toNat).dep).foldl max 0
theorem pl_le (N : List Nd) (t : T) : pl N t ≤ cap := by
  cases t <;> simp only [pl]
  · split <;> decide
  · exact Nat.min_le_right _ _
  · exact Nat.min_le_right _ _
theorem dep_le (N : List Nd) : ∀ t : T, Is N t → t.dep ≤ t.root + 1 := by
  intro t
  induction t with
  | leaf i => intro _; simp [T.dep, T.root]
  | one i a ih => intro h; have := ih h.2.2.2; have := h.2.2.1; simp only [T.dep, T.root]; omega
  | two i a b ih1 ih2 => intro h; have := ih1 h.2.2.2.2.1; have := ih2 h.2.2.2.2.2; have := h.2.2.1; have := h.2.2.2.1; simp only [T.dep, T.root]; omega
theorem kd_abs {N : List Nd} {t : T} (h : Is N t) (hs : sound (N.getD t.root default) = true) : (abs N t).kd = (N.getD t.root default).k := by
  have hk : (N.getD t.root default).k = 1 ∨ (N.getD t.root default).k = 2 ∨ (N.getD t.root default).k = 3 ∨ (N.getD t.root default).k = 4 ∨ (N.getD t.root default).k = 5 := by
    unfold sound at hs
    split at hs
    · omega
    · split at hs
      · omega
      · split at hs
        · omega
        · split at hs
          · omega
          · cases hs
  cases t with
  | leaf i =>
    obtain ⟨-, h2⟩ := h
    simp only [T.root, abs] at *
    generalize N.getD i default = x at *
    unfold kids at h2
    rcases hk with hk | hk | hk | hk | hk <;> simp [hk] at h2 <;> simp [hk, X.kd]
  | one i a =>
    obtain ⟨-, h2, -⟩ := h
    simp only [T.root, abs] at *
    generalize N.getD i default = x at *
    unfold kids at h2
    rcases hk with hk | hk | hk | hk | hk <;> simp [hk] at h2 <;> simp [hk, X.kd]
  | two i a b =>
    obtain ⟨-, h2, -⟩ := h
    simp only [T.root, abs] at *
    generalize N.getD i default = x at *
    unfold kids at h2
    rcases hk with hk | hk | hk | hk | hk <;> simp [hk] at h2 <;> simp [hk, X.kd]
end Tr
end Go.Proofs.YtcgllipcnmlkbaaDoor
namespace Go.Proofs.YtcgllipcnmlkbaaDoor
namespace Tr
open Sets
/-- What a tree of a right one is. -/
def OkX : X → Prop
  | .emp => True
  | .set s => s < 2 ^ 256
  | .seq a b => OkX a ∧ OkX b
  | .alt a b => OkX a ∧ OkX b
  | .tim a m n => OkX a ∧ countable m n = true
def Pl (l : List Nat) : Prop := ∀ c ∈ l, 33 ≤ c ∧ c ≤ 126
theorem Pl.append {l m : List Nat} (h : Pl l) (k : Pl m) : Pl (l ++ m) := fun c hc => (List.mem_append.1 hc).elim (h c) (k c)
theorem Pl.cons {a : Nat} {l : List Nat} (h : 33 ≤ a ∧ a ≤ 126) (k : Pl l) : Pl (a :: l) := fun c hc => (List.mem_cons.1 hc).elim (fun e => e ▸ h) (k c)
theorem Pl.nil : Pl [] := fun c hc => by cases hc
theorem hex_plain (d : Nat) (h : d < 16) : 33 ≤ hex d ∧ hex d ≤ 126 := by unfold hex; split <;> omega
theorem esc_plain (m : List Nat) (c : Nat) (hm : Pl m) (hc : c < 256) : Pl (esc m c) := by
  unfold esc
  split
  · rename_i h
    exact Pl.cons (by decide) (Pl.cons (hm c (List.contains_iff_mem.1 h)) Pl.nil)
  · split
    · exact Pl.cons (by decide) (Pl.cons (by decide) (Pl.cons (hex_plain _ (by omega)) (Pl.cons (hex_plain _ (by omega)) Pl.nil)))
    · exact Pl.cons (by omega) Pl.nil
theorem inner_plain : Pl inner := by unfold Pl inner; decide
theorem marks_plain : Pl marks := by unfold Pl marks; decide
theorem getD_lt256 {l : List Nat} (h : ∀ c ∈ l, c < 256) (i : Nat) : l.getD i 0 < 256 := by
  rw [List.getD_eq_getElem?_getD]
  by_cases hi : i < l.length
  · rw [List.getElem?_eq_getElem hi]; exact h _ (List.getElem_mem hi)
  · rw [List.getElem?_eq_none (by omega)]; decide
theorem oneRun_plain (l : List Nat) (h : ∀ c ∈ l, c < 256) : Pl (oneRun l) := by
  unfold oneRun
  refine (esc_plain _ _ inner_plain (getD_lt256 h _)).append (Pl.append ?_ ?_)
  · split
    · exact Pl.cons (by decide) Pl.nil
    · exact Pl.nil
  · split
    · exact esc_plain _ _ inner_plain (getD_lt256 h _)
    · exact Pl.nil
theorem runs_plain : ∀ (f : Nat) (l : List Nat), (∀ c ∈ l, c < 256) → Pl (runs f l) := by
  intro f
  induction f with
  | zero => intro l _; exact Pl.nil
  | succ f ih =>
    intro l h
    cases l with
    | nil => exact Pl.nil
    | cons a l => exact (oneRun_plain _ (fun c hc => h c (List.mem_of_mem_take hc))).append (ih _ (fun c hc => h c (List.mem_of_mem_drop hc)))
theorem setPr_plain (s : Nat) : Pl (setPr s) := by
  have hl : ∀ c ∈ listN s, c < 256 := fun c hc => ((mem_listN s c).1 hc).1
  unfold setPr
  split
  · exact Pl.cons (by decide) Pl.nil
  · split
    · exact esc_plain _ _ marks_plain (getD_lt256 hl _)
    · exact Pl.cons (by decide) ((runs_plain _ _ hl).append (Pl.cons (by decide) Pl.nil))
theorem wr_plain (c : Bool) {l : List Nat} (h : Pl l) : Pl (wr c l) := by
  cases c
  · exact h
  · exact Pl.cons (by decide) (h.append (Pl.cons (by decide) Pl.nil))
theorem tm_plain (m n : Int) (h : countable m n = true) : Pl (tm m n) := by
  unfold countable at h
  unfold tm
  split
  · split <;> exact Pl.cons (by decide) Pl.nil
  · rename_i h1
    rw [if_neg h1] at h
    have h2 := of_decide_eq_true h
    split
    · exact Pl.cons (by decide) Pl.nil
    · refine Pl.cons (by decide) (Pl.cons ?_ (Pl.append ?_ (Pl.cons (by decide) Pl.nil)))
      · unfold dig; omega
      · split
        · exact Pl.cons (by decide) (Pl.cons (by unfold dig; omega) Pl.nil)
        · exact Pl.nil
theorem prX_plain : ∀ x : X, OkX x → Pl (prX x) := by
  intro x
  induction x with
  | emp => intro _; exact Pl.cons (by decide) (Pl.cons (by decide) Pl.nil)
  | set s => intro _; exact setPr_plain s
  | seq a b iha ihb => intro h; exact (wr_plain _ (iha h.1)).append (wr_plain _ (ihb h.2))
  | alt a b iha ihb => intro h; exact (iha h.1).append (Pl.cons (by decide) (wr_plain _ (ihb h.2)))
  | tim a m n ih => intro h; exact (wr_plain _ (ih h.1)).append (tm_plain m n h.2)
theorem prParts_plain : ∀ (l : List (X × Bool)) (i : Nat), (∀ p ∈ l, OkX p.1) → Pl (prParts i l) := by
  intro l
  induction l with
  | nil => intro i _; exact Pl.nil
  | cons p l ih =>
    intro i h
    refine Pl.append ?_ (Pl.append ?_ ((prX_plain _ (h p (by simp))).append (ih _ (fun q hq => h q (by simp [hq])))))
    · split
      · exact Pl.cons (by decide) Pl.nil
      · exact Pl.nil
    · split
      · exact Pl.cons (by decide) Pl.nil
      · exact Pl.nil
theorem okX_abs {N : List Nd} (snd : ∀ i, i < N.length → sound (N.getD i default) = true) (hs : ∀ i, i < N.length → (N.getD i default).s < 2 ^ 256) : ∀ t : T, Is N t → OkX (abs N t) := by
  intro t
  induction t with
  | leaf i =>
    intro h
    simp only [abs]
    split
    · trivial
    · exact hs i h.1
  | one i a ih =>
    intro h
    refine ⟨ih h.2.2.2, ?_⟩
    have h2 := snd i h.1
    have hk : (N.getD i default).k = 5 := by
      have := h.2.1
      unfold kids at this
      split at this
      · simp at this
      · split at this
        · assumption
        · cases this
    unfold sound at h2
    rw [if_neg (by omega), if_neg (by omega), if_neg (by omega), if_pos hk] at h2
    simp only [Bool.and_eq_true] at h2
    exact h2.2
  | two i a b iha ihb =>
    intro h
    have h1 := iha h.2.2.2.2.1
    have h2 := ihb h.2.2.2.2.2
    simp only [abs]
    split <;> exact ⟨h1, h2⟩
end Tr
end Go.Proofs.YtcgllipcnmlkbaaDoor
