/- Prints of trees; places and depth. Plain; no program. -/
import Derived.Test.YtbmoanhdpnaocaaTreM
namespace Go.Proofs.Ytbmoanhdpnaocaa
namespace Tr
open Sets
inductive X where
  | emp
  | set (s : Nat)
  | seq (a b : X)
  | alt (a b : X)
  | tim (a : X) (m n : Int)
deriving DecidableEq
def X.kd : X → Nat
  | .emp => 1
  | .set _ => 2
  | .seq _ _ => 3
  | .alt _ _ => 4
  | .tim _ _ _ => 5
def abs (N : List Nd) : T → X
  | .leaf i => if (N.getD i default).k = 1 then .emp else .set (N.getD i default).s
  | .one i a => .tim (abs N a) (N.getD i default).mn (N.getD i default).mx
  | .two i a b => if (N.getD i default).k = 3 then .seq (abs N a) (abs N b) else .alt (abs N a) (abs N b)
/-- ! & | * + ? { } [ ] ( ) . and the backslash -/
def marks : List Nat := [38, 33, 124, 42, 43, 63, 123, 125, 91, 93, 40, 41, 46, 92]
def inner : List Nat := [92, 93, 94, 45]
def hex (d : Nat) : Nat := if d < 10 then 48 + d else 87 + d
def esc (m : List Nat) (c : Nat) : List Nat := if m.contains c then [92, c] else if c < 33 ∨ 126 < c then [92, 120, hex (c / 16), hex (c % 16)] else [c]
/-- how many stand side by side ahead -/
def runLen : List Nat → Nat
  | [] => 0
  | [_] => 1
  | a :: b :: r => if b = a + 1 then runLen (b :: r) + 1 else 1
def oneRun (l : List Nat) : List Nat := esc inner (l.getD 0 0) ++ ((if 2 < l.length then [45] else []) ++ (if 1 < l.length then esc inner (l.getD (l.length - 1) 0) else []))
def runs : Nat → List Nat → List Nat
  | 0, _ => []
  | _ + 1, [] => []
  | f + 1, a :: l => oneRun ((a :: l).take (runLen (a :: l))) ++ runs f ((a :: l).drop (runLen (a :: l)))
def setPr (s : Nat) : List Nat :=
  if s = full then [46] else if (listN s).length = 1 then esc marks ((listN s).getD 0 0) else 91 :: (runs 256 (listN s) ++ [93])
def wr (c : Bool) (l : List Nat) : List Nat := if c then 40 :: (l ++ [41]) else l
def dig (m : Int) : Nat := 48 + m.toNat
def tm (m n : Int) : List Nat :=
  if n = -1 then (if m = 0 then [42] else [43]) else if m = 0 ∧ n = 1 then [63] else 123 :: dig m :: ((if n ≠ m then [44, dig n] else []) ++ [125])
def prX : X → List Nat
  | .emp => [40, 41]
  | .set s => setPr s
  | .seq a b => wr (a.kd == 4) (prX a) ++ wr (b.kd == 4 || b.kd == 3) (prX b)
  | .alt a b => prX a ++ 124 :: wr (b.kd == 4) (prX b)
  | .tim a m n => wr (decide (2 < a.kd)) (prX a) ++ tm m n
/-- the print of parts, behind i of them -/
def prParts : Nat → List (X × Bool) → List Nat
  | _, [] => []
  | i, p :: r => (if 0 < i then [38] else []) ++ ((if p.2 then [33] else []) ++ (prX p.1 ++ prParts (i + 1) r))
noncomputable def parts (N : List Nd) (R : List (Int × Bool)) : List (X × Bool) := R.map fun p => (abs N (tr N p.1.toNat), p.2)
noncomputable def pr (N : List Nd) (R : List (Int × Bool)) : List Nat := prParts 0 (parts N R)
theorem prParts_append (l : List (X × Bool)) : ∀ (i : Nat) (p : X × Bool), prParts i (l ++ [p]) = prParts i l ++ prParts (i + l.length) [p] := by
  induction l with
  | nil => intro i p; simp [prParts]
  | cons q l ih => intro i p; simp only [List.cons_append, prParts, ih, List.append_assoc, List.length_cons]; rw [show i + 1 + l.length = i + (l.length + 1) from by omega]
theorem runLen_pos (a : Nat) (l : List Nat) : 1 ≤ runLen (a :: l) := by
  cases l with
  | nil => exact Nat.le_refl _
  | cons b r => unfold runLen; split <;> omega
theorem runLen_le : ∀ (l : List Nat), runLen l ≤ l.length := by
  intro l
  induction l with
  | nil => exact Nat.le_refl _
  | cons a l ih =>
    cases l with
    | nil => exact Nat.le_refl _
    | cons b r => unfold runLen; split <;> simp at * <;> omega
theorem esc_len (m : List Nat) (c : Nat) : (esc m c).length ≤ 4 := by
  unfold esc; split
  · simp
  · split <;> simp
theorem oneRun_len (l : List Nat) : (oneRun l).length ≤ 9 := by
  have h1 := esc_len inner (l.getD 0 0)
  have h2 := esc_len inner (l.getD (l.length - 1) 0)
  unfold oneRun
  generalize esc inner (l.getD 0 0) = x at *
  generalize esc inner (l.getD (l.length - 1) 0) = y at *
  simp only [List.length_append]
  split <;> split <;> simp <;> omega
theorem runs_len : ∀ (f : Nat) (l : List Nat), (runs f l).length ≤ 9 * f := by
  intro f
  induction f with
  | zero => intro l; simp [runs]
  | succ f ih =>
    intro l
    cases l with
    | nil => simp [runs]
    | cons a l =>
      simp only [runs, List.length_append]
      have h1 := oneRun_len ((a :: l).take (runLen (a :: l)))
      have h2 := ih ((a :: l).drop (runLen (a :: l)))
      omega
theorem setPr_len (s : Nat) : (setPr s).length ≤ 2400 := by
  unfold setPr
  split
  · simp
  · split
    · have := esc_len marks ((listN s).getD 0 0); omega
    · have := runs_len 256 (listN s); simp only [List.length_cons, List.length_append, List.length_nil]; omega
theorem wr_len (c : Bool) (l : List Nat) : (wr c l).length ≤ l.length + 2 := by cases c <;> simp [wr]
theorem tm_len (m n : Int) : (tm m n).length ≤ 5 := by
  unfold tm; split
  · split <;> simp
  · split
    · simp
    · split <;> simp
theorem prX_len (N : List Nd) (t : T) : (prX (abs N t)).length ≤ 2400 * t.sum fun _ => 1 := by
  induction t with
  | leaf i =>
    simp only [abs, T.sum]
    split
    · simp [prX]
    · exact setPr_len _
  | one i a ih =>
    simp only [abs, T.sum, prX, List.length_append]
    have h1 := wr_len (decide (2 < (abs N a).kd)) (prX (abs N a))
    have h2 := tm_len (N.getD i default).mn (N.getD i default).mx
    omega
  | two i a b ih1 ih2 =>
    simp only [abs, T.sum]
    split
    · simp only [prX, List.length_append]
      have h1 := wr_len ((abs N a).kd == 4) (prX (abs N a))
      have h2 := wr_len ((abs N b).kd == 4 || (abs N b).kd == 3) (prX (abs N b))
      omega
    · simp only [prX, List.length_append, List.length_cons]
      have h2 := wr_len ((abs N b).kd == 4) (prX (abs N b))
      omega
/-- Places, each at most 2^30. -/
def cap : Nat := 1073741824
def pl (N : List Nd) : T → Nat
  | .leaf i => if (N.getD i default).k = 2 then 1 else 0
  | .one i a => min (pl N a * (if (N.getD i default).mx = -1 then 1 else (N.getD i default).mx.toNat)) cap
  | .two _ a b => min (pl N a + pl N b) cap
noncomputable def places (N : List Nd) (R : List (Int × Bool)) : Nat := min (R.map fun p => pl N (tr N p.1.toNat)).sum cap
def T.dep : T → Nat
  | .leaf _ => 1
  | .one _ a => a.dep + 1
  | .two _ a b => max a.dep b.dep + 1
noncomputable def depth (N : List Nd) (R : List (Int × Bool)) : Nat := (R.map fun p => (tr N p.1.toNat).dep).foldl max 0
theorem pl_le (N : List Nd) (t : T) : pl N t ≤ cap := by
  cases t <;> simp only [pl]
  · split <;> decide
  · exact Nat.min_le_right _ _
  · exact Nat.min_le_right _ _
theorem dep_le (N : List Nd) : ∀ t : T, Is N t → t.dep ≤ t.root + 1 := by
  intro t
  induction t with
  | leaf i => intro _; simp [T.dep, T.root]
  | one i a ih => intro h; have := ih h.2.2.2; have := h.2.2.1; simp only [T.dep, T.root]; omega
  | two i a b ih1 ih2 => intro h; have := ih1 h.2.2.2.2.1; have := ih2 h.2.2.2.2.2; have := h.2.2.1; have := h.2.2.2.1; simp only [T.dep, T.root]; omega
theorem kd_abs {N : List Nd} {t : T} (h : Is N t) (hs : sound (N.getD t.root default) = true) : (abs N t).kd = (N.getD t.root default).k := by
  have hk : (N.getD t.root default).k = 1 ∨ (N.getD t.root default).k = 2 ∨ (N.getD t.root default).k = 3 ∨ (N.getD t.root default).k = 4 ∨ (N.getD t.root default).k = 5 := by
    unfold sound at hs
    split at hs
    · omega
    · split at hs
      · omega
      · split at hs
        · omega
        · split at hs
          · omega
          · cases hs
  cases t with
  | leaf i =>
    obtain ⟨-, h2⟩ := h
    simp only [T.root, abs] at *
    generalize N.getD i default = x at *
    unfold kids at h2
    rcases hk with hk | hk | hk | hk | hk <;> simp [hk] at h2 <;> simp [hk, X.kd]
  | one i a =>
    obtain ⟨-, h2, -⟩ := h
    simp only [T.root, abs] at *
    generalize N.getD i default = x at *
    unfold kids at h2
    rcases hk with hk | hk | hk | hk | hk <;> simp [hk] at h2 <;> simp [hk, X.kd]
  | two i a b =>
    obtain ⟨-, h2, -⟩ := h
    simp only [T.root, abs] at *
    generalize N.getD i default = x at *
    unfold kids at h2
    rcases hk with hk | hk | hk | hk | hk <;> simp [hk] at h2 <;> simp [hk, X.kd]
end Tr
end Go.Proofs.Ytbmoanhdpnaocaa
