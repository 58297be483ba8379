/- Several texts in one. -/
import Derived.Test.YtcgllipcnmlkbaaDoorPkB
import Derived.Test.YtcgllipcnmlkbaaDoorPkD
import Derived.Test.YtcgllipcnmlkbaaDoorPkC
import Derived.Test.YtcgllipcnmlkbaaDoorProg
import Derived.Deep.QuietTactic
import Derived.BigQuiet
namespace Go.Proofs.YtcgllipcnmlkbaaDoor
namespace Rx
open Sets Tr
/-- What a piece of the reader says that only moves on: what it read, and the place behind it; or the place at which it gives up. -/
inductive L (α : Type) where
  | ok (x : α) (p : Nat)
  | bad (p : Nat)
/-- the byte at a place; 256 at the end -/
def pk (l : List Nat) (p : Nat) : Nat := l.getD p 256
def hx (l : List Nat) (p : Nat) : Option Nat :=
  match Pct.val (pk l (p + 2)), Pct.val (pk l (p + 3)) with
  | some a, some b => some (a * 16 + b)
  | _, _ => none
/-- behind a backslash -/
def escape (l m : List Nat) (p : Nat) : L Nat :=
  if m.contains (pk l (p + 1)) then .ok (pk l (p + 1)) (p + 2)
  else if pk l (p + 1) = 120 then (match hx l p with | some x => .ok x (p + 4) | none => .bad p)
  else .bad p
def single (l m : List Nat) (p : Nat) : L Nat :=
  if pk l p = 256 then .bad p else if pk l p = 92 then escape l m p else if m.contains (pk l p) then .bad p else .ok (pk l p) (p + 1)
def digit (l : List Nat) (p : Nat) : L Nat := if 48 ≤ pk l p ∧ pk l p ≤ 57 then .ok (pk l p - 48) (p + 1) else .bad p
def need (l : List Nat) (c p : Nat) (x : Nat × Nat) : L (Nat × Nat) := if pk l p = c then .ok x (p + 1) else .bad p
def counts (l : List Nat) (p : Nat) : L (Nat × Nat) :=
  match digit l p with
  | .bad q => .bad q
  | .ok a p =>
    if pk l p = 44 then
      match digit l (p + 1) with
      | .bad q => .bad q
      | .ok b p => if b < a then .bad (p - 1) else need l 125 p (a, b)
    else need l 125 p (a, a)
def times (l : List Nat) (p : Nat) : L (Option (Int × Int)) :=
  if pk l p = 42 then .ok (some (0, -1)) (p + 1) else if pk l p = 43 then .ok (some (1, -1)) (p + 1) else if pk l p = 63 then .ok (some (0, 1)) (p + 1)
  else if pk l p = 123 then (match counts l (p + 1) with | .ok (a, b) q => .ok (some ((a : Int), (b : Int))) q | .bad q => .bad q)
  else .ok none p
def item (l : List Nat) (p : Nat) : L Nat :=
  match single l inner p with
  | .bad q => .bad q
  | .ok a p =>
    if pk l p = 45 then
      match single l inner (p + 1) with
      | .bad q => .bad q
      | .ok b q => if b < a then .bad (p + 1) else .ok (rangeN a b) q
    else .ok (2 ^ a) p
def clsL (l : List Nat) : Nat → Nat → Nat → L Nat
  | 0, _, p => .bad p
  | f + 1, S, p =>
    if pk l p = 93 then .ok S (p + 1)
    else match item l p with
      | .bad q => .bad q
      | .ok T q => clsL l f (S ||| T) q
def cls (l : List Nat) (p : Nat) : L Nat :=
  if pk l p = 94 then (match clsL l (l.length + 1) 0 (p + 1) with | .ok S q => .ok (full ^^^ S) q | .bad q => .bad q)
  else clsL l (l.length + 1) 0 p
/-- What a piece of the reader says that lays nodes: the number of its node, the place, the nodes; or whether it is too long, and the place. -/
inductive G where
  | ok (n p : Nat) (ns : List Nd)
  | bad (long : Bool) (p : Nat)
inductive Md where
  | pat
  | patL (n : Nat)
  | bra
  | braL (n : Nat)
  | pie
  | ato
def ends (l : List Nat) (p : Nat) : Bool := pk l p == 256 || pk l p == 124 || pk l p == 38 || pk l p == 41
def G.bind (g : G) (k : Nat → Nat → List Nd → G) : G := match g with | .ok n p ns => k n p ns | .bad b p => .bad b p
def L.bind {α : Type} (g : L α) (k : α → Nat → G) : G := match g with | .ok x p => k x p | .bad p => .bad false p
def add (x : Nd) (p : Nat) (ns : List Nd) : G := .ok ns.length p (ns ++ [x])
def addS (S : Nat) (p : Nat) (ns : List Nd) : G := add ⟨2, S, 0, 0, 0, 0⟩ p ns
def go (l : List Nat) : Nat → Md → Nat → Nat → List Nd → G
  | 0, _, _, p, _ => .bad false p
  | f + 1, .pat, o, p, ns => (go l f .bra o p ns).bind fun n p ns => go l f (.patL n) o p ns
  | f + 1, .patL n, o, p, ns =>
    if pk l p = 124 then (go l f .bra o (p + 1) ns).bind fun m p ns => go l f (.patL ns.length) o p (ns ++ [⟨4, 0, n, m, 0, 0⟩]) else .ok n p ns
  | f + 1, .bra, o, p, ns =>
    if ends l p then add ⟨1, 0, 0, 0, 0, 0⟩ p ns else (go l f .pie o p ns).bind fun n p ns => go l f (.braL n) o p ns
  | f + 1, .braL n, o, p, ns =>
    if ends l p then .ok n p ns else (go l f .pie o p ns).bind fun m p ns => go l f (.braL ns.length) o p (ns ++ [⟨3, 0, n, m, 0, 0⟩])
  | f + 1, .pie, o, p, ns =>
    (go l f .ato o p ns).bind fun n p ns => (times l p).bind fun r p =>
      match r with
      | none => .ok n p ns
      | some (a, b) => add ⟨5, 0, n, 0, a, b⟩ p ns
  | f + 1, .ato, o, p, ns =>
    if pk l p = 40 then
      (if o = 16 then .bad true p else (go l f .pat (o + 1) (p + 1) ns).bind fun n p ns => if pk l p = 41 then .ok n (p + 1) ns else .bad false p)
    else if pk l p = 91 then (cls l (p + 1)).bind fun S p => addS S p ns
    else if pk l p = 46 then addS full (p + 1) ns
    else (single l marks p).bind fun c p => addS (2 ^ c) p ns
/-- fuel that is enough with r bytes left -/
def Md.c : Md → Nat
  | .pat => 3
  | .patL _ => 0
  | .bra => 2
  | .braL _ => 2
  | .pie => 1
  | .ato => 0
theorem pk_lt {l : List Nat} {p : Nat} (h : pk l p < 256) : p < l.length := by
  rcases Nat.lt_or_ge p l.length with h1 | h1
  · exact h1
  · unfold pk at h
    rw [List.getD_eq_getElem?_getD, List.getElem?_eq_none (by omega)] at h
    simp at h
theorem pk_end {l : List Nat} {p : Nat} (h : l.length ≤ p) : pk l p = 256 := by
  unfold pk
  rw [List.getD_eq_getElem?_getD, List.getElem?_eq_none h]
  rfl
theorem pk_le {l : List Nat} (hl : ∀ x ∈ l, x < 256) (p : Nat) : pk l p ≤ 256 := by
  rcases Nat.lt_or_ge p l.length with h1 | h1
  · unfold pk
    rw [List.getD_eq_getElem?_getD, List.getElem?_eq_getElem h1, Option.getD_some]
    exact Nat.le_of_lt (hl _ (List.getElem_mem h1))
  · rw [pk_end h1]; exact Nat.le_refl _
theorem pk_ne {l : List Nat} {p : Nat} (h : p < l.length) (hl : ∀ x ∈ l, x < 256) : pk l p < 256 := by
  unfold pk
  rw [List.getD_eq_getElem?_getD, List.getElem?_eq_getElem h, Option.getD_some]
  exact hl _ (List.getElem_mem h)
theorem marks_lt {c : Nat} (h : marks.contains c = true) : c < 256 := by
  have h' : c ∈ marks := by simpa using h
  have : ∀ x ∈ marks, x < 256 := by decide
  exact this c h'
theorem inner_lt {c : Nat} (h : inner.contains c = true) : c < 256 := by
  have h' : c ∈ inner := by simpa using h
  have : ∀ x ∈ inner, x < 256 := by decide
  exact this c h'
def MOk (m : List Nat) : Prop := ∀ c, m.contains c = true → c < 256
theorem hx_some {l : List Nat} {p x : Nat} (h : hx l p = some x) : x < 256 ∧ p + 3 < l.length := by
  unfold hx at h
  split at h
  · rename_i a b ha hb
    injection h with h
    have h1 := Pct.val_lt ha
    have h2 := Pct.val_lt hb
    have h3 : pk l (p + 3) < 256 := by
      unfold Pct.val at hb
      split at hb
      · omega
      · split at hb
        · omega
        · split at hb
          · omega
          · cases hb
    exact ⟨by omega, pk_lt h3⟩
  · cases h
theorem single_ok {l m : List Nat} (hm : MOk m) (hl : ∀ x ∈ l, x < 256) {p x q : Nat} (h : single l m p = .ok x q) : x < 256 ∧ p < q ∧ q ≤ l.length := by
  unfold single at h
  split at h
  · cases h
  · rename_i h0
    have hp : p < l.length := by
      rcases Nat.lt_or_ge p l.length with h1 | h1
      · exact h1
      · exact absurd (pk_end h1) h0
    split at h
    · unfold escape at h
      split at h
      · rename_i hc
        injection h with h1 h2
        have := hm _ hc
        have := pk_lt this
        omega
      · split at h
        · split at h
          · rename_i y hy
            injection h with h1 h2
            have := hx_some hy
            omega
          · cases h
        · cases h
    · split at h
      · cases h
      · injection h with h1 h2
        have := pk_ne hp hl
        omega
theorem digit_ok {l : List Nat} {p x q : Nat} (h : digit l p = .ok x q) : x ≤ 9 ∧ q = p + 1 ∧ q ≤ l.length := by
  unfold digit at h
  split at h
  · rename_i h0
    injection h with h1 h2
    have := pk_lt (l := l) (p := p) (by omega)
    omega
  · cases h
theorem need_ok {l : List Nat} {c p q : Nat} {x y : Nat × Nat} (hc : c < 256) (h : need l c p x = .ok y q) : y = x ∧ q = p + 1 ∧ q ≤ l.length := by
  unfold need at h
  split at h
  · rename_i h0
    injection h with h1 h2
    have := pk_lt (l := l) (p := p) (by omega)
    exact ⟨h1.symm, by omega, by omega⟩
  · cases h
theorem counts_ok {l : List Nat} {p q : Nat} {x : Nat × Nat} (h : counts l p = .ok x q) : x.1 ≤ x.2 ∧ x.2 ≤ 9 ∧ p < q ∧ q ≤ l.length := by
  unfold counts at h
  split at h
  · cases h
  · rename_i a p1 h1
    have h2 := digit_ok h1
    split at h
    · split at h
      · cases h
      · rename_i b p2 h3
        have h4 := digit_ok h3
        split at h
        · cases h
        · obtain ⟨rfl, h5, h6⟩ := need_ok (by decide) h
          exact ⟨by simp only; omega, by simp only; omega, by omega, by omega⟩
    · obtain ⟨rfl, h5, h6⟩ := need_ok (by decide) h
      exact ⟨Nat.le_refl _, h2.1, by omega, by omega⟩
theorem times_ok {l : List Nat} {p q : Nat} {x : Option (Int × Int)} (h : times l p = .ok x q) (hp : p ≤ l.length) :
    p ≤ q ∧ q ≤ l.length ∧ (x ≠ none → p < q) ∧ ∀ a b, x = some (a, b) → countable a b = true ∧ (0 ≤ a ∧ a ≤ 9) ∧ -1 ≤ b ∧ b ≤ 9 := by
  unfold times at h
  split at h
  · injection h with h1 h2
    have := pk_lt (l := l) (p := p) (by omega)
    subst h1
    refine ⟨by omega, by omega, fun _ => by omega, ?_⟩
    rintro a b h
    injection h with h
    injection h with h3 h4
    subst h3 h4
    exact ⟨rfl, by omega, by omega⟩
  · split at h
    · injection h with h1 h2
      have := pk_lt (l := l) (p := p) (by omega)
      subst h1
      refine ⟨by omega, by omega, fun _ => by omega, ?_⟩
      rintro a b h
      injection h with h
      injection h with h3 h4
      subst h3 h4
      exact ⟨rfl, by omega, by omega⟩
    · split at h
      · injection h with h1 h2
        have := pk_lt (l := l) (p := p) (by omega)
        subst h1
        refine ⟨by omega, by omega, fun _ => by omega, ?_⟩
        rintro a b h
        injection h with h
        injection h with h3 h4
        subst h3 h4
        exact ⟨rfl, by omega, by omega⟩
      · split at h
        · split at h
          · rename_i a b q' h1
            obtain ⟨h2, h3, h4, h5⟩ := counts_ok h1
            simp only at h2 h3
            injection h with h6 h7
            subst h6 h7
            refine ⟨by omega, by omega, fun _ => by omega, ?_⟩
            rintro a' b' h
            injection h with h
            injection h with h8 h9
            subst h8 h9
            refine ⟨?_, by omega, by omega⟩
            unfold countable
            rw [if_neg (by omega)]
            exact decide_eq_true ⟨by omega, by omega, by omega⟩
          · cases h
        · injection h with h1 h2
          subst h1 h2
          exact ⟨Nat.le_refl _, hp, fun h => absurd rfl h, fun a b h => by cases h⟩
theorem item_ok {l : List Nat} (hl : ∀ x ∈ l, x < 256) {p x q : Nat} (h : item l p = .ok x q) : x < 2 ^ 256 ∧ p < q ∧ q ≤ l.length := by
  unfold item at h
  split at h
  · cases h
  · rename_i a p1 h1
    have h2 := single_ok (fun _ => inner_lt) hl h1
    split at h
    · split at h
      · cases h
      · rename_i b q' h3
        have h4 := single_ok (fun _ => inner_lt) hl h3
        split at h
        · cases h
        · injection h with h5 h6
          subst h5 h6
          exact ⟨rangeN_lt _ _ h4.1, by omega, by omega⟩
    · injection h with h5 h6
      subst h5 h6
      exact ⟨bit_le h2.1, by omega, by omega⟩
theorem clsL_ok {l : List Nat} (hl : ∀ x ∈ l, x < 256) : ∀ (f : Nat) {S p x q : Nat}, clsL l f S p = .ok x q → S < 2 ^ 256 → x < 2 ^ 256 ∧ p < q ∧ q ≤ l.length
  | 0, _, _, _, _, h, _ => by simp [clsL] at h
  | f + 1, S, p, x, q, h, hS => by
    unfold clsL at h
    split at h
    · injection h with h1 h2
      have := pk_lt (l := l) (p := p) (by omega)
      subst h1 h2
      exact ⟨hS, by omega, by omega⟩
    · split at h
      · cases h
      · rename_i T q' h1
        have h2 := item_ok hl h1
        have h3 := clsL_ok hl f h (lt_or hS h2.1)
        exact ⟨h3.1, by omega, h3.2.2⟩
theorem cls_ok {l : List Nat} (hl : ∀ x ∈ l, x < 256) {p x q : Nat} (h : cls l p = .ok x q) : x < 2 ^ 256 ∧ p < q ∧ q ≤ l.length := by
  unfold cls at h
  split at h
  · split at h
    · rename_i S q' h1
      have h2 := clsL_ok hl _ h1 (by decide)
      injection h with h3 h4
      subst h3 h4
      exact ⟨lt_xor full_lt h2.1, by omega, h2.2.2⟩
    · cases h
  · exact clsL_ok hl _ h (by decide)
structure NK (x : Nd) : Prop where
  k : x.k < 256
  s : x.s < 2 ^ 256
  a : 0 ≤ x.a ∧ x.a ≤ 1000
  b : 0 ≤ x.b ∧ x.b ≤ 1000
  mn : 0 ≤ x.mn ∧ x.mn ≤ 9
  mx : -1 ≤ x.mx ∧ x.mx ≤ 9
/-- what a reader's state keeps -/
structure In (l : List Nat) (p : Nat) (ns : List Nd) (c : Nat) : Prop where
  le : p ≤ l.length
  fit : ns.length + 2 * (l.length - p) + c ≤ 700
  ok : ∀ x ∈ ns, NK x
theorem In.more {l : List Nat} {p q : Nat} {ns : List Nd} {c d : Nat} (h : In l p ns c) (hq : p ≤ q) (hle : q ≤ l.length) (hd : d ≤ c + 2 * (q - p)) : In l q ns d :=
  ⟨hle, by have := h.fit; omega, h.ok⟩
theorem In.add {l : List Nat} {p : Nat} {ns : List Nd} {c d : Nat} {x : Nd} (h : In l p ns c) (hx : NK x) (hd : d + 1 ≤ c) : In l p (ns ++ [x]) d := by
  refine ⟨h.le, by have := h.fit; rw [List.length_append, List.length_cons, List.length_nil]; omega, fun y hy => ?_⟩
  rcases List.mem_append.1 hy with hy | hy
  · exact h.ok y hy
  · rw [List.mem_singleton.1 hy]; exact hx
/-- how many nodes more than twice the bytes read -/
def Md.g : Md → Nat
  | .pat => 3
  | .patL _ => 2
  | .bra => 3
  | .braL _ => 2
  | .pie => 1
  | .ato => 1
/-- how many bytes it takes at least -/
def Md.t : Md → Nat
  | .pie => 1
  | .ato => 1
  | _ => 0
def Md.fits (m : Md) (k : Nat) : Prop := match m with
  | .patL n => n < k
  | .braL n => n < k
  | _ => True
/-- of G: it is right behind (p, ns), which left room of c more, and took at least t bytes -/
def Good (l : List Nat) (p : Nat) (_ : List Nd) (t d : Nat) : G → Prop
  | .ok n p' ns' => p + t ≤ p' ∧ n < ns'.length ∧ In l p' ns' d
  | .bad _ _ => True
theorem nk_two (k n m : Nat) (hk : k < 256) (hn : n < 700) (hm : m < 700) : NK ⟨k, 0, n, m, 0, 0⟩ := ⟨hk, by show 0 < 2 ^ 256; decide, by simp only; omega, by simp only; omega, by simp only; omega, by simp only; omega⟩
theorem nk_set (S : Nat) (h : S < 2 ^ 256) : NK ⟨2, S, 0, 0, 0, 0⟩ := ⟨by show 2 < 256; decide, h, by simp only; omega, by simp only; omega, by simp only; omega, by simp only; omega⟩
theorem nk_emp : NK ⟨1, 0, 0, 0, 0, 0⟩ := ⟨by show 1 < 256; decide, by show 0 < 2 ^ 256; decide, by simp only; omega, by simp only; omega, by simp only; omega, by simp only; omega⟩
theorem nk_tim (n : Nat) (a b : Int) (hn : n < 700) (ha : 0 ≤ a ∧ a ≤ 9) (hb : -1 ≤ b ∧ b ≤ 9) : NK ⟨5, 0, n, 0, a, b⟩ := ⟨by show 5 < 256; decide, by show 0 < 2 ^ 256; decide, by simp only; omega, by simp only; omega, ha, hb⟩
theorem In.lt {l : List Nat} {p : Nat} {ns : List Nd} {c n : Nat} (h : In l p ns c) (hn : n < ns.length) : n < 700 := by have := h.fit; omega
theorem go_good {l : List Nat} (hl : ∀ x ∈ l, x < 256) : ∀ (f : Nat) (md : Md) (o p : Nat) (ns : List Nd) (c : Nat), In l p ns (md.g + c) → md.fits ns.length → Good l p ns md.t (c + 2) (go l f md o p ns) := by
  intro f
  induction f with
  | zero => intro md o p ns c _ _; unfold go; trivial
  | succ f ih =>
    intro md o p ns c hin hft
    cases md with
    | pat =>
      unfold go
      have h1 := ih .bra o p ns c hin trivial
      cases hg : go l f .bra o p ns with
      | bad _ _ => trivial
      | ok n p1 ns1 =>
        rw [hg] at h1
        obtain ⟨h2, h3, h4⟩ := h1
        have h5 := ih (.patL n) o p1 ns1 c (h4.more (Nat.le_refl _) h4.le (by simp only [Md.g]; omega)) h3
        simp only [G.bind]
        cases hg2 : go l f (.patL n) o p1 ns1 with
        | bad _ _ => trivial
        | ok m p2 ns2 =>
          rw [hg2] at h5
          obtain ⟨h6, h7, h8⟩ := h5
          simp only [Md.t] at *
          exact ⟨by omega, h7, h8⟩
    | patL n =>
      unfold go
      split
      · rename_i h0
        have hlt := pk_lt (l := l) (p := p) (by omega)
        have h1 := ih .bra o (p + 1) ns (c + 1) (hin.more (by omega) (by omega) (by simp only [Md.g]; omega)) trivial
        cases hg : go l f .bra o (p + 1) ns with
        | bad _ _ => trivial
        | ok m p1 ns1 =>
          rw [hg] at h1
          obtain ⟨h2, h3, h4⟩ := h1
          simp only [G.bind]
          have hn : n < 700 := hin.lt hft
          have h5 := ih (.patL ns1.length) o p1 (ns1 ++ [⟨4, 0, n, m, 0, 0⟩]) c (h4.add (nk_two 4 n m (by omega) hn (h4.lt h3)) (by simp only [Md.g]; omega)) (by simp [Md.fits])
          cases hg2 : go l f (.patL ns1.length) o p1 (ns1 ++ [⟨4, 0, n, m, 0, 0⟩]) with
          | bad _ _ => trivial
          | ok m p2 ns2 =>
            rw [hg2] at h5
            obtain ⟨h6, h7, h8⟩ := h5
            simp only [Md.t] at *
            exact ⟨by omega, h7, h8⟩
      · exact ⟨by simp only [Md.t]; omega, hft, hin.more (Nat.le_refl _) hin.le (by simp only [Md.g]; omega)⟩
    | bra =>
      unfold go
      split
      · exact ⟨by simp only [Md.t]; omega, by simp, hin.add nk_emp (by simp only [Md.g]; omega)⟩
      · have h1 := ih .pie o p ns (c + 2) (hin.more (Nat.le_refl _) hin.le (by simp only [Md.g]; omega)) trivial
        cases hg : go l f .pie o p ns with
        | bad _ _ => trivial
        | ok n p1 ns1 =>
          rw [hg] at h1
          obtain ⟨h2, h3, h4⟩ := h1
          simp only [G.bind]
          have h5 := ih (.braL n) o p1 ns1 c (h4.more (Nat.le_refl _) h4.le (by simp only [Md.g]; omega)) h3
          cases hg2 : go l f (.braL n) o p1 ns1 with
          | bad _ _ => trivial
          | ok m p2 ns2 =>
            rw [hg2] at h5
            obtain ⟨h6, h7, h8⟩ := h5
            simp only [Md.t] at *
            exact ⟨by omega, h7, h8⟩
    | braL n =>
      unfold go
      split
      · exact ⟨by simp only [Md.t]; omega, hft, hin.more (Nat.le_refl _) hin.le (by simp only [Md.g]; omega)⟩
      · have h1 := ih .pie o p ns (c + 1) (hin.more (Nat.le_refl _) hin.le (by simp only [Md.g]; omega)) trivial
        cases hg : go l f .pie o p ns with
        | bad _ _ => trivial
        | ok m p1 ns1 =>
          rw [hg] at h1
          obtain ⟨h2, h3, h4⟩ := h1
          simp only [G.bind]
          have hn : n < 700 := hin.lt hft
          have h5 := ih (.braL ns1.length) o p1 (ns1 ++ [⟨3, 0, n, m, 0, 0⟩]) c (h4.add (nk_two 3 n m (by omega) hn (h4.lt h3)) (by simp only [Md.g]; omega)) (by simp [Md.fits])
          cases hg2 : go l f (.braL ns1.length) o p1 (ns1 ++ [⟨3, 0, n, m, 0, 0⟩]) with
          | bad _ _ => trivial
          | ok m p2 ns2 =>
            rw [hg2] at h5
            obtain ⟨h6, h7, h8⟩ := h5
            simp only [Md.t] at *
            exact ⟨by omega, h7, h8⟩
    | pie =>
      unfold go
      have h1 := ih .ato o p ns c hin trivial
      cases hg : go l f .ato o p ns with
      | bad _ _ => trivial
      | ok n p1 ns1 =>
        rw [hg] at h1
        obtain ⟨h2, h3, h4⟩ := h1
        simp only [G.bind]
        cases ht : times l p1 with
        | bad _ => trivial
        | ok x q =>
          have h5 := times_ok ht h4.le
          simp only [L.bind, Md.t] at *
          cases x with
          | none => exact ⟨by omega, h3, h4.more h5.1 h5.2.1 (by omega)⟩
          | some ab =>
            obtain ⟨a, b⟩ := ab
            have h6 := h5.2.2.1 (by simp)
            have h7 := h5.2.2.2 a b rfl
            exact ⟨by omega, by simp, (h4.more (d := c + 3) h5.1 h5.2.1 (by omega)).add (nk_tim n a b (h4.lt h3) h7.2.1 h7.2.2) (by omega)⟩
    | ato =>
      unfold go
      split
      · rename_i h0
        have hlt := pk_lt (l := l) (p := p) (by omega)
        split
        · trivial
        · have h1 := ih .pat (o + 1) (p + 1) ns c (hin.more (by omega) (by omega) (by simp only [Md.g]; omega)) trivial
          cases hg : go l f .pat (o + 1) (p + 1) ns with
          | bad _ _ => trivial
          | ok n p1 ns1 =>
            rw [hg] at h1
            obtain ⟨h2, h3, h4⟩ := h1
            simp only [G.bind]
            split
            · rename_i h5
              have := pk_lt (l := l) (p := p1) (by omega)
              simp only [Md.t] at *
              exact ⟨by omega, h3, h4.more (by omega) (by omega) (by omega)⟩
            · trivial
      · have hset : ∀ S q, S < 2 ^ 256 → p < q → q ≤ l.length → Good l p ns Md.ato.t (c + 2) (addS S q ns) := fun S q hS hq hle =>
          ⟨by simp only [Md.t]; omega, by simp, (hin.more (d := c + 3) (by omega) hle (by simp only [Md.g]; omega)).add (nk_set S hS) (by omega)⟩
        split
        · rename_i h0
          have hlt := pk_lt (l := l) (p := p) (by omega)
          cases hc : cls l (p + 1) with
          | bad _ => trivial
          | ok S q =>
            have h1 := cls_ok hl hc
            exact hset S q h1.1 (by omega) h1.2.2
        · split
          · rename_i h0
            have hlt := pk_lt (l := l) (p := p) (by omega)
            exact hset _ _ full_lt (by omega) (by omega)
          · cases hc : single l marks p with
            | bad _ => trivial
            | ok S q =>
              have h1 := single_ok (fun _ => marks_lt) hl hc
              exact hset _ q (bit_le h1.1) h1.2.1 h1.2.2
end Rx
end Go.Proofs.YtcgllipcnmlkbaaDoor
namespace Go.Proofs.YtcgllipcnmlkbaaDoor
open Go.RowKit Sets Tr Rx
/-- the bytes of a text -/
def by' (s : ByteArray) : List Nat := s.data.toList.map UInt8.toNat
theorem by_lt (s : ByteArray) : ∀ x ∈ by' s, x < 256 := by
  intro x hx
  obtain ⟨y, -, rfl⟩ := List.mem_map.1 hx
  exact UInt8.toNat_lt y
theorem by_len (s : ByteArray) : (by' s).length = s.size := by
  unfold by'
  rw [List.length_map, Array.length_toList]
  rfl
theorem index_by (s : ByteArray) (k : Nat) (i : Int) (hi : i = k) (h : k < s.size) (w : World) : (Instr.index 9 (.string s) (.int .i64 i)).run Tryd.prog w = .ok (.int .u8 (pk (by' s) k : Nat)) w := by
  subst hi
  rw [run_index_string w _ _ _ _ Tryd.underlying9, dif_pos ⟨by omega, by omega⟩]
  simp only [Int.toNat_natCast]
  congr 2
  unfold pk by'
  have h' : k < s.data.size := h
  rw [List.getD_eq_getElem?_getD, List.getElem?_map, Array.getElem?_toList, Array.getElem?_eq_getElem h']
  rfl
/-- the reader lies in block B -/
def Row (w : World) (B : Nat) (s : ByteArray) (p o : Nat) (nv pv : Value) : Prop := w.heap[B]? = some (.cells #[.string s, .int .i64 p, .int .i64 o, nv, pv] 88 (0, 0))
theorem Row.cells {w : World} {B : Nat} {s : ByteArray} {p o : Nat} {nv pv : Value} (h : Row w B s p o nv pv) :
    w.cell? ⟨B, 0, none⟩ = some (.string s) ∧ w.cell? ⟨B, 1, none⟩ = some (.int .i64 p) ∧ w.cell? ⟨B, 2, none⟩ = some (.int .i64 o) ∧ w.cell? ⟨B, 3, none⟩ = some nv ∧ w.cell? ⟨B, 4, none⟩ = some pv := by
  unfold Row at h
  simp [World.cell?, h]
theorem Row.frozen {w : World} {B : Nat} {s : ByteArray} {p o : Nat} {nv pv : Value} (h : Row w B s p o nv pv) (i : Nat) : w.frozen? ⟨B, i, none⟩ = false := by
  unfold Row at h; simp [World.frozen?, h]
theorem Row.lt {w : World} {B : Nat} {s : ByteArray} {p o : Nat} {nv pv : Value} (h : Row w B s p o nv pv) : B < w.heap.size := (Array.getElem?_eq_some_iff.1 h).1
theorem Row.kept {w w' : World} {B : Nat} {s : ByteArray} {p o : Nat} {nv pv : Value} (h : Row w B s p o nv pv) (hk : w'.heap[B]? = w.heap[B]?) : Row w' B s p o nv pv := hk.trans h
theorem Row.put {w : World} {B : Nat} {s : ByteArray} {p o : Nat} {nv pv : Value} (h : Row w B s p o nv pv) (q : Nat) : Row (w.setCell ⟨B, 1, none⟩ (.int .i64 (q : Int))) B s q o nv pv := by
  unfold Row at *
  simp [World.setCell, Array.getElem?_modify, h]
theorem Row.putO {w : World} {B : Nat} {s : ByteArray} {p o : Nat} {nv pv : Value} (h : Row w B s p o nv pv) (q : Nat) : Row (w.setCell ⟨B, 2, none⟩ (.int .i64 (q : Int))) B s p q nv pv := by
  unfold Row at *
  simp [World.setCell, Array.getElem?_modify, h]
theorem Row.drew {w : World} {B : Nat} {s : ByteArray} {p o : Nat} {nv pv : Value} (h : Row w B s p o nv pv) : Row w.drew B s p o nv pv := h
theorem But.set0 (B : Nat) (w : World) (i : Nat) (v : Value) : But B w (w.setCell ⟨B, i, none⟩ v) :=
  ⟨rfl, rfl, rfl, by simp, fun k _ hn => Below.heap_setCell w ⟨B, i, none⟩ v k hn⟩
theorem But.drewR {B : Nat} {w w' : World} (h : But B w w') : But B w w'.drew := ⟨h.os, h.tape, h.output, h.size, h.block⟩
theorem But.drewN {B : Nat} {w w' : World} (h : But B w w') (n : Nat) : But B w (w'.drewN n) := ⟨h.os, h.tape, h.output, h.size, h.block⟩
theorem But.drewL {B : Nat} {w w' : World} (h : But B w.drew w') : But B w w' := ⟨h.os, h.tape, h.output, h.size, h.block⟩
set_option maxHeartbeats 800000 in
theorem take_no (B : Nat) (s : ByteArray) (p o : Nat) (nv pv : Value) (c : Nat) (w : World) (h : Row w B s p o nv pv) (hp : p ≤ s.size) (hk : pk (by' s) p ≠ c) :
    Calls Tryd.prog 51 #[.pointer (some ⟨B, 0, none⟩), .int .u8 (c : Int)] w fun e w' => e = .returned (.bool false) ∧ Row w' B s p o nv pv ∧ But B w w' := by
  obtain ⟨c0, c1, -, -, -⟩ := h.cells
  have f1 := h.frozen 1
  have hB := h.lt
  have HR := Lib.hid h
  clear h
  by_cases e : p = s.size
  · have he : ((p : Int) == (s.size : Int)) = true := by simp; omega
    clear hk
    go_enter Tryd.func51, Tryd.ntmps51
    go_wp2_with fail
    go_quiet (fail)
    go_wp2_with fail
    go_ret
    exact ⟨rfl, HR.out.drew, (But.refl _ _).drewN _⟩
  · have he : ((p : Int) == (s.size : Int)) = false := by rw [beq_eq_false_iff_ne]; omega
    have ix := index_by s p p rfl (by omega)
    clear e
    have hne : ((pk (by' s) p : Int) != (c : Int)) = true := by rw [bne_iff_ne]; omega
    clear hk
    generalize pk (by' s) p = k at *
    go_enter Tryd.func51, Tryd.ntmps51
    go_wp2_with fail
    go_quiet (fail)
    go_wp2_with fail
    go_ret
    exact ⟨rfl, HR.out.drew, (But.refl _ _).drewN _⟩
set_option maxHeartbeats 800000 in
theorem take_yes (B : Nat) (s : ByteArray) (p o : Nat) (nv pv : Value) (c : Nat) (w : World) (h : Row w B s p o nv pv) (hs : s.size ≤ 200) (hc : c < 256) (hk : pk (by' s) p = c) :
    Calls Tryd.prog 51 #[.pointer (some ⟨B, 0, none⟩), .int .u8 (c : Int)] w fun e w' => e = .returned (.bool true) ∧ Row w' B s (p + 1) o nv pv ∧ But B w w' := by
  have hlt : p < s.size := by rw [← by_len]; exact pk_lt (by omega)
  obtain ⟨c0, c1, -, -, -⟩ := h.cells
  have f1 := h.frozen 1
  have hB := h.lt
  have HR := Lib.hid h
  clear h
  have he : ((p : Int) == (s.size : Int)) = false := by rw [beq_eq_false_iff_ne]; omega
  have ix := index_by s p p rfl (by omega)
  rw [hk] at ix
  clear hk
  go_enter Tryd.func51, Tryd.ntmps51
  go_wp2_with fail
  go_quiet (fail)
  go_wp2_with fail
  go_ret
  exact ⟨rfl, HR.out.drew.put (p + 1), (But.set0 _ _ _ _).drewN _⟩
end Go.Proofs.YtcgllipcnmlkbaaDoor
namespace Go.Proofs.YtcgllipcnmlkbaaDoor
open Go.RowKit Sets Tr Rx
/-- what the reader panics with -/
def pnc (long : Bool) (p : Nat) : Value := if long then .iface 86 (.int .i64 p) else .iface 85 (.int .i64 p)
def LP {α : Type} (B : Nat) (s : ByteArray) (o : Nat) (nv pv : Value) (w : World) (enc : α → Value) (r : L α) (e : Ending) (w' : World) : Prop :=
  match r with
  | .ok x q => e = .returned (enc x) ∧ Row w' B s q o nv pv ∧ But B w w'
  | .bad q => e = .panicked [{ v := pnc false q, recovered := false }] ∧ But B w w'
def u8V (x : Nat) : Value := .int .u8 x
def intV (x : Nat) : Value := .int .i64 x
set_option maxHeartbeats 1600000 in
theorem digit_any (B : Nat) (s : ByteArray) (p o : Nat) (nv pv : Value) (w : World) (h : Row w B s p o nv pv) (hp : p ≤ s.size) (hs : s.size ≤ 200) :
    Calls Tryd.prog 86 #[.pointer (some ⟨B, 0, none⟩)] w (LP B s o nv pv w intV (digit (by' s) p)) := by
  obtain ⟨c0, c1, -, -, -⟩ := h.cells
  have f1 := h.frozen 1
  have hB := h.lt
  have HR := Lib.hid h
  clear h
  by_cases e : p = s.size
  · have he : ((p : Int) == (s.size : Int)) = true := by simp; omega
    have hr : digit (by' s) p = .bad p := by
      unfold digit
      rw [pk_end (by rw [by_len]; omega), if_neg (by omega)]
    rw [hr]
    clear hr e
    go_enter Tryd.func86, Tryd.ntmps86
    go_wp2_with fail
    go_quiet (fail)
    go_wp2_with fail
    exact ⟨rfl, rfl, (But.refl _ _).drewN _⟩
  · have he : ((p : Int) == (s.size : Int)) = false := by rw [beq_eq_false_iff_ne]; omega
    have ix := index_by s p p rfl (by omega)
    have hlt : p < s.size := by omega
    clear e
    by_cases hk : 48 ≤ pk (by' s) p ∧ pk (by' s) p ≤ 57
    · have hr : digit (by' s) p = .ok (pk (by' s) p - 48) (p + 1) := by
        unfold digit
        rw [if_pos hk]
      rw [hr]
      clear hr
      have ix2 := index_by s p ((p : Int) + 1 - 1) (by omega) (by omega)
      generalize pk (by' s) p = k at *
      obtain ⟨h1, h2⟩ := hk
      have d1 : decide ((k : Int) < 48) = false := decide_eq_false (by omega)
      have d2 : decide ((57 : Int) < k) = false := decide_eq_false (by omega)
      have hw : IntKind.u8.wrap ((k : Int) - 48) = ((k - 48 : Nat) : Int) := by
        unfold IntKind.wrap; simp [IntKind.signed, IntKind.bits]; omega
      go_enter Tryd.func86, Tryd.ntmps86
      go_wp2_with fail
      go_quiet (fail)
      go_wp2_with fail
      go_quiet (fail)
      go_wp2_with fail
      go_ret
      refine ⟨?_, HR.out.drew.put (p + 1), ((But.set0 _ _ _ _).drewN _).drewN _⟩
      show Ending.returned _ = Ending.returned (.int .i64 ((k - 48 : Nat) : Int))
      first | rfl | (rw [hw]) | (congr 2; omega)
    · have hr : digit (by' s) p = .bad p := by
        unfold digit
        rw [if_neg hk]
      rw [hr]
      clear hr
      generalize pk (by' s) p = k at *
      by_cases h1 : k < 48
      · have d1 : decide ((k : Int) < 48) = true := decide_eq_true (by omega)
        clear hk h1
        go_enter Tryd.func86, Tryd.ntmps86
        go_wp2_with fail
        go_quiet (fail)
        go_wp2_with fail
        exact ⟨rfl, rfl, (But.refl _ _).drewN _⟩
      · have d1 : decide ((k : Int) < 48) = false := decide_eq_false (by omega)
        have d2 : decide ((57 : Int) < k) = true := decide_eq_true (by omega)
        clear hk h1
        go_enter Tryd.func86, Tryd.ntmps86
        go_wp2_with fail
        go_quiet (fail)
        go_wp2_with fail
        exact ⟨rfl, rfl, (But.refl _ _).drewN _⟩
theorem need_yes (B : Nat) (s : ByteArray) (p o : Nat) (nv pv : Value) (c : Nat) (w : World) (h : Row w B s p o nv pv) (hs : s.size ≤ 200) (hc : c < 256) (hk : pk (by' s) p = c) :
    Calls Tryd.prog 81 #[.pointer (some ⟨B, 0, none⟩), .int .u8 (c : Int)] w fun e w' => e = .returned (.tuple #[]) ∧ Row w' B s (p + 1) o nv pv ∧ But B w w' := by
  have HT := Lib.hid (take_yes B s p o nv pv c w h hs hc hk)
  clear h hk
  go_enter Tryd.func81, Tryd.ntmps81
  go_wp2_with fail
  refine HT.out.mono ?_
  rintro e w' ⟨rfl, hR, hB⟩
  go_wp2_with fail
  go_end0
  exact ⟨rfl, hR, hB⟩
theorem need_no (B : Nat) (s : ByteArray) (p o : Nat) (nv pv : Value) (c : Nat) (w : World) (h : Row w B s p o nv pv) (hp : p ≤ s.size) (hk : pk (by' s) p ≠ c) :
    Calls Tryd.prog 81 #[.pointer (some ⟨B, 0, none⟩), .int .u8 (c : Int)] w fun e w' => e = .panicked [{ v := pnc false p, recovered := false }] ∧ But B w w' := by
  have HT := Lib.hid (take_no B s p o nv pv c w h hp hk)
  clear h hk
  go_enter Tryd.func81, Tryd.ntmps81
  go_wp2_with fail
  refine HT.out.mono ?_
  rintro e w' ⟨rfl, hR, hB⟩
  obtain ⟨c0, c1, -, -, -⟩ := hR.cells
  go_wp2_with fail
  exact ⟨rfl, rfl, hB⟩
/-- no piece of a branch follows -/
def sEnds : ByteArray := ⟨#[124, 38, 41]⟩
theorem hasEnds : HasB sEnds [124, 38, 41] := by
  intro c hc
  rw [Int.toNat_natCast]
  revert c
  decide +kernel
theorem ends_in {l : List Nat} {p : Nat} (h : p < l.length) (hl : ∀ x ∈ l, x < 256) : ends l p = [124, 38, 41].contains (pk l p) := by
  have := pk_ne h hl
  have h1 : (pk l p == 256) = false := by rw [beq_eq_false_iff_ne]; omega
  unfold ends
  rw [h1]
  simp only [Bool.false_or, List.contains_cons, List.contains_nil, Bool.or_false, Bool.or_assoc]
set_option maxHeartbeats 1600000 in
theorem ends_any (B : Nat) (s : ByteArray) (p o : Nat) (nv pv : Value) (w : World) (h : Row w B s p o nv pv) (hp : p ≤ s.size) :
    Calls Tryd.prog 67 #[.pointer (some ⟨B, 0, none⟩)] w fun e w' => e = .returned (.bool (ends (by' s) p)) ∧ Row w' B s p o nv pv ∧ But B w w' := by
  obtain ⟨c0, c1, -, -, -⟩ := h.cells
  have hB := h.lt
  have HR := Lib.hid h
  clear h
  by_cases e : p = s.size
  · have he : ((p : Int) == (s.size : Int)) = true := by simp; omega
    have hr : ends (by' s) p = true := by
      unfold ends
      rw [pk_end (by rw [by_len]; omega)]; rfl
    rw [hr]
    clear hr e
    go_enter Tryd.func67, Tryd.ntmps67
    go_wp2_with fail
    go_quiet (fail)
    go_wp2_with fail
    go_ret
    exact ⟨rfl, HR.out, (But.refl _ _).drewN _⟩
  · have he : ((p : Int) == (s.size : Int)) = false := by rw [beq_eq_false_iff_ne]; omega
    have ix := index_by s p p rfl (by omega)
    have hlt : p < s.size := by omega
    have hk := pk_ne (l := by' s) (p := p) (by rw [by_len]; exact hlt) (by_lt s)
    have hr := ends_in (l := by' s) (p := p) (by rw [by_len]; exact hlt) (by_lt s)
    rw [hr]
    clear e hr
    generalize pk (by' s) p = k at *
    have hi := hasEnds k hk
    have HI := fun w => index_bytes sEnds k w
    generalize Lib.indexByte sEnds.data.toList ((k : Int)).toNat.toUInt8 = q at hi HI
    unfold sEnds at HI
    have HI := Lib.hid HI
    rw [← hi]
    generalize hd : decide (0 ≤ q) = d at *
    clear hi hk
    go_enter Tryd.func67, Tryd.ntmps67
    go_wp2_with fail
    go_quiet ((go_at_call 69; exact Calls.quiet_of_same ((HI.out _).mono fun _ _ h => ⟨h.1, h.2.symm⟩)))
    go_wp2_with fail
    go_ret
    exact ⟨rfl, HR.out, (But.refl _ _).drewN _⟩
end Go.Proofs.YtcgllipcnmlkbaaDoor
