/- Several texts in one. -/
import Derived.Test.YtghbgfkkdknmnaaDoorPqA0
import Derived.Test.YtghbgfkkdknmnaaDoorPqB5
import Derived.Test.YtghbgfkkdknmnaaDoorPqA5
import Derived.Test.YtghbgfkkdknmnaaDoorPqA8
namespace Go.Proofs.YtghbgfkkdknmnaaDoor
open Sets Nf
namespace Fs
/-- A spot's tag. -/
def tgN (m : Mc) (k : Nat) : Nat := (m.sp.getD k (0, 0)).2
/-- May spot k come behind p (none: at the start)? -/
def Nx (m : Mc) : Option Nat → Nat → Prop
  | none, k => (grp m.fi).testBit k = true
  | some p, k => (foN m p).testBit k = true
/-- A run on w that ends well, behind p (none: from the start): its spots. -/
inductive Rn (m : Mc) : Option Nat → List Nat → List Nat → Prop
  | done {p : Nat} : m.la.getD p false = true → Rn m (some p) [] []
  | em : m.em = true → Rn m none [] []
  | read {p : Option Nat} {k c : Nat} {v l : List Nat} : Nx m p k → (stN m k).testBit c = true → Rn m (some k) v l → Rn m p (c :: v) (k :: l)
theorem Rn.len {m : Mc} {p : Option Nat} {w l : List Nat} (h : Rn m p w l) : l.length = w.length := by
  induction h with
  | done _ => rfl
  | em _ => rfl
  | read _ _ _ ih => simp [ih]
theorem gs_iff {m : Mc} {k : Nat} {v : List Nat} : Gs m k v ↔ ∃ l, Rn m (some k) v l := by
  constructor
  · intro h
    induction h with
    | done h => exact ⟨[], .done h⟩
    | more h1 h2 _ ih =>
      obtain ⟨l, hl⟩ := ih
      exact ⟨_, .read h1 h2 hl⟩
  · rintro ⟨l, h⟩
    generalize hp : some k = p at h
    induction h generalizing k with
    | done h => injection hp with hp; subst hp; exact .done h
    | em _ => cases hp
    | read h1 h2 _ ih => subst hp; exact .more h1 h2 (ih rfl)
theorem tk_runs {m : Mc} {w : List Nat} : Tk m w ↔ ∃ l, Rn m none w l := by
  cases w with
  | nil => exact ⟨fun h => ⟨[], .em h⟩, fun ⟨l, h⟩ => by cases h with | em h => exact h⟩
  | cons c v =>
    constructor
    · rintro ⟨k, h1, h2, h3⟩
      obtain ⟨l, hl⟩ := gs_iff.1 h3
      exact ⟨_, .read h1 h2 hl⟩
    · rintro ⟨l, h⟩
      cases h with
      | read h1 h2 h3 => exact ⟨_, h1, h2, gs_iff.2 ⟨_, h3⟩⟩
/-- The least run on w that ends well, behind p. -/
inductive Lr (m : Mc) : Option Nat → List Nat → List Nat → Prop
  | done {p : Nat} : m.la.getD p false = true → Lr m (some p) [] []
  | em : m.em = true → Lr m none [] []
  | read {p : Option Nat} {k c : Nat} {v l : List Nat} : Nx m p k → (stN m k).testBit c = true → (∀ j, j < k → Nx m p j → (stN m j).testBit c = true → ¬ Gs m j v) → Lr m (some k) v l → Lr m p (c :: v) (k :: l)
theorem Lr.run {m : Mc} {p : Option Nat} {w l : List Nat} (h : Lr m p w l) : Rn m p w l := by
  induction h with
  | done h => exact .done h
  | em h => exact .em h
  | read h1 h2 _ _ ih => exact .read h1 h2 ih
theorem Lr.one {m : Mc} {p : Option Nat} {w l l' : List Nat} (h : Lr m p w l) (h' : Lr m p w l') : l = l' := by
  induction h generalizing l' with
  | done _ => cases h'; rfl
  | em _ => cases h'; rfl
  | @read p k c v l h1 h2 h3 h4 ih =>
    cases h' with
    | @read _ k' _ _ l' g1 g2 g3 g4 =>
      have e : k = k' := by
        rcases Nat.lt_trichotomy k k' with hlt | e | hlt
        · exact absurd (gs_iff.2 ⟨_, h4.run⟩) (g3 k hlt h1 h2)
        · exact e
        · exact absurd (gs_iff.2 ⟨_, g4.run⟩) (h3 k' hlt g1 g2)
      subst e
      rw [ih g4]
theorem least_ex {P : Nat → Prop} : ∀ n, P n → ∃ k, P k ∧ ∀ j, j < k → ¬ P j := by
  intro n
  induction n using Nat.strongRecOn with
  | ind n ih =>
    intro hn
    by_cases h : ∃ j, j < n ∧ P j
    · obtain ⟨j, hj, hp⟩ := h
      exact ih j hj hp
    · exact ⟨n, hn, fun j hj hp => h ⟨j, hj, hp⟩⟩
theorem lr_ex {m : Mc} : ∀ {w : List Nat} {p : Option Nat} {l : List Nat}, Rn m p w l → ∃ l', Lr m p w l'
  | [], _, _, h => by
    cases h with
    | done h => exact ⟨[], .done h⟩
    | em h => exact ⟨[], .em h⟩
  | c :: v, p, _, h => by
    cases h with
    | @read _ k _ _ l h1 h2 h3 =>
      obtain ⟨k', ⟨g1, g2, g3⟩, hmin⟩ := least_ex (P := fun k => Nx m p k ∧ (stN m k).testBit c = true ∧ Gs m k v) k ⟨h1, h2, gs_iff.2 ⟨_, h3⟩⟩
      obtain ⟨l2, hl2⟩ := gs_iff.1 g3
      obtain ⟨l3, hl3⟩ := lr_ex hl2
      exact ⟨k' :: l3, .read g1 g2 (fun j hj n1 n2 n3 => hmin j hj ⟨n1, n2, n3⟩) hl3⟩
/-- The marks of a run. -/
def mkR (m : Mc) (l : List Nat) : List Nat := l.map (tgN m)
/-- Single-valued. -/
structure Sv (m : Mc) : Prop where
  right : Rt m
  same : ∀ w l l', Rn m none w l → Rn m none w l' → mkR m l = mkR m l'
/-- Pairs of spots to which one text leads. -/
inductive PL (m : Mc) : Nat → Nat → Prop
  | one {a b c : Nat} : (grp m.fi).testBit a = true → (grp m.fi).testBit b = true → (stN m a).testBit c = true → (stN m b).testBit c = true → PL m a b
  | more {a b x y c : Nat} : PL m a b → (foN m a).testBit x = true → (foN m b).testBit y = true → (stN m x).testBit c = true → (stN m y).testBit c = true → PL m x y
/-- Pairs of spots from which one text ends well. -/
inductive PG (m : Mc) : Nat → Nat → Prop
  | done {a b : Nat} : m.la.getD a false = true → m.la.getD b false = true → PG m a b
  | more {a b x y c : Nat} : (foN m a).testBit x = true → (foN m b).testBit y = true → (stN m x).testBit c = true → (stN m y).testBit c = true → PG m x y → PG m a b
theorem PL.path {m : Mc} {a b : Nat} (h : PL m a b) : ∃ u l l' : List Nat, l.length = l'.length ∧ ∀ v r r', Rn m (some a) v r → Rn m (some b) v r' → Rn m none (u ++ v) (l ++ a :: r) ∧ Rn m none (u ++ v) (l' ++ b :: r') := by
  induction h with
  | @one a b c h1 h2 h3 h4 => exact ⟨[c], [], [], rfl, fun v r r' g g' => ⟨.read h1 h3 g, .read h2 h4 g'⟩⟩
  | @more a b x y c _ h1 h2 h3 h4 ih =>
    obtain ⟨u, l, l', hl, hp⟩ := ih
    refine ⟨u ++ [c], l ++ [a], l' ++ [b], by simp [hl], fun v r r' g g' => ?_⟩
    have := hp (c :: v) (x :: r) (y :: r') (.read h1 h3 g) (.read h2 h4 g')
    simpa using this
theorem PG.path {m : Mc} {a b : Nat} (h : PG m a b) : ∃ v r r', Rn m (some a) v r ∧ Rn m (some b) v r' := by
  induction h with
  | done h1 h2 => exact ⟨[], [], [], .done h1, .done h2⟩
  | @more a b x y c h1 h2 h3 h4 _ ih =>
    obtain ⟨v, r, r', g, g'⟩ := ih
    exact ⟨c :: v, x :: r, y :: r', .read h1 h3 g, .read h2 h4 g'⟩
theorem pg_of {m : Mc} : ∀ {v : List Nat} {a b : Nat} {r r' : List Nat}, Rn m (some a) v r → Rn m (some b) v r' → PG m a b
  | [], _, _, _, _, h, h' => by
    cases h with
    | done h => cases h' with | done h' => exact .done h h'
  | c :: v, _, _, _, _, h, h' => by
    cases h with
    | read h1 h2 h3 => cases h' with | read g1 g2 g3 => exact .more h1 g1 h2 g2 (pg_of h3 g3)
theorem runs_same {m : Mc} (ht : ∀ a b, PL m a b → PG m a b → tgN m a = tgN m b) : ∀ {v : List Nat} {a b : Nat} {r r' : List Nat}, PL m a b → Rn m (some a) v r → Rn m (some b) v r' → mkR m r = mkR m r'
  | [], _, _, _, _, _, h, h' => by
    cases h with
    | done h => cases h' with | done h' => rfl
  | c :: v, _, _, _, _, hp, h, h' => by
    cases h with
    | @read _ x _ _ r h1 h2 h3 =>
      cases h' with
      | @read _ y _ _ r' g1 g2 g3 =>
        have hp2 : PL m x y := .more hp h1 g1 h2 g2
        show tgN m x :: mkR m r = tgN m y :: mkR m r'
        rw [ht x y hp2 (pg_of h3 g3), runs_same ht hp2 h3 g3]
/-- A machine is single-valued just if it is right, and each pair of spots to which one text leads, and from which one ends well, has one tag. -/
theorem sv_iff (m : Mc) : Sv m ↔ Rt m ∧ ∀ a b, PL m a b → PG m a b → tgN m a = tgN m b := by
  constructor
  · rintro ⟨h, hs⟩
    refine ⟨h, fun a b hl hg => ?_⟩
    obtain ⟨u, l, l', hlen, hp⟩ := hl.path
    obtain ⟨v, r, r', g, g'⟩ := hg.path
    obtain ⟨p1, p2⟩ := hp v r r' g g'
    have h1 := hs _ _ _ p1 p2
    unfold mkR at h1
    rw [List.map_append, List.map_append] at h1
    have h2 := (List.append_inj h1 (by simp [hlen])).2
    rw [List.map_cons, List.map_cons] at h2
    injection h2
  · rintro ⟨h, ht⟩
    refine ⟨h, fun w l l' g g' => ?_⟩
    cases w with
    | nil => cases g; cases g'; rfl
    | cons c v =>
      cases g with
      | @read _ x _ _ r h1 h2 h3 =>
        cases g' with
        | @read _ y _ _ r' g1 g2 g3 =>
          have hp2 : PL m x y := .one h1 g1 h2 g2
          show tgN m x :: mkR m r = tgN m y :: mkR m r'
          rw [ht x y hp2 (pg_of h3 g3), runs_same ht hp2 h3 g3]
/-- Of a single-valued machine each run that ends well marks as the least one. -/
theorem Sv.all {m : Mc} (h : Sv m) {w l l' : List Nat} (hl : Lr m none w l) (hr : Rn m none w l') : mkR m l' = mkR m l := h.same w l' l hr hl.run
end Fs
end Go.Proofs.YtghbgfkkdknmnaaDoor
namespace Go.Proofs.YtghbgfkkdknmnaaDoor
open Sets Nf
namespace Fs
/-- The spots at which runs on from k are, having read j bytes. -/
def enN (m : Mc) (k : Nat) (w : List Nat) : Nat → List Int
  | 0 => [(k : Int)]
  | j + 1 => stepL m (enN m k w j) false (w.getD j 0) m.sp.length
theorem gs_cons {m : Mc} {i c : Nat} {v : List Nat} : Gs m i (c :: v) ↔ ∃ k, (foN m i).testBit k = true ∧ (stN m k).testBit c = true ∧ Gs m k v := by
  constructor
  · intro h
    cases h with
    | more h1 h2 h3 => exact ⟨_, h1, h2, h3⟩
  · rintro ⟨k, h1, h2, h3⟩
    exact .more h1 h2 h3
theorem step_gs {m : Mc} (h : Rt m) (l : List Int) (c : Nat) (v : List Nat) : (∃ i ∈ l, Gs m i.toNat (c :: v)) ↔ ∃ i ∈ stepL m l false c m.sp.length, Gs m i.toNat v := by
  constructor
  · rintro ⟨i, hi, hg⟩
    obtain ⟨k, h1, h2, h3⟩ := gs_cons.1 hg
    refine ⟨(k : Int), (stepL_mem m l false c m.sp.length k).2 ⟨k, rfl, fo_lt h h1, ?_⟩, by simpa using h3⟩
    unfold stepP
    rw [Bool.and_eq_true]
    exact ⟨by rw [Bool.false_and, Bool.false_or]; exact (frP_iff m l k).2 ⟨i, hi, (grp_bit (foN_rise h i.toNat) k).1 h1⟩, h2⟩
  · rintro ⟨i, hi, hg⟩
    obtain ⟨k, rfl, hk, hp⟩ := (stepL_mem m l false c m.sp.length i).1 hi
    unfold stepP at hp
    rw [Bool.and_eq_true, Bool.false_and, Bool.false_or] at hp
    obtain ⟨i2, h1, h2⟩ := (frP_iff m l k).1 hp.1
    exact ⟨i2, h1, gs_cons.2 ⟨k, (grp_bit (foN_rise h i2.toNat) k).2 h2, hp.2, by simpa using hg⟩⟩
theorem en_gs {m : Mc} (h : Rt m) (k : Nat) (w : List Nat) : ∀ j, j ≤ w.length → (Gs m k w ↔ ∃ i ∈ enN m k w j, Gs m i.toNat (w.drop j))
  | 0, _ => by
    show _ ↔ ∃ i ∈ [(k : Int)], Gs m i.toNat w
    simp
  | j + 1, hj => by
    rw [en_gs h k w j (by omega)]
    have hd : w.drop j = w.getD j 0 :: w.drop (j + 1) := by
      rw [List.drop_eq_getElem_cons (by omega), List.getD_eq_getElem?_getD, List.getElem?_eq_getElem (by omega)]; rfl
    rw [hd]
    exact step_gs h _ _ _
theorem en_last {m : Mc} (h : Rt m) (k : Nat) (w : List Nat) : (enN m k w w.length).any (fun i => m.la.getD i.toNat false) = true ↔ Gs m k w := by
  rw [en_gs h k w w.length (Nat.le_refl _), List.drop_length, List.any_eq_true]
  constructor
  · rintro ⟨i, hi, hl⟩; exact ⟨i, hi, .done hl⟩
  · rintro ⟨i, hi, hg⟩
    refine ⟨i, hi, ?_⟩
    cases hg with
    | done hl => exact hl
theorem en_lt {m : Mc} {k : Nat} (hk : k < m.sp.length) (w : List Nat) : ∀ j, ∀ i ∈ enN m k w j, 0 ≤ i ∧ i < m.sp.length
  | 0, i, hi => by
    have : i = (k : Int) := by simpa [enN] using hi
    omega
  | j + 1, i, hi => by
    obtain ⟨k', rfl, h2, -⟩ := (stepL_mem m _ _ _ _ i).1 hi
    omega
theorem en_len {m : Mc} {k : Nat} (hk : k < m.sp.length) (w : List Nat) (j : Nat) : (enN m k w j).length ≤ m.sp.length := by
  cases j with
  | zero => show 1 ≤ _; omega
  | succ j => exact stepL_len _ _ _ _ _
end Fs
end Go.Proofs.YtghbgfkkdknmnaaDoor
namespace Go.Proofs.YtghbgfkkdknmnaaDoor
open Sets Nf
namespace Fs
/-- Where the run R is, having read j bytes. -/
def pOf (R : List Nat) : Nat → Option Nat
  | 0 => none
  | j + 1 => some (R.getD j 0)
/-- The same as the document's list. -/
def atO : Option Nat → List Int
  | none => []
  | some p => [(p : Int)]
theorem Lr.len {m : Mc} {p : Option Nat} {w l : List Nat} (h : Lr m p w l) : l.length = w.length := h.run.len
theorem Lr.inv {m : Mc} {p : Option Nat} {c : Nat} {v l : List Nat} (h : Lr m p (c :: v) l) : ∃ k l', l = k :: l' ∧ Nx m p k ∧ (stN m k).testBit c = true ∧ (∀ j, j < k → Nx m p j → (stN m j).testBit c = true → ¬ Gs m j v) ∧ Lr m (some k) v l' := by
  cases h with
  | read h1 h2 h3 h4 => exact ⟨_, _, rfl, h1, h2, h3, h4⟩
theorem drop_cons {l : List Nat} {j : Nat} (h : j < l.length) : l.drop j = l.getD j 0 :: l.drop (j + 1) := by
  rw [List.drop_eq_getElem_cons h, List.getD_eq_getElem?_getD, List.getElem?_eq_getElem h]; rfl
theorem Lr.at {m : Mc} {w R : List Nat} (h : Lr m none w R) : ∀ j, j ≤ w.length → Lr m (pOf R j) (w.drop j) (R.drop j)
  | 0, _ => h
  | j + 1, hj => by
    have ih := h.at j (by omega)
    rw [drop_cons (by omega : j < w.length)] at ih
    obtain ⟨k, l', he, -, -, -, h4⟩ := ih.inv
    rw [drop_cons (by rw [h.len]; omega)] at he
    injection he with e1 e2
    show Lr m (some (R.getD j 0)) _ _
    rw [e1, e2]
    exact h4
/-- What the run's next spot is: it may come, reads the byte, ends well, and is the least one that does. -/
theorem Lr.next {m : Mc} {w R : List Nat} (h : Lr m none w R) {j : Nat} (hj : j < w.length) :
    Nx m (pOf R j) (R.getD j 0) ∧ (stN m (R.getD j 0)).testBit (w.getD j 0) = true ∧ Gs m (R.getD j 0) (w.drop (j + 1)) ∧ ∀ i, i < R.getD j 0 → Nx m (pOf R j) i → (stN m i).testBit (w.getD j 0) = true → ¬ Gs m i (w.drop (j + 1)) := by
  have ih := h.at j (by omega)
  rw [drop_cons hj] at ih
  obtain ⟨k, l', he, h1, h2, h3, h4⟩ := ih.inv
  rw [drop_cons (by rw [h.len]; omega)] at he
  injection he with e1 e2
  rw [e1]
  exact ⟨h1, h2, gs_iff.2 ⟨_, h4.run⟩, h3⟩
/-- What the document's Step tells behind p. -/
theorem step_nx {m : Mc} (h : Rt m) (p : Option Nat) (start : Bool) (hs : start = true ↔ p = none) (c k : Nat) : stepP m (atO p) start c k = true ↔ Nx m p k ∧ (stN m k).testBit c = true := by
  unfold stepP
  rw [Bool.and_eq_true]
  refine and_congr ?_ Iff.rfl
  cases p with
  | none =>
    rw [hs.2 rfl]
    show (true && m.fi.contains (k : Int) || frP m [] k) = true ↔ (grp m.fi).testBit k = true
    rw [grp_bit h.fiR k, Bool.true_and, show frP m [] k = false from rfl, Bool.or_false, List.contains_iff_mem]
  | some p =>
    have : start = false := by
      cases start with
      | false => rfl
      | true => exact absurd (hs.1 rfl) (by simp)
    rw [this]
    show (false && m.fi.contains (k : Int) || frP m [(p : Int)] k) = true ↔ (foN m p).testBit k = true
    rw [Bool.false_and, Bool.false_or, frP_iff]
    unfold foN
    rw [grp_bit (foN_rise h p) k]
    simp
theorem nx_lt {m : Mc} (h : Rt m) {p : Option Nat} {k : Nat} (hk : Nx m p k) : k < m.sp.length := by
  cases p with
  | none => exact grp_lt h.fiR hk
  | some p => exact fo_lt h hk
theorem next_in {m : Mc} (h : Rt m) {p : Option Nat} {start : Bool} (hs : start = true ↔ p = none) {c k : Nat} (h1 : Nx m p k) (h2 : (stN m k).testBit c = true) : (k : Int) ∈ stepL m (atO p) start c m.sp.length :=
  (stepL_mem m _ _ _ _ _).2 ⟨k, rfl, nx_lt h h1, (step_nx h p start hs c k).2 ⟨h1, h2⟩⟩
/-- The list that Step tells goes up. -/
theorem step_up (m : Mc) (l : List Int) (start : Bool) (c n : Nat) : (stepL m l start c n).Pairwise (· < ·) := by
  unfold stepL
  rw [List.pairwise_map]
  have h1 : ((List.range n).filter (stepP m l start c)).Pairwise (· < ·) := (List.pairwise_lt_range).sublist List.filter_sublist
  exact h1.imp (fun h => by omega)
/-- Behind the first n of Step's list nothing was found; the n-th goes well: it is the run's. -/
theorem found {m : Mc} (hr : Rt m) {w R : List Nat} (h : Lr m none w R) {j : Nat} (hj : j < w.length) {start : Bool} (hs : start = true ↔ pOf R j = none) {l : List Int} (hl : l = stepL m (atO (pOf R j)) start (w.getD j 0) m.sp.length) {n : Nat} (hn : n < l.length)
    (hb : ∀ i, i < n → ¬ Gs m (l.getD i 0).toNat (w.drop (j + 1))) (hg : Gs m (l.getD n 0).toNat (w.drop (j + 1))) : l.getD n 0 = (R.getD j 0 : Nat) := by
  obtain ⟨n1, n2, n3, n4⟩ := h.next hj
  have hin := next_in hr hs n1 n2
  rw [← hl] at hin
  obtain ⟨i, hi, he⟩ := List.mem_iff_getElem.1 hin
  have hgi : l.getD i 0 = ((R.getD j 0 : Nat) : Int) := by rw [List.getD_eq_getElem?_getD, List.getElem?_eq_getElem hi]; exact he
  have hup : l.Pairwise (· < ·) := by rw [hl]; exact step_up _ _ _ _ _
  rw [List.pairwise_iff_getElem] at hup
  have hgn : l.getD n 0 = l[n] := by rw [List.getD_eq_getElem?_getD, List.getElem?_eq_getElem hn]; rfl
  rcases Nat.lt_trichotomy i n with hlt | rfl | hlt
  · exact absurd (by rw [hgi]; simpa using n3) (hb i hlt)
  · exact hgi
  · exfalso
    have hlt2 := hup n i hn hi hlt
    have hmem : l.getD n 0 ∈ stepL m (atO (pOf R j)) start (w.getD j 0) m.sp.length := by rw [← hl]; exact getD_mem hn
    obtain ⟨k, hk, -, hp⟩ := (stepL_mem m _ _ _ _ _).1 hmem
    obtain ⟨g1, g2⟩ := (step_nx hr _ start hs _ k).1 hp
    rw [hk] at hg
    refine n4 k ?_ g1 g2 (by simpa using hg)
    rw [← hgn, hk] at hlt2
    rw [he] at hlt2
    omega
/-- All of Step's list was gone through: one of it goes well. -/
theorem some_found {m : Mc} (hr : Rt m) {w R : List Nat} (h : Lr m none w R) {j : Nat} (hj : j < w.length) {start : Bool} (hs : start = true ↔ pOf R j = none) {l : List Int} (hl : l = stepL m (atO (pOf R j)) start (w.getD j 0) m.sp.length)
    (hb : ∀ i, i < l.length → ¬ Gs m (l.getD i 0).toNat (w.drop (j + 1))) : False := by
  obtain ⟨n1, n2, n3, -⟩ := h.next hj
  have hin := next_in hr hs n1 n2
  rw [← hl] at hin
  obtain ⟨i, hi, he⟩ := List.mem_iff_getElem.1 hin
  refine hb i hi ?_
  rw [List.getD_eq_getElem?_getD, List.getElem?_eq_getElem hi, Option.getD_some, he]
  simpa using n3
end Fs
end Go.Proofs.YtghbgfkkdknmnaaDoor
namespace Go.Proofs.YtghbgfkkdknmnaaDoor
open Sets Nf Fs
namespace Ft
/-- Of each spot those that it follows. -/
def tuN (m : Mc) (j : Nat) : Nat := ofN ((List.range m.fo.length).filter fun k => (foN m k).testBit j)
def tuL (m : Mc) : List Nat := (List.range m.fo.length).map (tuN m)
theorem tu_bit (m : Mc) (j k : Nat) : (tuN m j).testBit k = true ↔ k < m.fo.length ∧ (foN m k).testBit j = true := by
  unfold tuN
  rw [ofN_testBit, List.contains_iff_mem, List.mem_filter, List.mem_range]
theorem tuL_get (m : Mc) (j : Nat) (h : j < m.fo.length) : (tuL m).getD j 0 = tuN m j := by
  unfold tuL
  rw [List.getD_eq_getElem?_getD, List.getElem?_map, List.getElem?_range h]; rfl
theorem tuL_len (m : Mc) : (tuL m).length = m.fo.length := by unfold tuL; simp
/-- The spots behind which what is left may be read. -/
def nxE (m : Mc) : List Nat → Nat
  | [] => lastN m
  | c :: v => bh (tuL m) (rdL m.sp (nxE m v) c)
/-- The spots into which the first of what is left may be read. -/
def eE (m : Mc) (c : Nat) (v : List Nat) : Nat := rdL m.sp (nxE m v) c
theorem bh_bit (G : List Nat) (q k : Nat) : (bh G q).testBit k = true ↔ ∃ j, j < 256 ∧ q.testBit j = true ∧ (G.getD j 0).testBit k = true := by
  have key : ∀ (l : List Nat) (a : Nat), (l.foldl (fun a k => a ||| G.getD k 0) a).testBit k = true ↔ a.testBit k = true ∨ ∃ j ∈ l, (G.getD j 0).testBit k = true := by
    intro l
    induction l with
    | nil => intro a; simp
    | cons j l ih =>
      intro a
      rw [List.foldl_cons, ih, Nat.testBit_or, Bool.or_eq_true]
      simp only [List.mem_cons, exists_eq_or_imp, or_assoc]
  unfold bh
  rw [key]
  simp only [Nat.zero_testBit, Bool.false_eq_true, false_or]
  constructor
  · rintro ⟨j, hj, h⟩
    obtain ⟨h1, h2⟩ := (mem_listN _ _).1 hj
    exact ⟨j, h1, h2, h⟩
  · rintro ⟨j, h1, h2, h3⟩
    exact ⟨j, (mem_listN _ _).2 ⟨h1, h2⟩, h3⟩
theorem rdL_bit (L : List (Nat × Nat)) (g c k : Nat) : (rdL L g c).testBit k = true ↔ k < 256 ∧ g.testBit k = true ∧ (L.getD k (0, 0)).1.testBit c = true := by
  unfold rdL
  rw [ofN_testBit, List.contains_iff_mem, List.mem_filter, mem_listN]
  unfold hasS
  exact and_assoc
theorem last_bit (m : Mc) (k : Nat) : (lastN m).testBit k = true ↔ m.la.getD k false = true := by
  unfold lastN
  rw [ofN_testBit, List.contains_iff_mem, List.mem_filter, List.mem_range]
  constructor
  · exact fun h => h.2
  · intro h
    refine ⟨?_, h⟩
    rcases Nat.lt_or_ge k m.la.length with h2 | h2
    · exact h2
    · rw [List.getD_eq_getElem?_getD, List.getElem?_eq_none h2] at h; cases h
theorem nx_gs {m : Mc} (h : Rt m) : ∀ (v : List Nat) (k : Nat), (nxE m v).testBit k = true ↔ Gs m k v
  | [], k => by
    show (lastN m).testBit k = true ↔ _
    rw [last_bit]
    exact ⟨fun h => .done h, fun h => by cases h with | done h => exact h⟩
  | c :: v, k => by
    show (bh (tuL m) (rdL m.sp (nxE m v) c)).testBit k = true ↔ _
    rw [bh_bit, gs_cons]
    constructor
    · rintro ⟨j, h1, h2, h3⟩
      obtain ⟨-, h4, h5⟩ := (rdL_bit _ _ _ _).1 h2
      have hj : j < m.fo.length := by
        rcases Nat.lt_or_ge j m.fo.length with h6 | h6
        · exact h6
        · rw [List.getD_eq_getElem?_getD, List.getElem?_eq_none (by rw [tuL_len]; exact h6), Option.getD_none, Nat.zero_testBit] at h3; cases h3
      rw [tuL_get m j hj] at h3
      exact ⟨j, ((tu_bit m j k).1 h3).2, h5, (nx_gs h v j).1 h4⟩
    · rintro ⟨j, h1, h2, h3⟩
      have hj := fo_lt h h1
      have hm := h.many
      refine ⟨j, by omega, (rdL_bit _ _ _ _).2 ⟨by omega, (nx_gs h v j).2 h3, h2⟩, ?_⟩
      rw [tuL_get m j (by rw [h.fol]; exact hj), tu_bit]
      refine ⟨?_, h1⟩
      rcases Nat.lt_or_ge k m.fo.length with h6 | h6
      · exact h6
      · unfold foN at h1
        rw [List.getD_eq_getElem?_getD, List.getElem?_eq_none h6] at h1
        exact absurd h1 (by simp [grp, ofN])
theorem nx_lt {m : Mc} (h : Rt m) (v : List Nat) {k : Nat} (hk : (nxE m v).testBit k = true) : k < m.sp.length := by
  have := (nx_gs h v k).1 hk
  rcases Nat.lt_or_ge k m.sp.length with h2 | h2
  · exact h2
  · cases this with
    | done h3 => rw [List.getD_eq_getElem?_getD, List.getElem?_eq_none (by rw [h.lal]; exact h2)] at h3; cases h3
    | more h3 _ _ =>
      unfold foN at h3
      rw [List.getD_eq_getElem?_getD, List.getElem?_eq_none (by rw [h.fol]; exact h2)] at h3
      exact absurd h3 (by simp [grp, ofN])
theorem eE_bit {m : Mc} (h : Rt m) (c : Nat) (v : List Nat) (k : Nat) : (eE m c v).testBit k = true ↔ (stN m k).testBit c = true ∧ Gs m k v := by
  unfold eE
  rw [rdL_bit, nx_gs h]
  constructor
  · rintro ⟨-, h1, h2⟩; exact ⟨h2, h1⟩
  · rintro ⟨h1, h2⟩
    have := nx_lt h v ((nx_gs h v k).2 h2)
    have := h.many
    exact ⟨by omega, h2, h1⟩
theorem eE_lt {m : Mc} (h : Rt m) (c : Nat) (v : List Nat) {k : Nat} (hk : (eE m c v).testBit k = true) : k < m.sp.length := nx_lt h v ((nx_gs h v k).2 ((eE_bit h c v k).1 hk).2)
/-- The list that a run may go on with, behind p. -/
def lsO (m : Mc) : Option Nat → List Int
  | none => m.fi
  | some p => m.fo.getD p []
/-- The first of a list that is in a set. -/
def lea (g : Nat) : List Int → Option Nat
  | [] => none
  | k :: l => if g.testBit k.toNat then some k.toNat else lea g l
theorem lea_some {g : Nat} {l : List Int} {k : Nat} (h : lea g l = some k) : g.testBit k = true ∧ ∃ i, i < l.length ∧ (l.getD i 0).toNat = k ∧ ∀ j, j < i → g.testBit (l.getD j 0).toNat = false := by
  induction l with
  | nil => cases h
  | cons a l ih =>
    unfold lea at h
    by_cases hb : g.testBit a.toNat = true
    · rw [if_pos hb] at h
      injection h with h
      subst h
      exact ⟨hb, 0, by simp, rfl, fun j hj => absurd hj (Nat.not_lt_zero _)⟩
    · rw [if_neg hb] at h
      obtain ⟨h1, i, h2, h3, h4⟩ := ih h
      refine ⟨h1, i + 1, by simpa using h2, h3, fun j hj => ?_⟩
      cases j with
      | zero => simpa using hb
      | succ j => exact h4 j (by omega)
theorem lea_none {g : Nat} {l : List Int} (h : lea g l = none) : ∀ k ∈ l, g.testBit k.toNat = false := by
  induction l with
  | nil => intro k hk; cases hk
  | cons a l ih =>
    unfold lea at h
    by_cases hb : g.testBit a.toNat = true
    · rw [if_pos hb] at h; cases h
    · rw [if_neg hb] at h
      intro k hk
      rcases List.mem_cons.1 hk with rfl | hk
      · simpa using hb
      · exact ih h k hk
theorem rise_up {n : Nat} {l : List Int} (h : rise n l = true) : l.Pairwise (· < ·) ∧ ∀ k ∈ l, 0 ≤ k ∧ k < n := by
  have key : ∀ (l : List Int) (low : Int), riseF n low l = true → l.Pairwise (· < ·) ∧ ∀ k ∈ l, low ≤ k ∧ k < n := by
    intro l
    induction l with
    | nil => intro low _; exact ⟨List.Pairwise.nil, fun k hk => by cases hk⟩
    | cons a l ih =>
      intro low h
      rw [riseF_cons, Bool.and_eq_true, Bool.and_eq_true, decide_eq_true_eq, decide_eq_true_eq] at h
      obtain ⟨h1, h2, h3⟩ := h
      obtain ⟨i1, i2⟩ := ih (a + 1) h3
      refine ⟨List.pairwise_cons.2 ⟨fun k hk => by have := (i2 k hk).1; omega, i1⟩, fun k hk => ?_⟩
      rcases List.mem_cons.1 hk with rfl | hk
      · exact ⟨h1, h2⟩
      · have := i2 k hk; omega
  exact key l 0 h
theorem lsO_rise {m : Mc} (h : Rt m) (p : Option Nat) : rise m.sp.length (lsO m p) = true := by
  cases p with
  | none => exact h.fiR
  | some p => exact foN_rise h p
theorem lsO_nx {m : Mc} (h : Rt m) (p : Option Nat) (k : Nat) : Nx m p k ↔ (k : Int) ∈ lsO m p := by
  cases p with
  | none => exact grp_bit h.fiR k
  | some p => exact grp_bit (foN_rise h p) k
/-- What is found at a byte is the least run's. -/
theorem lea_next {m : Mc} (hr : Rt m) {w R : List Nat} (h : Lr m none w R) {j : Nat} (hj : j < w.length) : lea (eE m (w.getD j 0) (w.drop (j + 1))) (lsO m (pOf R j)) = some (R.getD j 0) := by
  obtain ⟨n1, n2, n3, n4⟩ := h.next hj
  have hup := rise_up (lsO_rise hr (pOf R j))
  cases hl : lea (eE m (w.getD j 0) (w.drop (j + 1))) (lsO m (pOf R j)) with
  | none =>
    have := lea_none hl _ ((lsO_nx hr _ _).1 n1)
    rw [Int.toNat_natCast] at this
    rw [(eE_bit hr _ _ _).2 ⟨n2, n3⟩] at this
    cases this
  | some k =>
    obtain ⟨h1, i, h2, h3, h4⟩ := lea_some hl
    obtain ⟨e1, e2⟩ := (eE_bit hr _ _ _).1 h1
    have hmem : (lsO m (pOf R j)).getD i 0 ∈ lsO m (pOf R j) := getD_mem h2
    have hki : (lsO m (pOf R j)).getD i 0 = (k : Int) := by have := (hup.2 _ hmem).1; omega
    rw [hki] at hmem
    rcases Nat.lt_trichotomy k (R.getD j 0) with hlt | e | hlt
    · exact absurd e2 (n4 k hlt ((lsO_nx hr _ _).2 hmem) e1)
    · rw [e]
    · exfalso
      obtain ⟨i2, hi2, he2⟩ := List.mem_iff_getElem.1 ((lsO_nx hr _ _).1 n1)
      have hp := hup.1
      rw [List.pairwise_iff_getElem] at hp
      have hg : (lsO m (pOf R j)).getD i 0 = (lsO m (pOf R j))[i] := by rw [List.getD_eq_getElem?_getD, List.getElem?_eq_getElem h2]; rfl
      have hg2 : (lsO m (pOf R j)).getD i2 0 = (lsO m (pOf R j))[i2] := by rw [List.getD_eq_getElem?_getD, List.getElem?_eq_getElem hi2]; rfl
      rcases Nat.lt_trichotomy i2 i with h5 | rfl | h5
      · have := h4 i2 h5
        rw [hg2, he2, Int.toNat_natCast, (eE_bit hr _ _ _).2 ⟨n2, n3⟩] at this
        cases this
      · rw [hg, he2] at hki; omega
      · have := hp i i2 h2 hi2 h5
        rw [he2, ← hg, hki] at this
        omega
/-- Nothing is taken: nothing is found at the first byte. -/
theorem lea_no {m : Mc} (hr : Rt m) {c : Nat} {v : List Nat} (h : ¬ Tk m (c :: v)) : lea (eE m c v) m.fi = none := by
  cases hl : lea (eE m c v) m.fi with
  | none => rfl
  | some k =>
    exfalso
    obtain ⟨h1, i, h2, h3, -⟩ := lea_some hl
    obtain ⟨e1, e2⟩ := (eE_bit hr _ _ _).1 h1
    refine h ⟨k, ?_, e1, e2⟩
    have hmem : m.fi.getD i 0 ∈ m.fi := getD_mem h2
    have := ((rise_up hr.fiR).2 _ hmem).1
    refine (grp_bit hr.fiR k).2 ?_
    rw [← h3, Int.toNat_of_nonneg this]
    exact hmem
end Ft
end Go.Proofs.YtghbgfkkdknmnaaDoor
namespace Go.Proofs.YtghbgfkkdknmnaaDoor
namespace Nf
open Sets
theorem kept_succ (U n : Nat) : kept U (n + 1) = kept U n ++ (if U.testBit n = true then [n] else []) := by
  unfold kept
  rw [List.range_succ, List.filter_append, List.filter_cons]
  by_cases h : U.testBit n = true
  · rw [if_pos h, if_pos h]; rfl
  · rw [if_neg h, if_neg h]; rfl
theorem nu_len (U n : Nat) : (kept U n).length = nu U n := rfl
theorem nu_succ (U n : Nat) : nu U (n + 1) = nu U n + (if U.testBit n = true then 1 else 0) := by
  rw [← nu_len, ← nu_len, kept_succ, List.length_append]
  by_cases h : U.testBit n = true
  · rw [if_pos h, if_pos h]; rfl
  · rw [if_neg h, if_neg h]; rfl
theorem nu_mono (U : Nat) {i : Nat} : ∀ {k : Nat}, i ≤ k → nu U i ≤ nu U k
  | 0, h => by rw [Nat.le_zero.1 h]; exact Nat.le_refl _
  | k + 1, h => by
    rcases Nat.lt_or_ge i (k + 1) with h1 | h1
    · have := nu_mono U (i := i) (k := k) (by omega)
      rw [nu_succ]; omega
    · rw [show i = k + 1 by omega]; exact Nat.le_refl _
theorem nu_lt {U i k : Nat} (hi : U.testBit i = true) (h : i < k) : nu U i < nu U k := by
  have h1 := nu_mono U (i := i + 1) (k := k) h
  rw [nu_succ, if_pos hi] at h1
  omega
theorem nu_inj {U i k : Nat} (hi : U.testBit i = true) (hk : U.testBit k = true) (h : nu U i = nu U k) : i = k := by
  rcases Nat.lt_trichotomy i k with h1 | h1 | h1
  · have := nu_lt hi h1; omega
  · exact h1
  · have := nu_lt hk h1; omega
theorem kept_get {U k : Nat} (hk : U.testBit k = true) : ∀ {n : Nat}, k < n → (kept U n)[nu U k]? = some k
  | n + 1, h => by
    rw [kept_succ]
    rcases Nat.lt_or_ge k n with h1 | h1
    · rw [List.getElem?_append_left (by rw [nu_len]; exact nu_lt hk h1)]
      exact kept_get hk h1
    · have : k = n := by omega
      subst this
      rw [if_pos hk, List.getElem?_append_right (by rw [nu_len]; exact Nat.le_refl _), nu_len, Nat.sub_self]; rfl
theorem kept_mem {U n k : Nat} : k ∈ kept U n ↔ k < n ∧ U.testBit k = true := by
  unfold kept; rw [List.mem_filter, List.mem_range]
/-- each number below is some spot's -/
theorem kept_at {U n j : Nat} (h : j < nu U n) : ∃ k, k < n ∧ U.testBit k = true ∧ nu U k = j := by
  have hl : j < (kept U n).length := by rw [nu_len]; exact h
  have hm : (kept U n)[j] ∈ kept U n := List.getElem_mem _
  obtain ⟨h1, h2⟩ := kept_mem.1 hm
  refine ⟨_, h1, h2, ?_⟩
  have h3 := kept_get h2 h1
  obtain ⟨h4, h5⟩ := List.getElem?_eq_some_iff.1 h3
  have hnd : (kept U n).Nodup := List.Nodup.sublist List.filter_sublist List.nodup_range
  have hpw := List.pairwise_iff_getElem.1 hnd
  rcases Nat.lt_trichotomy (nu U ((kept U n)[j])) j with h6 | h6 | h6
  · exact absurd h5 (hpw _ _ h4 hl h6)
  · exact h6
  · exact absurd h5.symm (hpw _ _ hl h4 h6)
theorem left_mem {U n : Nat} {l : List Int} (h : rise n l = true) (j : Nat) : (j : Int) ∈ leftL U l ↔ ∃ k : Nat, (k : Int) ∈ l ∧ U.testBit k = true ∧ nu U k = j := by
  unfold leftL
  rw [List.mem_map]
  have hr := (rise_iff n l).1 h
  constructor
  · rintro ⟨x, hx, e⟩
    rw [List.mem_filter] at hx
    have := hr.1 x hx.1
    refine ⟨x.toNat, by rw [Int.toNat_of_nonneg this.1]; exact hx.1, hx.2, by omega⟩
  · rintro ⟨k, hk, hu, e⟩
    exact ⟨k, List.mem_filter.2 ⟨hk, by simpa using hu⟩, by simp [e]⟩
theorem left_rise {U n : Nat} {l : List Int} (h : rise n l = true) : rise (nu U n) (leftL U l) = true := by
  have hr := (rise_iff n l).1 h
  refine (rise_iff _ _).2 ⟨fun x hx => ?_, ?_⟩
  · unfold leftL at hx
    obtain ⟨k, hk, rfl⟩ := List.mem_map.1 hx
    rw [List.mem_filter] at hk
    have h1 := hr.1 k hk.1
    have h2 := nu_lt (U := U) (i := k.toNat) (k := n) hk.2 (by omega)
    omega
  · unfold leftL
    rw [List.pairwise_map]
    have h1 : (l.filter fun k => U.testBit k.toNat).Pairwise (· < ·) := hr.2.sublist List.filter_sublist
    refine List.Pairwise.imp_of_mem (R := (· < ·)) ?_ h1
    intro a b ha hb hab
    rw [List.mem_filter] at ha hb
    have := hr.1 a ha.1
    have := hr.1 b hb.1
    have := nu_lt (U := U) (i := a.toNat) (k := b.toNat) ha.2 (by omega)
    omega
section
variable {m : Mc} {U : Nat}
theorem trim_len (m : Mc) (U : Nat) : (trimM m U).sp.length = nu U m.sp.length := by
  show ((kept U m.sp.length).map _).length = _
  rw [List.length_map]; rfl
theorem trim_st (m : Mc) {k : Nat} (hk : U.testBit k = true) (hl : k < m.sp.length) : stN (trimM m U) (nu U k) = stN m k := by
  unfold stN trimM
  show ((((kept U m.sp.length).map fun k => m.sp.getD k (0, 0)).getD (nu U k) (0, 0))).1 = _
  rw [List.getD_eq_getElem?_getD, List.getElem?_map, kept_get hk hl]; rfl
theorem trim_fo (m : Mc) {k : Nat} (hk : U.testBit k = true) (hl : k < m.sp.length) : (trimM m U).fo.getD (nu U k) [] = leftL U (m.fo.getD k []) := by
  show (((kept U m.sp.length).map fun k => leftL U (m.fo.getD k [])).getD (nu U k) []) = _
  rw [List.getD_eq_getElem?_getD, List.getElem?_map, kept_get hk hl]; rfl
theorem trim_la (m : Mc) {k : Nat} (hk : U.testBit k = true) (hl : k < m.sp.length) : (trimM m U).la.getD (nu U k) false = m.la.getD k false := by
  show (((kept U m.sp.length).map fun k => m.la.getD k false).getD (nu U k) false) = _
  rw [List.getD_eq_getElem?_getD, List.getElem?_map, kept_get hk hl]; rfl
theorem trim_right (h : Rt m) : Rt (trimM m U) := by
  have hn : nu U m.sp.length ≤ m.sp.length := by
    rw [← nu_len]; unfold kept
    refine Nat.le_trans (List.length_filter_le _ _) ?_
    rw [List.length_range]; exact Nat.le_refl _
  refine ⟨by rw [trim_len]; have := h.many; omega, ?_, ?_, ?_, ?_, ?_⟩
  · unfold trimM; simp
  · unfold trimM; simp
  · intro s hs
    unfold trimM at hs
    obtain ⟨k, hk, rfl⟩ := List.mem_map.1 hs
    exact h.tag _ (getD_mem (kept_mem.1 hk).1)
  · intro l hl
    rw [trim_len]
    unfold trimM at hl
    obtain ⟨k, hk, rfl⟩ := List.mem_map.1 hl
    exact left_rise (foN_rise h k)
  · rw [trim_len]; exact left_rise h.fiR
theorem trim_fob (h : Rt m) {k : Nat} (hk : U.testBit k = true) (hl : k < m.sp.length) (j : Nat) : (foN (trimM m U) (nu U k)).testBit j = true ↔ ∃ i, (foN m k).testBit i = true ∧ U.testBit i = true ∧ nu U i = j := by
  unfold foN
  rw [trim_fo m hk hl, grp_bit (left_rise (foN_rise h k)) j, left_mem (foN_rise h k)]
  constructor
  · rintro ⟨i, h1, h2, h3⟩; exact ⟨i, (grp_bit (foN_rise h k) i).2 h1, h2, h3⟩
  · rintro ⟨i, h1, h2, h3⟩; exact ⟨i, (grp_bit (foN_rise h k) i).1 h1, h2, h3⟩
theorem trim_fib (h : Rt m) (j : Nat) : (grp (trimM m U).fi).testBit j = true ↔ ∃ i, (grp m.fi).testBit i = true ∧ U.testBit i = true ∧ nu U i = j := by
  show (grp (leftL U m.fi)).testBit j = true ↔ _
  rw [grp_bit (left_rise h.fiR) j, left_mem h.fiR]
  constructor
  · rintro ⟨i, h1, h2, h3⟩; exact ⟨i, (grp_bit h.fiR i).2 h1, h2, h3⟩
  · rintro ⟨i, h1, h2, h3⟩; exact ⟨i, (grp_bit h.fiR i).1 h1, h2, h3⟩
theorem bit_ne {S c : Nat} (h : S.testBit c = true) : S ≠ 0 := fun e => by rw [e, Nat.zero_testBit] at h; cases h
theorem gs_good {k : Nat} {w : List Nat} (h : Gs m k w) (hk : stN m k ≠ 0) : Gg m k := by
  induction h with
  | done hl => exact .base ((last_bit m _).2 hl) ((full_bit m _).2 hk)
  | more hf hs _ ih => exact .step (ih (bit_ne hs)) hf ((full_bit m _).2 hk)
theorem gs_trim (h : Rt m) (hU : Us m U) : ∀ (w : List Nat) (k : Nat), U.testBit k = true → (Gs (trimM m U) (nu U k) w ↔ Gs m k w)
  | [], k, hk => by
    have hl := hU.lt hk
    constructor
    · intro g; cases g with | done e => exact .done (by rw [trim_la m hk hl] at e; exact e)
    · intro g; cases g with | done e => exact .done (by rw [trim_la m hk hl]; exact e)
  | c :: w, k, hk => by
    have hl := hU.lt hk
    constructor
    · intro g
      cases g with
      | more hf hs hg =>
        obtain ⟨i, h1, h2, rfl⟩ := (trim_fob h hk hl _).1 hf
        rw [trim_st m h2 (hU.lt h2)] at hs
        exact .more h1 hs ((gs_trim h hU w i h2).1 hg)
    · intro g
      cases g with
      | @more _ j _ _ hf hs hg =>
        have hj : U.testBit j = true := (hU j).2 ⟨.step ((hU k).1 hk).1 hf ((full_bit m _).2 (bit_ne hs)), gs_good hg (bit_ne hs)⟩
        exact .more ((trim_fob h hk hl _).2 ⟨j, hf, hj, rfl⟩) (by rw [trim_st m hj (hU.lt hj)]; exact hs) ((gs_trim h hU w j hj).2 hg)
/-- A trimmed machine takes just what the machine takes. -/
theorem trim_takes (h : Rt m) (hU : Us m U) (w : List Nat) : takesM (trimM m U) w = takesM m w := by
  rw [Bool.eq_iff_iff, takes_iff, takes_iff]
  have hT : Tk (trimM m U) w ↔ Tk m w := by
    cases w with
    | nil => exact Iff.rfl
    | cons c w =>
      constructor
      · rintro ⟨j, h1, h2, h3⟩
        obtain ⟨k, h4, h5, rfl⟩ := (trim_fib h j).1 h1
        rw [trim_st m h5 (hU.lt h5)] at h2
        exact ⟨k, h4, h2, (gs_trim h hU w k h5).1 h3⟩
      · rintro ⟨k, h1, h2, h3⟩
        have hk : U.testBit k = true := (hU k).2 ⟨.base h1 ((full_bit m _).2 (bit_ne h2)), gs_good h3 (bit_ne h2)⟩
        exact ⟨nu U k, (trim_fib h _).2 ⟨k, h1, hk, rfl⟩, by rw [trim_st m hk (hU.lt hk)]; exact h2, (gs_trim h hU w k hk).2 h3⟩
  exact ⟨fun ⟨_, b⟩ => ⟨h, hT.1 b⟩, fun ⟨_, b⟩ => ⟨trim_right h, hT.2 b⟩⟩
theorem trim_full (hU : Us m U) {k : Nat} (hk : U.testBit k = true) : (fullN (trimM m U)).testBit (nu U k) = true := by
  rw [full_bit, trim_st m hk (hU.lt hk)]
  exact (full_bit m k).1 ((hU k).1 hk).1.within
theorem trim_co (h : Rt m) (hU : Us m U) {k : Nat} (hc : Co m k) : Gg m k → Co (trimM m U) (nu U k) := by
  induction hc with
  | @base k h1 h2 =>
    intro hg
    have hk : U.testBit k = true := (hU k).2 ⟨.base h1 h2, hg⟩
    exact .base ((trim_fib h _).2 ⟨k, h1, hk, rfl⟩) (trim_full hU hk)
  | @step i k h1 h2 h3 ih =>
    intro hg
    have hgi : Gg m i := .step hg h2 h1.within
    have hi : U.testBit i = true := (hU i).2 ⟨h1, hgi⟩
    have hk : U.testBit k = true := (hU k).2 ⟨.step h1 h2 h3, hg⟩
    exact .step (ih hgi) ((trim_fob h hi (hU.lt hi) _).2 ⟨k, h2, hk, rfl⟩) (trim_full hU hk)
theorem trim_gg (h : Rt m) (hU : Us m U) {k : Nat} (hg : Gg m k) : Co m k → Gg (trimM m U) (nu U k) := by
  induction hg with
  | @base k h1 h2 =>
    intro hc
    have hk : U.testBit k = true := (hU k).2 ⟨hc, .base h1 h2⟩
    exact .base ((last_bit _ _).2 (by rw [trim_la m hk (hU.lt hk)]; exact (last_bit m k).1 h1)) (trim_full hU hk)
  | @step i k h1 h2 h3 ih =>
    intro hc
    have hci : Co m i := .step hc h2 h1.within
    have hi : U.testBit i = true := (hU i).2 ⟨hci, h1⟩
    have hk : U.testBit k = true := (hU k).2 ⟨hc, .step h1 h2 h3⟩
    exact .step (ih hci) ((trim_fob h hk (hU.lt hk) _).2 ⟨i, h2, hi, rfl⟩) (trim_full hU hk)
/-- All its spots are useful. -/
theorem trim_all (h : Rt m) (hU : Us m U) {V : Nat} (hV : Us (trimM m U) V) (j : Nat) : V.testBit j = true ↔ j < (trimM m U).sp.length := by
  constructor
  · exact fun hj => hV.lt hj
  · intro hj
    rw [trim_len] at hj
    obtain ⟨k, hk, hu, rfl⟩ := kept_at hj
    have := (hU k).1 hu
    exact (hV _).2 ⟨trim_co h hU this.1 this.2, trim_gg h hU this.2 this.1⟩
theorem kept_all {V n : Nat} (h : ∀ j, j < n → V.testBit j = true) : kept V n = List.range n := by
  unfold kept
  rw [List.filter_eq_self]
  intro j hj
  exact h j (List.mem_range.1 hj)
theorem left_all {V n : Nat} {l : List Int} (h : ∀ j, j < n → V.testBit j = true) (hr : rise n l = true) : leftL V l = l := by
  have hm := ((rise_iff n l).1 hr).1
  unfold leftL
  rw [List.filter_eq_self.2 (fun x hx => h _ (by have := hm x hx; omega))]
  have : ∀ x ∈ l, ((nu V x.toNat : Nat) : Int) = x := by
    intro x hx
    have := hm x hx
    rw [← nu_len, kept_all (fun j hj => h j (by omega)), List.length_range]
    omega
  rw [List.map_congr_left this, List.map_id']
theorem range_get {α : Type} (d : α) (l : List α) {n : Nat} (h : l.length = n) : (List.range n).map (fun k => l.getD k d) = l := by
  subst h
  apply List.ext_getElem (by simp)
  intro i h1 h2
  simp [List.getD_eq_getElem?_getD, List.getElem?_eq_getElem h2]
/-- A machine all of whose spots are useful is the same, trimmed. -/
theorem trim_same {t : Mc} (h : Rt t) {V : Nat} (hV : ∀ j, j < t.sp.length → V.testBit j = true) : trimM t V = t := by
  have hk := kept_all hV
  unfold trimM
  rw [hk]
  have h1 : (List.range t.sp.length).map (fun k => leftL V (t.fo.getD k [])) = t.fo := by
    refine (List.map_congr_left fun k _ => ?_).trans (range_get [] t.fo h.fol)
    exact left_all hV (foN_rise h k)
  rw [h1, range_get (0, 0) t.sp rfl, range_get false t.la h.lal, left_all hV h.fiR]
theorem trim_twice (h : Rt m) : trimM (trimM m (useN m)) (useN (trimM m (useN m))) = trimM m (useN m) :=
  trim_same (trim_right h) (fun j hj => (trim_all h (useN_us h) (useN_us (trim_right h)) j).2 hj)
end
end Nf
end Go.Proofs.YtghbgfkkdknmnaaDoor
namespace Go.Proofs.YtghbgfkkdknmnaaDoor
open Sets Nf
namespace Fs
section
variable {m : Mc} {U : Nat}
theorem trim_tg (m : Mc) {k : Nat} (hk : U.testBit k = true) (hl : k < m.sp.length) : tgN (trimM m U) (nu U k) = tgN m k := by
  unfold tgN trimM
  show ((((kept U m.sp.length).map fun k => m.sp.getD k (0, 0)).getD (nu U k) (0, 0))).2 = _
  rw [List.getD_eq_getElem?_getD, List.getElem?_map, kept_get hk hl]; rfl
/-- A spot that is useful, or none. -/
def Pk (U : Nat) (p : Option Nat) : Prop := ∀ k, p = some k → U.testBit k = true
theorem nx_trim (h : Rt m) (hU : Us m U) {p : Option Nat} (hp : Pk U p) (j : Nat) : Nx (trimM m U) (p.map (nu U)) j ↔ ∃ i, Nx m p i ∧ U.testBit i = true ∧ nu U i = j := by
  cases p with
  | none => exact trim_fib h j
  | some k => exact trim_fob h (hp k rfl) (hU.lt (hp k rfl)) j
/-- What comes next in a run that ends well is useful. -/
theorem nx_used (hU : Us m U) {p : Option Nat} (hp : Pk U p) {k c : Nat} {v : List Nat} (h1 : Nx m p k) (h2 : (stN m k).testBit c = true) (h3 : Gs m k v) : U.testBit k = true := by
  cases p with
  | none => exact (hU k).2 ⟨.base h1 ((full_bit m _).2 (bit_ne h2)), gs_good h3 (bit_ne h2)⟩
  | some p => exact (hU k).2 ⟨.step ((hU p).1 (hp p rfl)).1 h1 ((full_bit m _).2 (bit_ne h2)), gs_good h3 (bit_ne h2)⟩
theorem Pk.of {k : Nat} (h : U.testBit k = true) : Pk U (some k) := fun j e => by injection e with e; subst e; exact h
theorem nu_back {i k : Nat} (hk : U.testBit k = true) (h : nu U i < nu U k) : i < k := by
  rcases Nat.lt_or_ge i k with h1 | h1
  · exact h1
  · rcases Nat.lt_or_eq_of_le h1 with h2 | h2
    · have := nu_lt (U := U) (i := k) (k := i) hk h2; omega
    · subst h2; omega
theorem rn_to (h : Rt m) (hU : Us m U) : ∀ (w l : List Nat) (p : Option Nat), Pk U p → Rn m p w l → Rn (trimM m U) (p.map (nu U)) w (l.map (nu U)) ∧ mkR (trimM m U) (l.map (nu U)) = mkR m l
  | [], _, _, hp, g => by
    cases g with
    | @done k e => exact ⟨.done (by rw [trim_la m (hp k rfl) (hU.lt (hp k rfl))]; exact e), rfl⟩
    | em e => exact ⟨.em e, rfl⟩
  | c :: v, _, p, hp, g => by
    cases g with
    | @read _ k _ _ l h1 h2 h3 =>
      have hk := nx_used hU hp h1 h2 (gs_iff.2 ⟨_, h3⟩)
      obtain ⟨g1, g2⟩ := rn_to h hU v l (some k) (.of hk) h3
      refine ⟨.read ((nx_trim h hU hp _).2 ⟨k, h1, hk, rfl⟩) (by rw [trim_st m hk (hU.lt hk)]; exact h2) g1, ?_⟩
      show tgN (trimM m U) (nu U k) :: mkR (trimM m U) (l.map (nu U)) = tgN m k :: mkR m l
      rw [trim_tg m hk (hU.lt hk), g2]
theorem Rn.inv {m : Mc} {p : Option Nat} {c : Nat} {v l : List Nat} (h : Rn m p (c :: v) l) : ∃ k l', l = k :: l' ∧ Nx m p k ∧ (stN m k).testBit c = true ∧ Rn m (some k) v l' := by
  cases h with
  | read h1 h2 h3 => exact ⟨_, _, rfl, h1, h2, h3⟩
theorem rn_from (h : Rt m) (hU : Us m U) : ∀ (w l' : List Nat) (p : Option Nat), Pk U p → Rn (trimM m U) (p.map (nu U)) w l' → ∃ l, l' = l.map (nu U) ∧ Rn m p w l
  | [], _, p, hp, g => by
    cases p with
    | none => cases g with | em e => exact ⟨[], rfl, .em e⟩
    | some k => cases g with | done e => exact ⟨[], rfl, .done (by rw [trim_la m (hp k rfl) (hU.lt (hp k rfl))] at e; exact e)⟩
  | c :: v, _, p, hp, g => by
    obtain ⟨j, l', rfl, h1, h2, h3⟩ := g.inv
    obtain ⟨k, g1, hk, rfl⟩ := (nx_trim h hU hp j).1 h1
    obtain ⟨l, rfl, g3⟩ := rn_from h hU v l' (some k) (.of hk) h3
    rw [trim_st m hk (hU.lt hk)] at h2
    exact ⟨k :: l, rfl, .read g1 h2 g3⟩
theorem lr_trim (h : Rt m) (hU : Us m U) : ∀ (w l : List Nat) (p : Option Nat), Pk U p → Lr m p w l → Lr (trimM m U) (p.map (nu U)) w (l.map (nu U))
  | [], _, _, hp, g => by
    cases g with
    | @done k e => exact .done (by rw [trim_la m (hp k rfl) (hU.lt (hp k rfl))]; exact e)
    | em e => exact .em e
  | c :: v, _, p, hp, g => by
    cases g with
    | @read _ k _ _ l h1 h2 h3 h4 =>
      have hk := nx_used hU hp h1 h2 (gs_iff.2 ⟨_, h4.run⟩)
      refine .read ((nx_trim h hU hp _).2 ⟨k, h1, hk, rfl⟩) (by rw [trim_st m hk (hU.lt hk)]; exact h2) (fun j hj n1 n2 n3 => ?_) (lr_trim h hU v l (some k) (.of hk) h4)
      obtain ⟨i, g1, hi, rfl⟩ := (nx_trim h hU hp j).1 n1
      rw [trim_st m hi (hU.lt hi)] at n2
      exact h3 i (nu_back hk hj) g1 n2 ((gs_trim h hU v i hi).1 n3)
theorem Pk.none : Pk U none := fun k e => by cases e
/-- The marks of the trimmed machine are the machine's. -/
theorem marks_trim (h : Rt m) (hU : Us m U) {w l l' : List Nat} (g : Lr m none w l) (g' : Lr (trimM m U) none w l') : mkR (trimM m U) l' = mkR m l := by
  have h1 := lr_trim h hU w l none .none g
  rw [Lr.one g' h1]
  exact (rn_to h hU w l none .none g.run).2
theorem sv_trim (h : Rt m) (hU : Us m U) : Sv (trimM m U) ↔ Sv m := by
  constructor
  · intro s
    refine ⟨h, fun w l l' g g' => ?_⟩
    obtain ⟨a1, a2⟩ := rn_to h hU w l none .none g
    obtain ⟨b1, b2⟩ := rn_to h hU w l' none .none g'
    rw [← a2, ← b2]
    exact s.same w _ _ a1 b1
  · intro s
    refine ⟨trim_right h, fun w l l' g g' => ?_⟩
    obtain ⟨a, rfl, a1⟩ := rn_from h hU w l none .none g
    obtain ⟨b, rfl, b1⟩ := rn_from h hU w l' none .none g'
    rw [(rn_to h hU w a none .none a1).2, (rn_to h hU w b none .none b1).2]
    exact s.same w a b a1 b1
end
end Fs
end Go.Proofs.YtghbgfkkdknmnaaDoor
