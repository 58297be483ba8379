/- Several texts in one. -/
import Derived.Test.YtghbgfkkdknmnaaDoorPqB6
import Derived.Test.YtghbgfkkdknmnaaDoorPqB7
import Derived.Test.YtghbgfkkdknmnaaDoorPqB3
import Derived.Test.YtghbgfkkdknmnaaDoorPqA3
import Derived.Laws.StructEq
import Derived.Maps.OwnOps
import Derived.Maps.Own
namespace Go.Proofs.YtghbgfkkdknmnaaDoor
open Sets Nf
namespace Fs
/-- How two runs mark that stand in a and b now; h: ahead of them. -/
def hw (m : Mc) (h a b : Nat) : Nat := if tgN m a = tgN m b then h else 2
theorem hw_symm (m : Mc) (h a b : Nat) : hw m h a b = hw m h b a := by
  unfold hw
  by_cases e : tgN m a = tgN m b
  · rw [if_pos e, if_pos e.symm]
  · rw [if_neg e, if_neg (fun x => e x.symm)]
theorem hw_mono (m : Mc) {h h' : Nat} (a b : Nat) (hh : h ≤ h') : hw m h a b ≤ hw m h' a b := by
  unfold hw
  split <;> omega
theorem hw_le (m : Mc) {h : Nat} (a b : Nat) (h2 : h ≤ 2) : hw m h a b ≤ 2 := by
  unfold hw
  split <;> omega
theorem hw_pos (m : Mc) {h : Nat} (a b : Nat) (h1 : 1 ≤ h) : 1 ≤ hw m h a b := by
  unfold hw
  split <;> omega
/-- Two runs on one text that stand in a and b; 1: whatever; 2: they mark unlike. -/
inductive Q2 (m : Mc) : Nat → Nat → Nat → Prop
  | one {a b c : Nat} : (grp m.fi).testBit a = true → (grp m.fi).testBit b = true → (stN m a).testBit c = true → (stN m b).testBit c = true → Q2 m (hw m 1 a b) a b
  | more {h a b x y c : Nat} : Q2 m h a b → (foN m a).testBit x = true → (foN m b).testBit y = true → (stN m x).testBit c = true → (stN m y).testBit c = true → Q2 m (hw m h x y) x y
theorem Q2.symm {m : Mc} {h a b : Nat} (q : Q2 m h a b) : Q2 m h b a := by
  induction q with
  | one h1 h2 h3 h4 => rw [hw_symm]; exact .one h2 h1 h4 h3
  | more _ h1 h2 h3 h4 ih => rw [hw_symm]; exact .more ih h2 h1 h4 h3
theorem Q2.range {m : Mc} {h a b : Nat} (q : Q2 m h a b) : 1 ≤ h ∧ h ≤ 2 := by
  induction q with
  | one _ _ _ _ => exact ⟨hw_pos m _ _ (Nat.le_refl _), hw_le m _ _ (by omega)⟩
  | more _ _ _ _ _ ih => exact ⟨hw_pos m _ _ ih.1, hw_le m _ _ ih.2⟩
theorem Q2.path {m : Mc} {h a b : Nat} (q : Q2 m h a b) : ∃ u l l' : List Nat, l.length = l'.length ∧ (h = 2 → mkR m (l ++ [a]) ≠ mkR m (l' ++ [b])) ∧ ∀ v r r', Rn m (some a) v r → Rn m (some b) v r' → Rn m none (u ++ v) (l ++ a :: r) ∧ Rn m none (u ++ v) (l' ++ b :: r') := by
  induction q with
  | @one a b c h1 h2 h3 h4 =>
    refine ⟨[c], [], [], rfl, fun e => ?_, fun v r r' g g' => ⟨.read h1 h3 g, .read h2 h4 g'⟩⟩
    unfold hw at e
    split at e
    · omega
    · rename_i hne
      intro e2
      simp only [mkR, List.nil_append, List.map_cons, List.map_nil, List.cons.injEq, and_true] at e2
      exact hne e2
  | @more h a b x y c _ h1 h2 h3 h4 ih =>
    obtain ⟨u, l, l', hl, hu, hp⟩ := ih
    refine ⟨u ++ [c], l ++ [a], l' ++ [b], by simp [hl], fun e => ?_, fun v r r' g g' => ?_⟩
    · intro e2
      have e5 : mkR m (l ++ [a]) ++ [tgN m x] = mkR m (l' ++ [b]) ++ [tgN m y] := by simpa [mkR] using e2
      obtain ⟨e3, e4⟩ := List.append_inj e5 (by unfold mkR; simp [hl])
      rw [List.cons.injEq] at e4
      replace e4 := e4.1
      unfold hw at e
      rw [if_pos e4] at e
      exact hu e e3
    · have := hp (c :: v) (x :: r) (y :: r') (.read h1 h3 g) (.read h2 h4 g')
      simpa using this
/-- Two spots that are last, at which two runs stand that mark unlike. -/
def Bad (m : Mc) : Prop := ∃ a b, Q2 m 2 a b ∧ m.la.getD a false = true ∧ m.la.getD b false = true
theorem bad_of {m : Mc} : ∀ {v : List Nat} {h a b : Nat} {r r' : List Nat}, Q2 m h a b → Rn m (some a) v r → Rn m (some b) v r' → (h = 2 ∨ mkR m r ≠ mkR m r') → Bad m
  | [], _, _, _, _, _, q, g, g', h => by
    cases g with
    | done l1 =>
      cases g' with
      | done l2 =>
        rcases h with rfl | h
        · exact ⟨_, _, q, l1, l2⟩
        · exact absurd rfl h
  | c :: v, h, _, _, _, _, q, g, g', hh => by
    cases g with
    | @read _ x _ _ r h1 h2 h3 =>
      cases g' with
      | @read _ y _ _ r' g1 g2 g3 =>
        have q2 := Q2.more q h1 g1 h2 g2
        refine bad_of q2 h3 g3 ?_
        unfold hw
        by_cases e : tgN m x = tgN m y
        · rw [if_pos e]
          refine hh.imp id (fun h4 e5 => h4 ?_)
          show tgN m x :: mkR m r = tgN m y :: mkR m r'
          rw [e, e5]
        · rw [if_neg e]; exact .inl rfl
/-- A machine is single-valued just if it is right, and no two runs that mark unlike both end. -/
theorem sv_q (m : Mc) : Sv m ↔ Rt m ∧ ¬ Bad m := by
  constructor
  · rintro ⟨h, hs⟩
    refine ⟨h, ?_⟩
    rintro ⟨a, b, q, l1, l2⟩
    obtain ⟨u, l, l', -, hu, hp⟩ := q.path
    obtain ⟨p1, p2⟩ := hp [] [] [] (.done l1) (.done l2)
    exact hu rfl (hs _ _ _ p1 p2)
  · rintro ⟨h, hb⟩
    refine ⟨h, fun w l l' g g' => ?_⟩
    cases w with
    | nil => cases g; cases g'; rfl
    | cons c v =>
      cases g with
      | @read _ x _ _ r h1 h2 h3 =>
        cases g' with
        | @read _ y _ _ r' g1 g2 g3 =>
          refine Classical.byContradiction fun hne => hb ?_
          refine bad_of (.one h1 g1 h2 g2) h3 g3 ?_
          unfold hw
          by_cases e : tgN m x = tgN m y
          · rw [if_pos e]
            refine .inr (fun e5 => hne ?_)
            show tgN m x :: mkR m r = tgN m y :: mkR m r'
            rw [e, e5]
          · rw [if_neg e]; exact .inl rfl
/-! The search. -/
abbrev Pr := Nat × Nat
def sk (a b : Nat) : Pr := (min a b, max a b)
theorem sk_comm (a b : Nat) : sk a b = sk b a := by unfold sk; rw [Nat.min_comm, Nat.max_comm]
theorem sk_or (a b : Nat) : sk a b = (a, b) ∨ sk a b = (b, a) := by
  unfold sk
  rcases Nat.le_total a b with h | h
  · rw [Nat.min_eq_left h, Nat.max_eq_right h]; exact .inl rfl
  · rw [Nat.min_eq_right h, Nat.max_eq_left h]; exact .inr rfl
def upd (T : Pr → Nat) (p : Pr) (v : Nat) : Pr → Nat := fun q => if q = p then v else T q
theorem upd_self (T : Pr → Nat) (p : Pr) (v : Nat) : upd T p v p = v := if_pos rfl
theorem upd_ne (T : Pr → Nat) {p q : Pr} (v : Nat) (h : q ≠ p) : upd T p v q = T q := if_neg h
/-- The search's state: both, one, open. -/
structure St where
  B : Pr → Nat
  O : Pr → Nat
  op : List Pr
/-- enter's step at a spot j. -/
def entS (m : Mc) (k how : Nat) (s : St) (j : Nat) : St :=
  if s.B (sk k j) < hw m how k j then ⟨upd s.B (sk k j) (hw m how k j), s.O, s.op ++ [sk k j]⟩ else s
def entA (m : Mc) (k how : Nat) (s : St) (l : List Nat) : St := l.foldl (entS m k how) s
/-- The spots that share a byte with k. -/
def mtN (m : Mc) (k : Nat) : Nat := ofN ((List.range m.sp.length).filter fun j => decide (stN m k &&& stN m j ≠ 0))
theorem mt_iff {m : Mc} {k j : Nat} : (mtN m k).testBit j = true ↔ j < m.sp.length ∧ ∃ c, (stN m k).testBit c = true ∧ (stN m j).testBit c = true := by
  unfold mtN
  rw [ofN_testBit, List.contains_iff_mem, List.mem_filter, List.mem_range]
  refine and_congr Iff.rfl ?_
  rw [decide_eq_true_eq]
  constructor
  · intro h
    obtain ⟨c, hc⟩ := Nat.exists_testBit_of_ne_zero h
    rw [Nat.testBit_and, Bool.and_eq_true] at hc
    exact ⟨c, hc⟩
  · rintro ⟨c, h1, h2⟩ e
    have := congrArg (fun x => x.testBit c) e
    simp only [Nat.testBit_and, h1, h2, Bool.and_self, Nat.zero_testBit] at this
    cases this
/-- enter. -/
def entP (m : Mc) (k how next : Nat) (s : St) : St := entA m k how s (listN (next &&& mtN m k))
/-- goOn's step at a spot k. -/
def goS (m : Mc) (b how : Nat) (s : St) (k : Nat) : St :=
  if s.O (k, b) < how then entP m k how (foN m b) ⟨s.B, upd s.O (k, b) how, s.op⟩ else s
def goP (m : Mc) (b how : Nat) (s : St) (l : List Nat) : St := l.foldl (goS m b how) s
/-- The state says no more than there is. -/
structure Snd (m : Mc) (s : St) : Prop where
  b : ∀ p, s.B p ≠ 0 → Q2 m (s.B p) p.1 p.2
  o : ∀ p ∈ s.op, s.B p ≠ 0
theorem Snd.le {m : Mc} {s : St} (h : Snd m s) (p : Pr) : s.B p ≤ 2 := by
  by_cases e : s.B p = 0
  · omega
  · exact (h.b p e).range.2
/-- What one state comes from another. -/
structure Gw (s s' : St) : Prop where
  le : ∀ p, s.B p ≤ s'.B p
  ch : ∀ p, s'.B p ≠ s.B p → p ∈ s'.op
  st : ∀ p ∈ s.op, p ∈ s'.op
  ol : ∀ p, s.O p ≤ s'.O p
theorem Gw.refl (s : St) : Gw s s := ⟨fun _ => Nat.le_refl _, fun _ h => absurd rfl h, fun _ h => h, fun _ => Nat.le_refl _⟩
theorem Gw.trans {s t u : St} (h : Gw s t) (k : Gw t u) : Gw s u :=
  ⟨fun p => Nat.le_trans (h.le p) (k.le p), fun p e => by
    by_cases e2 : u.B p = t.B p
    · exact k.st p (h.ch p (fun e3 => e (e2.trans e3)))
    · exact k.ch p e2, fun p hp => k.st p (h.st p hp), fun p => Nat.le_trans (h.ol p) (k.ol p)⟩
theorem entS_gw (m : Mc) (k how : Nat) (s : St) (j : Nat) : Gw s (entS m k how s j) := by
  unfold entS
  split
  · rename_i hlt
    refine ⟨fun p => ?_, fun p e => ?_, fun p hp => List.mem_append_left _ hp, fun _ => Nat.le_refl _⟩
    · show s.B p ≤ upd _ _ _ p
      unfold upd
      split
      · rename_i e; rw [e]; omega
      · exact Nat.le_refl _
    · show p ∈ s.op ++ [sk k j]
      by_cases e2 : p = sk k j
      · rw [e2]; simp
      · exact absurd (upd_ne _ _ e2) e
  · exact Gw.refl s
theorem entS_O (m : Mc) (k how : Nat) (s : St) (j : Nat) : (entS m k how s j).O = s.O := by
  unfold entS
  split <;> rfl
theorem entS_at (m : Mc) (k how : Nat) (s : St) (j : Nat) : hw m how k j ≤ (entS m k how s j).B (sk k j) := by
  unfold entS
  split
  · show _ ≤ upd _ _ _ _
    rw [upd_self]
    exact Nat.le_refl _
  · omega
theorem entS_snd {m : Mc} {k how : Nat} {s : St} {j : Nat} (h : Snd m s) (hq : Q2 m (hw m how k j) k j) : Snd m (entS m k how s j) := by
  unfold entS
  split
  · refine ⟨fun p hp => ?_, fun p hp => ?_⟩
    · show Q2 m (upd _ _ _ p) _ _
      by_cases e : p = sk k j
      · rw [e, upd_self]
        rcases sk_or k j with e2 | e2
        · rw [e2]; exact hq
        · rw [e2]; exact hq.symm
      · rw [upd_ne _ _ e]
        exact h.b p (by rw [← upd_ne s.B (hw m how k j) e]; exact hp)
    · show upd _ _ _ p ≠ 0
      rcases List.mem_append.1 hp with hp | hp
      · unfold upd
        split
        · have := hq.range.1; omega
        · exact h.o p hp
      · rw [List.mem_singleton] at hp
        rw [hp, upd_self]
        have := hq.range.1; omega
  · exact h
theorem entA_gw (m : Mc) (k how : Nat) : ∀ (l : List Nat) (s : St), Gw s (entA m k how s l)
  | [], s => Gw.refl s
  | j :: l, s => (entS_gw m k how s j).trans (entA_gw m k how l _)
theorem entA_O (m : Mc) (k how : Nat) : ∀ (l : List Nat) (s : St), (entA m k how s l).O = s.O
  | [], _ => rfl
  | j :: l, s => (entA_O m k how l (entS m k how s j)).trans (entS_O m k how s j)
theorem entA_at (m : Mc) (k how : Nat) : ∀ (l : List Nat) (s : St), ∀ j ∈ l, hw m how k j ≤ (entA m k how s l).B (sk k j)
  | j :: l, s, i, hi => by
    rcases List.mem_cons.1 hi with rfl | hi
    · exact Nat.le_trans (entS_at m k how s i) ((entA_gw m k how l _).le _)
    · exact entA_at m k how l _ i hi
theorem entA_snd {m : Mc} {k how : Nat} : ∀ (l : List Nat) (s : St), Snd m s → (∀ j ∈ l, Q2 m (hw m how k j) k j) → Snd m (entA m k how s l)
  | [], _, h, _ => h
  | j :: l, _, h, hq => entA_snd l _ (entS_snd h (hq j (List.mem_cons_self ..))) (fun i hi => hq i (List.mem_cons_of_mem _ hi))
theorem entP_at {m : Mc} (h : Rt m) (k how next : Nat) (s : St) {j : Nat} (h1 : next.testBit j = true) (h2 : (mtN m k).testBit j = true) : hw m how k j ≤ (entP m k how next s).B (sk k j) := by
  refine entA_at m k how _ s j ((mem_listN _ _).2 ⟨?_, by rw [Nat.testBit_and, h1, h2]; rfl⟩)
  have := (mt_iff.1 h2).1
  have := h.many
  omega
/-- What one run having read on has found. -/
def Ones (m : Mc) (s : St) : Prop := ∀ k j, s.O (k, j) ≠ 0 → ∀ y, (foN m j).testBit y = true → (mtN m k).testBit y = true → hw m (s.O (k, j)) k y ≤ s.B (sk k y)
theorem goS_gw (m : Mc) (b how : Nat) (s : St) (k : Nat) : Gw s (goS m b how s k) := by
  unfold goS
  split
  · rename_i hlt
    refine Gw.trans (t := ⟨s.B, upd s.O (k, b) how, s.op⟩) ⟨fun _ => Nat.le_refl _, fun _ h => absurd rfl h, fun _ h => h, fun p => ?_⟩ (entA_gw m k how _ _)
    show s.O p ≤ upd _ _ _ p
    unfold upd
    split
    · rename_i e; rw [e]; omega
    · exact Nat.le_refl _
  · exact Gw.refl s
theorem goS_at (m : Mc) (b how : Nat) (s : St) (k : Nat) : how ≤ (goS m b how s k).O (k, b) := by
  unfold goS
  split
  · refine Nat.le_trans ?_ ((entA_gw m k how _ ⟨s.B, upd s.O (k, b) how, s.op⟩).ol _)
    show how ≤ upd _ _ _ _
    rw [upd_self]
    exact Nat.le_refl _
  · omega
theorem goS_ones {m : Mc} (hr : Rt m) {b how k : Nat} {s : St} (h : Ones m s) : Ones m (goS m b how s k) := by
  unfold goS
  split
  · intro x j ho y h1 h2
    have hO : (entP m k how (foN m b) ⟨s.B, upd s.O (k, b) how, s.op⟩).O = upd s.O (k, b) how := entA_O m k how _ _
    rw [hO] at ho ⊢
    by_cases e : ((x, j) : Pr) = (k, b)
    · injection e with e1 e2
      subst e1; subst e2
      rw [upd_self]
      exact entP_at hr x how _ _ h1 h2
    · rw [upd_ne _ _ e] at ho ⊢
      exact Nat.le_trans (h x j ho y h1 h2) ((entA_gw m k how _ ⟨s.B, upd s.O (k, b) how, s.op⟩).le _)
  · exact h
theorem goS_snd {m : Mc} {a b how k : Nat} {s : St} (h : Snd m s) (hq : Q2 m how a b) (hk : (foN m a).testBit k = true) : Snd m (goS m b how s k) := by
  unfold goS
  split
  · refine entA_snd _ _ ⟨h.b, h.o⟩ (fun j hj => ?_)
    obtain ⟨-, h2⟩ := (mem_listN _ _).1 hj
    rw [Nat.testBit_and, Bool.and_eq_true] at h2
    obtain ⟨-, c, c1, c2⟩ := mt_iff.1 h2.2
    exact .more hq hk h2.1 c1 c2
  · exact h
theorem goP_gw (m : Mc) (b how : Nat) : ∀ (l : List Nat) (s : St), Gw s (goP m b how s l)
  | [], s => Gw.refl s
  | k :: l, s => (goS_gw m b how s k).trans (goP_gw m b how l _)
theorem goP_at (m : Mc) (b how : Nat) : ∀ (l : List Nat) (s : St), ∀ k ∈ l, how ≤ (goP m b how s l).O (k, b)
  | k :: l, s, i, hi => by
    rcases List.mem_cons.1 hi with rfl | hi
    · exact Nat.le_trans (goS_at m b how s i) ((goP_gw m b how l _).ol _)
    · exact goP_at m b how l _ i hi
theorem goP_ones {m : Mc} (hr : Rt m) {b how : Nat} : ∀ (l : List Nat) (s : St), Ones m s → Ones m (goP m b how s l)
  | [], _, h => h
  | _ :: l, _, h => goP_ones hr l _ (goS_ones hr h)
theorem goP_snd {m : Mc} {a b how : Nat} (hq : Q2 m how a b) : ∀ (l : List Nat) (s : St), Snd m s → (∀ k ∈ l, (foN m a).testBit k = true) → Snd m (goP m b how s l)
  | [], _, h, _ => h
  | k :: l, _, h, hl => goP_snd hq l _ (goS_snd h hq (hl k (List.mem_cons_self ..))) (fun i hi => hl i (List.mem_cons_of_mem _ hi))
/-- The search, between two pairs. -/
structure SInv (m : Mc) (s : St) : Prop where
  snd : Snd m s
  ones : Ones m s
  first : ∀ k j, (grp m.fi).testBit k = true → (grp m.fi).testBit j = true → (mtN m k).testBit j = true → hw m 1 k j ≤ s.B (sk k j)
  dn : ∀ p, s.B p ≠ 0 → p ∈ s.op ∨ (¬ (s.B p = 2 ∧ m.la.getD p.1 false = true ∧ m.la.getD p.2 false = true) ∧ ∀ x, (foN m p.1).testBit x = true → s.B p ≤ s.O (x, p.2))
/-- The start. -/
def st0 : St := ⟨fun _ => 0, fun _ => 0, []⟩
def begL (m : Mc) (s : St) (l : List Nat) : St := l.foldl (fun s k => entP m k 1 (grp m.fi) s) s
theorem begL_gw (m : Mc) : ∀ (l : List Nat) (s : St), Gw s (begL m s l)
  | [], s => Gw.refl s
  | k :: l, s => (entA_gw m k 1 _ s).trans (begL_gw m l _)
theorem begL_O (m : Mc) : ∀ (l : List Nat) (s : St), (begL m s l).O = s.O
  | [], _ => rfl
  | k :: l, s => (begL_O m l _).trans (entA_O m k 1 _ s)
theorem begL_at {m : Mc} (hr : Rt m) : ∀ (l : List Nat) (s : St), ∀ k ∈ l, ∀ j, (grp m.fi).testBit j = true → (mtN m k).testBit j = true → hw m 1 k j ≤ (begL m s l).B (sk k j)
  | k :: l, s, i, hi, j, h1, h2 => by
    rcases List.mem_cons.1 hi with rfl | hi
    · exact Nat.le_trans (entP_at hr i 1 _ s h1 h2) ((begL_gw m l _).le _)
    · exact begL_at hr l _ i hi j h1 h2
theorem begL_snd {m : Mc} : ∀ (l : List Nat) (s : St), Snd m s → (∀ k ∈ l, (grp m.fi).testBit k = true) → Snd m (begL m s l)
  | [], _, h, _ => h
  | k :: l, _, h, hl => begL_snd l _ (entA_snd _ _ h (fun j hj => by
      obtain ⟨-, h2⟩ := (mem_listN _ _).1 hj
      rw [Nat.testBit_and, Bool.and_eq_true] at h2
      obtain ⟨-, c, c1, c2⟩ := mt_iff.1 h2.2
      exact .one (hl k (List.mem_cons_self ..)) h2.1 c1 c2)) (fun i hi => hl i (List.mem_cons_of_mem _ hi))
theorem st0_snd (m : Mc) : Snd m st0 := ⟨fun _ h => absurd rfl h, fun _ h => by cases h⟩
theorem beg_inv {m : Mc} (hr : Rt m) {l : List Nat} (hl : ∀ k, k ∈ l ↔ (grp m.fi).testBit k = true) : SInv m (begL m st0 l) := by
  refine ⟨begL_snd l st0 (st0_snd m) (fun k hk => (hl k).1 hk), fun k j h => ?_, fun k j h1 h2 h3 => begL_at hr l st0 k ((hl k).2 h1) j h2 h3, fun p hp => .inl ((begL_gw m l st0).ch p hp)⟩
  rw [begL_O] at h
  exact absurd rfl h
/-- A pair is popped, and not bad: the runs go on. -/
theorem SInv.step {m : Mc} (hr : Rt m) {s : St} {op : List Pr} {p : Pr} (h : SInv m s) (ho : s.op = op ++ [p]) (hb : ¬ (s.B p = 2 ∧ m.la.getD p.1 false = true ∧ m.la.getD p.2 false = true)) {l : List Nat} (hl : ∀ k, k ∈ l ↔ (foN m p.1).testBit k = true) :
    SInv m (goP m p.2 (s.B p) ⟨s.B, s.O, op⟩ l) := by
  have hp0 := h.snd.o p (by rw [ho]; simp)
  have hs1 : Snd m ⟨s.B, s.O, op⟩ := ⟨h.snd.b, fun q hq => h.snd.o q (by rw [ho]; exact List.mem_append_left _ hq)⟩
  have hg := goP_gw m p.2 (s.B p) l ⟨s.B, s.O, op⟩
  refine ⟨goP_snd (h.snd.b p hp0) l _ hs1 (fun k hk => (hl k).1 hk), goP_ones hr l _ h.ones, fun k j h1 h2 h3 => Nat.le_trans (h.first k j h1 h2 h3) (hg.le _), fun q hq => ?_⟩
  by_cases e : (goP m p.2 (s.B p) ⟨s.B, s.O, op⟩ l).B q = s.B q
  · rw [e] at hq ⊢
    by_cases e2 : q = p
    · subst e2
      exact .inr ⟨hb, fun x hx => goP_at m q.2 (s.B q) l _ x ((hl x).2 hx)⟩
    · rcases h.dn q hq with h3 | ⟨h3, h4⟩
      · rw [ho] at h3
        rcases List.mem_append.1 h3 with h3 | h3
        · exact .inl (hg.st q h3)
        · rw [List.mem_singleton] at h3; exact absurd h3 e2
      · exact .inr ⟨h3, fun x hx => Nat.le_trans (h4 x hx) (hg.ol _)⟩
  · exact .inl (hg.ch q e)
theorem SInv.bad {m : Mc} {s : St} {p : Pr} (h : SInv m s) (hp : p ∈ s.op) (hb : s.B p = 2 ∧ m.la.getD p.1 false = true ∧ m.la.getD p.2 false = true) : Bad m :=
  ⟨p.1, p.2, by have := h.snd.b p (h.snd.o p hp); rwa [hb.1] at this, hb.2⟩
theorem SInv.all {m : Mc} (hr : Rt m) {s : St} (h : SInv m s) (he : s.op = []) {v a b : Nat} (q : Q2 m v a b) : v ≤ s.B (sk a b) := by
  have hmt : ∀ {x y c : Nat}, y < m.sp.length → (stN m x).testBit c = true → (stN m y).testBit c = true → (mtN m x).testBit y = true := fun hy h1 h2 => mt_iff.2 ⟨hy, _, h1, h2⟩
  induction q with
  | @one a b c h1 h2 h3 h4 => exact h.first a b h1 h2 (hmt (grp_lt hr.fiR h2) h3 h4)
  | @more v a b x y c q h1 h2 h3 h4 ih =>
    have hv := q.range
    have hB : s.B (sk a b) ≠ 0 := by omega
    have hle := h.snd.le (sk a b)
    rcases h.dn _ hB with h5 | ⟨-, h5⟩
    · rw [he] at h5; cases h5
    · rcases sk_or a b with e | e
      · rw [e] at h5 ih hB hle
        have hO := h5 x h1
        have h6 := h.ones x b (by simp only at hO; omega) y h2 (hmt (fo_lt hr h2) h3 h4)
        refine Nat.le_trans ?_ h6
        have hle2 : s.O (x, b) ≤ 2 ∨ 2 ≤ s.O (x, b) := Nat.le_total _ _
        unfold hw
        simp only at hO
        split <;> omega
      · rw [e] at h5 ih hB hle
        have hO := h5 y h2
        have h6 := h.ones y a (by simp only at hO; omega) x h1 (hmt (fo_lt hr h1) h4 h3)
        rw [sk_comm x y, hw_symm]
        refine Nat.le_trans ?_ h6
        unfold hw
        simp only at hO
        split <;> omega
/-- Nothing is open, and nothing was bad. -/
theorem SInv.fine {m : Mc} (hr : Rt m) {s : St} (h : SInv m s) (he : s.op = []) : ¬ Bad m := by
  rintro ⟨a, b, q, l1, l2⟩
  have h1 := h.all hr he q
  have h2 := h.snd.le (sk a b)
  rcases h.dn (sk a b) (by omega) with h3 | ⟨h3, -⟩
  · rw [he] at h3; cases h3
  · refine h3 ⟨by omega, ?_⟩
    rcases sk_or a b with e | e
    · rw [e]; exact ⟨l1, l2⟩
    · rw [e]; exact ⟨l2, l1⟩
/-! How long it may go on. -/
def sumP (T : Pr → Nat) : Nat → Nat
  | 0 => 0
  | n + 1 => sumP T n + T (n / 256, n % 256)
theorem sumP_upd (T : Pr → Nat) (p : Pr) (v : Nat) (h2 : p.2 < 256) : ∀ n, sumP (upd T p v) n + (if p.1 * 256 + p.2 < n then T p else 0) = sumP T n + (if p.1 * 256 + p.2 < n then v else 0)
  | 0 => by simp [sumP]
  | n + 1 => by
    have ih := sumP_upd T p v h2 n
    show sumP (upd T p v) n + upd T p v (n / 256, n % 256) + _ = sumP T n + T (n / 256, n % 256) + _
    by_cases e : ((n / 256, n % 256) : Pr) = p
    · have e1 : n / 256 = p.1 := congrArg Prod.fst e
      have e2 : n % 256 = p.2 := congrArg Prod.snd e
      have en : p.1 * 256 + p.2 = n := by omega
      rw [e, upd_self]
      rw [if_neg (by omega), if_neg (by omega)] at ih
      rw [if_pos (by omega), if_pos (by omega)]
      omega
    · rw [upd_ne _ _ e]
      have en : p.1 * 256 + p.2 ≠ n := by
        rintro rfl
        refine e ?_
        rw [show (p.1 * 256 + p.2) / 256 = p.1 by omega, show (p.1 * 256 + p.2) % 256 = p.2 by omega]
      by_cases hlt : p.1 * 256 + p.2 < n
      · rw [if_pos hlt, if_pos hlt] at ih
        rw [if_pos (by omega), if_pos (by omega)]
        omega
      · rw [if_neg hlt, if_neg hlt] at ih
        rw [if_neg (by omega), if_neg (by omega)]
        omega
theorem sumP_le (T : Pr → Nat) (h : ∀ p, T p ≤ 2) : ∀ n, sumP T n ≤ 2 * n
  | 0 => Nat.le_refl _
  | n + 1 => by
    have := sumP_le T h n
    have := h (n / 256, n % 256)
    show sumP T n + T (n / 256, n % 256) ≤ _
    omega
def sumS (s : St) : Nat := sumP s.B 25600
/-- All pairs are of spots. -/
def Sml (n : Nat) (s : St) : Prop := (∀ p ∈ s.op, p.1 < n ∧ p.2 < n) ∧ s.op.length ≤ sumS s
theorem sk_lt {n a b : Nat} (ha : a < n) (hb : b < n) : (sk a b).1 < n ∧ (sk a b).2 < n := by
  rcases sk_or a b with e | e <;> rw [e]
  · exact ⟨ha, hb⟩
  · exact ⟨hb, ha⟩
theorem entS_len (m : Mc) (k how : Nat) (s : St) (j : Nat) (hk : k < 100) (hj : j < 100) : (entS m k how s j).op.length + sumS s ≤ s.op.length + sumS (entS m k how s j) ∧ sumS s ≤ sumS (entS m k how s j) := by
  unfold entS
  split
  · rename_i hlt
    have hs := sk_lt hk hj
    have h1 := sumP_upd s.B (sk k j) (hw m how k j) (by omega) 25600
    rw [if_pos (by omega), if_pos (by omega)] at h1
    show (s.op ++ [sk k j]).length + sumS s ≤ s.op.length + sumP (upd s.B (sk k j) (hw m how k j)) 25600 ∧ _ ≤ sumP (upd s.B (sk k j) (hw m how k j)) 25600
    rw [List.length_append, List.length_singleton]
    unfold sumS
    omega
  · exact ⟨Nat.le_refl _, Nat.le_refl _⟩
theorem entS_small {n : Nat} (m : Mc) (k how : Nat) (s : St) (j : Nat) (hk : k < n) (hj : j < n) (h : ∀ p ∈ s.op, p.1 < n ∧ p.2 < n) : ∀ p ∈ (entS m k how s j).op, p.1 < n ∧ p.2 < n := by
  unfold entS
  split
  · intro p hp
    rcases List.mem_append.1 hp with hp | hp
    · exact h p hp
    · rw [List.mem_singleton] at hp
      rw [hp]
      exact sk_lt hk hj
  · exact h
/-- From one state to another: not too many pairs more. -/
structure Ln (n : Nat) (s s' : St) : Prop where
  len : s'.op.length + sumS s ≤ s.op.length + sumS s'
  sum : sumS s ≤ sumS s'
  sml : (∀ p ∈ s.op, p.1 < n ∧ p.2 < n) → ∀ p ∈ s'.op, p.1 < n ∧ p.2 < n
theorem Ln.refl (n : Nat) (s : St) : Ln n s s := ⟨Nat.le_refl _, Nat.le_refl _, fun h => h⟩
theorem Ln.trans {n : Nat} {s t u : St} (h : Ln n s t) (k : Ln n t u) : Ln n s u := ⟨by have := h.len; have := k.len; omega, Nat.le_trans h.sum k.sum, fun x => k.sml (h.sml x)⟩
theorem entA_ln {n : Nat} (hn : n ≤ 100) (m : Mc) {k how : Nat} (hk : k < n) : ∀ (l : List Nat) (s : St), (∀ j ∈ l, j < n) → Ln n s (entA m k how s l)
  | [], s, _ => Ln.refl n s
  | j :: l, s, h => by
    have hj := h j (List.mem_cons_self ..)
    have h1 := entS_len m k how s j (by omega) (by omega)
    exact Ln.trans ⟨h1.1, h1.2, entS_small m k how s j hk hj⟩ (entA_ln hn m hk l _ (fun i hi => h i (List.mem_cons_of_mem _ hi)))
theorem entP_ln {m : Mc} (hr : m.sp.length ≤ 100) {k how next : Nat} (hk : k < m.sp.length) (s : St) : Ln m.sp.length s (entP m k how next s) :=
  entA_ln hr m hk _ s (fun j hj => by
    obtain ⟨-, h2⟩ := (mem_listN _ _).1 hj
    rw [Nat.testBit_and, Bool.and_eq_true] at h2
    exact (mt_iff.1 h2.2).1)
theorem goS_ln {m : Mc} (hr : m.sp.length ≤ 100) {b how k : Nat} (hk : k < m.sp.length) (s : St) : Ln m.sp.length s (goS m b how s k) := by
  unfold goS
  split
  · exact Ln.trans (t := ⟨s.B, upd s.O (k, b) how, s.op⟩) ⟨Nat.le_refl _, Nat.le_refl _, fun h => h⟩ (entP_ln hr hk _)
  · exact Ln.refl _ s
theorem goP_ln {m : Mc} (hr : m.sp.length ≤ 100) {b how : Nat} : ∀ (l : List Nat) (s : St), (∀ k ∈ l, k < m.sp.length) → Ln m.sp.length s (goP m b how s l)
  | [], s, _ => Ln.refl _ s
  | k :: l, s, h => (goS_ln hr (h k (List.mem_cons_self ..)) s).trans (goP_ln hr l _ (fun i hi => h i (List.mem_cons_of_mem _ hi)))
theorem begL_ln {m : Mc} (hr : m.sp.length ≤ 100) : ∀ (l : List Nat) (s : St), (∀ k ∈ l, k < m.sp.length) → Ln m.sp.length s (begL m s l)
  | [], s, _ => Ln.refl _ s
  | k :: l, s, h => (entP_ln hr (h k (List.mem_cons_self ..)) s).trans (begL_ln hr l _ (fun i hi => h i (List.mem_cons_of_mem _ hi)))
theorem sumS_le {m : Mc} {s : St} (h : Snd m s) : sumS s ≤ 51200 := sumP_le s.B h.le 25600
/-- What is left to do. -/
def leftS (s : St) : Nat := 2 * (51200 - sumS s) + s.op.length
theorem left_lt {m : Mc} {n : Nat} {s s' : St} {op : List Pr} {p : Pr} (ho : s.op = op ++ [p]) (h : Ln n ⟨s.B, s.O, op⟩ s') (hs : Snd m s') : leftS s' < leftS s := by
  have h1 : s'.op.length + sumS s ≤ op.length + sumS s' := h.len
  have h2 : sumS s ≤ sumS s' := h.sum
  have h3 := sumS_le hs
  have h4 : s.op.length = op.length + 1 := by rw [ho]; simp
  unfold leftS
  omega
/-- Not too much is open. -/
def Fit (m : Mc) (s : St) : Prop := Snd m s ∧ s.op.length ≤ sumS s
theorem Fit.op {m : Mc} {s : St} (h : Fit m s) : s.op.length ≤ 51200 := Nat.le_trans h.2 (sumS_le h.1)
theorem Fit.ent {m : Mc} (hn : m.sp.length ≤ 100) {k how : Nat} {s : St} {l : List Nat} (h : Fit m s) (hk : k < m.sp.length) (hl : ∀ j ∈ l, j < m.sp.length ∧ Q2 m (hw m how k j) k j) : Fit m (entA m k how s l) := by
  have h1 := entA_ln hn m (how := how) hk l s (fun j hj => (hl j hj).1)
  have h2 := h1.len
  have h3 := h.2
  exact ⟨entA_snd l s h.1 (fun j hj => (hl j hj).2), by omega⟩
/-- What enter is handed: any j that it goes to. -/
def Ok2 (m : Mc) (k how next : Nat) : Prop := ∀ j ∈ listN (next &&& mtN m k), j < m.sp.length ∧ Q2 m (hw m how k j) k j
theorem ok_first {m : Mc} {k : Nat} (hk : (grp m.fi).testBit k = true) : Ok2 m k 1 (grp m.fi) := fun j hj => by
  obtain ⟨-, h2⟩ := (mem_listN _ _).1 hj
  rw [Nat.testBit_and, Bool.and_eq_true] at h2
  obtain ⟨h3, c, c1, c2⟩ := mt_iff.1 h2.2
  exact ⟨h3, .one hk h2.1 c1 c2⟩
theorem ok_more {m : Mc} {a b k how : Nat} (hq : Q2 m how a b) (hk : (foN m a).testBit k = true) : Ok2 m k how (foN m b) := fun j hj => by
  obtain ⟨-, h2⟩ := (mem_listN _ _).1 hj
  rw [Nat.testBit_and, Bool.and_eq_true] at h2
  obtain ⟨h3, c, c1, c2⟩ := mt_iff.1 h2.2
  exact ⟨h3, .more hq hk h2.1 c1 c2⟩
theorem Fit.entP {m : Mc} (hn : m.sp.length ≤ 100) {k how next : Nat} {s : St} (h : Fit m s) (hk : k < m.sp.length) (hl : Ok2 m k how next) : Fit m (entP m k how next s) := h.ent hn hk hl
theorem Fit.goS {m : Mc} (hn : m.sp.length ≤ 100) {a b k how : Nat} {s : St} (h : Fit m s) (hq : Q2 m how a b) (hk : (foN m a).testBit k = true) (hkl : k < m.sp.length) : Fit m (goS m b how s k) := by
  unfold Fs.goS
  split
  · exact Fit.entP hn ⟨⟨h.1.b, h.1.o⟩, h.2⟩ hkl (ok_more hq hk)
  · exact h
theorem entA_snoc (m : Mc) (k how : Nat) (s : St) (l : List Nat) (j : Nat) (h : j < l.length) : entA m k how s (l.take (j + 1)) = entS m k how (entA m k how s (l.take j)) (l.getD j 0) := by
  unfold entA
  rw [List.take_succ_eq_append_getElem h, List.foldl_append, List.getD_eq_getElem?_getD, List.getElem?_eq_getElem h]; rfl
theorem goP_snoc (m : Mc) (b how : Nat) (s : St) (l : List Nat) (j : Nat) (h : j < l.length) : goP m b how s (l.take (j + 1)) = goS m b how (goP m b how s (l.take j)) (l.getD j 0) := by
  unfold goP
  rw [List.take_succ_eq_append_getElem h, List.foldl_append, List.getD_eq_getElem?_getD, List.getElem?_eq_getElem h]; rfl
theorem begL_snoc (m : Mc) (s : St) (l : List Nat) (j : Nat) (h : j < l.length) : begL m s (l.take (j + 1)) = entP m (l.getD j 0) 1 (grp m.fi) (begL m s (l.take j)) := by
  unfold begL
  rw [List.take_succ_eq_append_getElem h, List.foldl_append, List.getD_eq_getElem?_getD, List.getElem?_eq_getElem h]; rfl
end Fs
end Go.Proofs.YtghbgfkkdknmnaaDoor
namespace Go.Proofs.YtghbgfkkdknmnaaDoor
open Go.RowKit Sets Nf
namespace Ft
theorem lea_step {g : Nat} {l : List Int} {j : Nat} (h : j < l.length) : lea g (l.drop j) = if g.testBit (l.getD j 0).toNat then some (l.getD j 0).toNat else lea g (l.drop (j + 1)) := by
  rw [List.drop_eq_getElem_cons h, List.getD_eq_getElem?_getD, List.getElem?_eq_getElem h]; rfl
theorem u8_of (k : Int) (h0 : 0 ≤ k) (h : k < 256) : IntKind.u8.wrap k = k := by
  simp [IntKind.wrap, IntKind.bits, IntKind.signed]
  omega
/-- What least tells. -/
def leaV : Option Nat → Value
  | none => .tuple #[.int .i64 0, .bool false]
  | some k => .tuple #[.int .i64 k, .bool true]
set_option maxHeartbeats 3200000 in
set_option maxRecDepth 100000 in
theorem fleast_any (a : Option Addr) (cap : Nat) (l : List Int) (g : Nat) (w : World) (h : NumsIn w a l) (hl : l.length ≤ 1000) (hn : ∀ k ∈ l, 0 ≤ k ∧ k < 256) :
    Calls Tryd.prog 26 #[.slice a l.length cap, .agg (setC g)] w fun e w' => e = .returned (leaV (lea g l)) ∧ Below w.heap.size w w' := by
  have HN := Lib.hid h
  have HL := Lib.hid hl
  have HK := Lib.hid hn
  clear h hl hn
  go_enter Tryd.func26, Tryd.ntmps26
  go_upto_region 1 with fail
  have HS0 := Lib.hid (SetB.new w g)
  have HB0 := Lib.hid ((Below.refl w.heap.size w).alloc (Nat.le_refl _) (.cells (setC g) 41))
  obtain ⟨s, hs⟩ : ∃ s, Hid (w.heap.size = s) := ⟨_, Lib.hid rfl⟩
  rw [hs.out] at HS0 ⊢
  generalize w.alloc (.cells (setC g) 41) = w1 at *
  go_wp2_with fail
  go_loopw [10] (fun i wr => ∃ j : Nat, i = .int .i64 j ∧ j ≤ l.length ∧ Hid (lea g l = lea g (l.drop j)) ∧ Hid (SetB wr s g) ∧ Hid (Below w.heap.size w wr)) (fun i _ => ((l.length : Int) - intOf i).toNat)
  case atStart => exact ⟨0, rfl, Nat.zero_le _, Lib.hid rfl, HS0, HB0⟩
  case round =>
    obtain ⟨j, rfl, hj, HE, HS, HB⟩ := hrel
    generalize hwr : wr = w2 at *
    clear hwr wr HS0 HB0 w1
    have HN2 := Lib.hid (HN.out.kept HB.out)
    by_cases hlt : j < l.length
    · have hdd : decide ((j : Int) < (l.length : Int)) = true := decide_eq_true (by omega)
      have hd2 : decide (j < l.length) = true := decide_eq_true hlt
      have hji : (j : Int) < (l.length : Int) := by omega
      obtain ⟨b, o, rfl, hc⟩ := HN2.out j hlt
      have HX := Lib.hid (HK.out _ (getD_mem (d := 0) hlt))
      have HST := Lib.hid (lea_step (g := g) hlt)
      have HW1 : Hid (wrap64 ((j : Int) + 1) = ((j + 1 : Nat) : Int)) := Lib.hid (nat_wrap (by have := HL.out; omega))
      have HJ := Lib.hid hlt
      generalize l.getD j 0 = k at *
      have hwr := u8_of k HX.out.1 HX.out.2
      have HH := Lib.hid (has_any g k w2 HX.out.1 (by have := HX.out.2; omega))
      generalize hbt : g.testBit k.toNat = bt at *
      clear hlt
      cases bt
      · go_wp2_with (first
          | (refine wpList_load_set rfl (.tmp 3) rfl s g rfl HS.out ?_)
          | (go_at_call 54; refine HH.out.mono ?_; rintro e w3 ⟨rfl, hb3⟩; have HB3 := Lib.hid hb3; clear hb3))
        go_roundw
        case rel => exact ⟨j + 1, by rw [HW1.out], HJ.out, Lib.hid (by rw [HE.out, HST.out]; simp), Lib.hid (HS.out.stay HB3.out), Lib.hid (HB.out.trans (HB3.out.mono HB.out.size))⟩
        case measure => rw [HW1.out]; exact meas9 HJ.out
      · have HR : Hid (lea g l = some k.toNat) := Lib.hid (by rw [HE.out, HST.out]; simp)
        have HKN : Hid (((k.toNat : Nat) : Int) = k) := Lib.hid (Int.toNat_of_nonneg HX.out.1)
        go_wp2_with (first
          | (refine wpList_load_set rfl (.tmp 3) rfl s g rfl HS.out ?_)
          | (go_at_call 54; refine HH.out.mono ?_; rintro e w3 ⟨rfl, hb3⟩; have HB3 := Lib.hid hb3; clear hb3))
        go_ret2
        refine ⟨?_, HB.out.trans (HB3.out.mono HB.out.size)⟩
        rw [HR.out]
        show _ = Ending.returned (.tuple #[.int .i64 ((k.toNat : Nat) : Int), .bool true])
        rw [HKN.out]
        rfl
    · have hdd : decide ((j : Int) < (l.length : Int)) = false := decide_eq_false (by omega)
      have hd2 : decide (j < l.length) = false := decide_eq_false hlt
      have HR : Hid (lea g l = none) := Lib.hid (by rw [HE.out, List.drop_eq_nil_of_le (by omega)]; rfl)
      go_wp2_with fail
      go_ret2
      exact ⟨by rw [HR.out]; rfl, HB.out⟩
/-- One spot k into the sets of those in its list. -/
def tuS (G : List Nat) (k : Nat) (l : List Int) : List Nat := l.foldl (fun G j => G.set j.toNat (G.getD j.toNat 0 ||| 2 ^ k)) G
theorem tuS_snoc (G : List Nat) (k : Nat) (l : List Int) (i : Nat) (h : i < l.length) : tuS G k (l.take (i + 1)) = (tuS G k (l.take i)).set (l.getD i 0).toNat ((tuS G k (l.take i)).getD (l.getD i 0).toNat 0 ||| 2 ^ k) := by
  unfold tuS
  rw [List.take_succ_eq_append_getElem h, List.foldl_append, List.getD_eq_getElem?_getD, List.getElem?_eq_getElem h]; rfl
theorem tuS_len (G : List Nat) (k : Nat) (l : List Int) : (tuS G k l).length = G.length := by
  unfold tuS
  induction l generalizing G with
  | nil => rfl
  | cons a l ih => rw [List.foldl_cons, ih, List.length_set]
theorem set_or (G : List Nat) (i k j : Nat) (hi : i < G.length) : (G.set i (G.getD i 0 ||| 2 ^ k)).getD j 0 = if j = i then G.getD j 0 ||| 2 ^ k else G.getD j 0 := by
  rw [List.getD_eq_getElem?_getD, List.getElem?_set]
  by_cases e : i = j
  · subst e; rw [if_pos rfl, if_pos hi, if_pos rfl]; rfl
  · rw [if_neg e, if_neg (fun x => e x.symm), List.getD_eq_getElem?_getD]
theorem tuS_bit (k : Nat) : ∀ (l : List Int) (G : List Nat), (∀ x ∈ l, x.toNat < G.length) → ∀ j q, ((tuS G k l).getD j 0).testBit q = true ↔ (G.getD j 0).testBit q = true ∨ (q = k ∧ j ∈ l.map Int.toNat)
  | [], G, _, j, q => by simp [tuS]
  | a :: l, G, h, j, q => by
    have ha := h a (List.mem_cons_self ..)
    show ((tuS (G.set a.toNat (G.getD a.toNat 0 ||| 2 ^ k)) k l).getD j 0).testBit q = true ↔ _
    rw [tuS_bit k l _ (fun x hx => by rw [List.length_set]; exact h x (List.mem_cons_of_mem _ hx)), set_or G _ k j ha, List.map_cons, List.mem_cons]
    by_cases e : j = a.toNat
    · rw [if_pos e, Nat.testBit_or, Bool.or_eq_true, Nat.testBit_two_pow, decide_eq_true_eq]
      constructor
      · rintro ((h1 | h1) | h1)
        · exact .inl h1
        · exact .inr ⟨h1.symm, .inl e⟩
        · exact .inr ⟨h1.1, .inr h1.2⟩
      · rintro (h1 | ⟨h1, -⟩)
        · exact .inl (.inl h1)
        · exact .inl (.inr h1.symm)
    · rw [if_neg e]
      constructor
      · rintro (h1 | h1)
        · exact .inl h1
        · exact .inr ⟨h1.1, .inr h1.2⟩
      · rintro (h1 | ⟨h1, h2⟩)
        · exact .inl h1
        · exact .inr ⟨h1, h2.resolve_left e⟩
def tuR (L : List (List Int)) : Nat → List Nat
  | 0 => List.replicate L.length 0
  | k + 1 => tuS (tuR L k) k (L.getD k [])
theorem tuR_len (L : List (List Int)) : ∀ k, (tuR L k).length = L.length
  | 0 => List.length_replicate
  | k + 1 => (tuS_len _ _ _).trans (tuR_len L k)
theorem tuR_bit (L : List (List Int)) (h : ∀ l ∈ L, ∀ x ∈ l, x.toNat < L.length) : ∀ k, k ≤ L.length → ∀ j q, ((tuR L k).getD j 0).testBit q = true ↔ q < k ∧ (grp (L.getD q [])).testBit j = true
  | 0, _, j, q => by
    show ((List.replicate L.length 0).getD j 0).testBit q = true ↔ _
    have : (List.replicate L.length 0).getD j 0 = 0 := by
      rw [List.getD_eq_getElem?_getD, List.getElem?_replicate]
      split <;> rfl
    rw [this, Nat.zero_testBit]
    simp
  | k + 1, hk, j, q => by
    show ((tuS (tuR L k) k (L.getD k [])).getD j 0).testBit q = true ↔ _
    rw [tuS_bit k _ _ (fun x hx => by rw [tuR_len]; exact h _ (getD_mem (d := []) hk) x hx), tuR_bit L h k (by omega)]
    constructor
    · rintro (⟨h1, h2⟩ | ⟨rfl, h2⟩)
      · exact ⟨by omega, h2⟩
      · exact ⟨by omega, by unfold grp; rw [ofN_testBit, List.contains_iff_mem]; exact h2⟩
    · rintro ⟨h1, h2⟩
      by_cases e : q = k
      · subst e
        refine .inr ⟨rfl, ?_⟩
        unfold grp at h2
        rwa [ofN_testBit, List.contains_iff_mem] at h2
      · exact .inl ⟨by omega, h2⟩
theorem tuR_tuL {m : Mc} (h : Rt m) : tuR m.fo m.fo.length = tuL m := by
  refine List.ext_getElem (by rw [tuR_len, tuL_len]) (fun j h1 h2 => ?_)
  rw [tuL_len] at h2
  have hb : ∀ l ∈ m.fo, ∀ x ∈ l, x.toNat < m.fo.length := fun l hl x hx => by
    have := (rise_up (h.foR l hl)).2 x hx
    rw [h.fol]; omega
  have e1 : (tuR m.fo m.fo.length)[j] = (tuR m.fo m.fo.length).getD j 0 := by rw [List.getD_eq_getElem?_getD, List.getElem?_eq_getElem h1]; rfl
  have e2 : (tuL m)[j] = (tuL m).getD j 0 := by rw [List.getD_eq_getElem?_getD, List.getElem?_eq_getElem]; rfl
  rw [e1, e2, tuL_get m j h2]
  refine Nat.eq_of_testBit_eq fun q => ?_
  rw [Bool.eq_iff_iff, tuR_bit m.fo hb _ (Nat.le_refl _), tu_bit]
  rfl
set_option maxHeartbeats 6400000 in
set_option maxRecDepth 100000 in
theorem fturned_any (a : Option Addr) (cap : Nat) (L : List (List Int)) (w : World) (h : ListsIn w a L) (hl : L.length ≤ 250) (hn : ∀ l ∈ L, l.length ≤ 1000 ∧ ∀ k ∈ l, 0 ≤ k ∧ k < (L.length : Int)) :
    Calls Tryd.prog 50 #[.slice a L.length cap] w fun e w' => ∃ g, e = .returned (.slice (some ⟨g, 0, none⟩) L.length L.length) ∧ GsB w' g (tuR L L.length) ∧ w.heap.size ≤ g ∧ Below w.heap.size w w' := by
  have HN := Lib.hid h
  have HL := Lib.hid hl
  have HK := Lib.hid hn
  clear h hn hl
  go_enter Tryd.func50, Tryd.ntmps50
  go_upto_region 2 with (refine wpList_make_sets rfl (.tmp 9) (.tmp 9) rfl L.length rfl rfl (by have := HL.out; omega) ?_)
  have HG : Hid (GsB _ w.heap.size (tuR L 0)) := Lib.hid (GsB.new w L.length)
  have HB := Lib.hid ((Below.refl w.heap.size w).alloc (Nat.le_refl _) (.cells (madeCells #[.int .u64 0, .int .u64 0, .int .u64 0, .int .u64 0] (L.length * 4)) 41))
  generalize w.alloc (.cells (madeCells #[.int .u64 0, .int .u64 0, .int .u64 0, .int .u64 0] (L.length * 4)) 41) = w1 at *
  obtain ⟨g, hg⟩ : ∃ g, Hid (w.heap.size = g) := ⟨_, Lib.hid rfl⟩
  rw [hg.out] at HG ⊢
  go_wp2_with fail
  go_loopw [13] (fun i wr => ∃ j : Nat, i = .int .i64 j ∧ j ≤ L.length ∧ Hid (GsB wr g (tuR L j)) ∧ Hid (Below w.heap.size w wr)) (fun i _ => ((L.length : Int) - intOf i).toNat)
  case atStart => exact ⟨0, rfl, Nat.zero_le _, HG, HB⟩
  case round =>
    obtain ⟨j, rfl, hj, HG2, HB2⟩ := hrel
    generalize hwr : wr = w2 at *
    clear hwr wr HG HB w1
    by_cases hlt : j < L.length
    · have hdd : decide ((j : Int) < (L.length : Int)) = true := decide_eq_true (by omega)
      have hd2 : decide (j < L.length) = true := decide_eq_true hlt
      have hjL : (j : Int) < (L.length : Int) := by omega
      obtain ⟨b, o, x, c, rfl, hc, hn⟩ := HN.out.kept HB2.out j hlt
      have HX := Lib.hid (HK.out _ (getD_mem (d := []) hlt))
      have HW1 : Hid (wrap64 ((j : Int) + 1) = ((j + 1 : Nat) : Int)) := Lib.hid (nat_wrap (by have := HL.out; omega))
      have HTR : Hid (tuR L (j + 1) = tuS (tuR L j) j (L.getD j [])) := Lib.hid rfl
      have HJ := Lib.hid hlt
      have HN3 : Hid (∀ W, Below w.heap.size w W → NumsIn W x (L.getD j [])) := Lib.hid (fun W hb => by
        obtain ⟨b', o', x', c', e1, h1, h2⟩ := HN.out j hlt
        injection e1 with e1
        injection e1 with e1 e2
        subst e1; subst e2
        have := (HB2.out.cell (World.block_lt_of_cell? _ _ h1)).trans h1
        rw [hc] at this
        injection this with this
        injection this with this
        subst this
        exact h2.kept hb)
      have HGL := Lib.hid (tuR_len L j)
      generalize L.getD j [] = l at *
      generalize tuR L j = G at *
      clear hn hlt
      have HGL2 := Lib.hid HX.out.1
      go_upto_region 5 with fail
      go_upto_region 6 with fail
      go_loopw [20] (fun i wr => ∃ q : Nat, i = .int .i64 q ∧ q ≤ l.length ∧ Hid (GsB wr g (tuS G j (l.take q))) ∧ Hid (Below w.heap.size w wr)) (fun i _ => ((l.length : Int) - intOf i).toNat)
      case atStart => exact ⟨0, rfl, Nat.zero_le _, HG2, HB2⟩
      case round =>
        obtain ⟨q, rfl, hq, HG3, HB3⟩ := hrel
        generalize hwr : wr = w3 at *
        clear hwr wr HG2 HB2 hc
        by_cases hlq : q < l.length
        · have he1 : decide ((q : Int) < (l.length : Int)) = true := decide_eq_true (by omega)
          have he2 : decide (q < l.length) = true := decide_eq_true hlq
          have hqi : (q : Int) < (l.length : Int) := by omega
          obtain ⟨b2, o2, rfl, hc2⟩ := HN3.out w3 HB3.out q hlq
          have HX2 := Lib.hid (HX.out.2 _ (getD_mem (d := 0) hlq))
          have HW2 : Hid (wrap64 ((q : Int) + 1) = ((q + 1 : Nat) : Int)) := Lib.hid (nat_wrap (by have := HGL2.out; omega))
          have HTS := Lib.hid (tuS_snoc G j l q hlq)
          have HTL := Lib.hid (tuS_len G j (l.take q))
          have HQ := Lib.hid hlq
          obtain ⟨y, hy⟩ : ∃ y : Nat, l.getD q 0 = (y : Int) := ⟨(l.getD q 0).toNat, by have := HX2.out.1; omega⟩
          have HYL : Hid (y < L.length) := Lib.hid (by have := HX2.out.2; rw [hy] at this; omega)
          rw [hy, Int.toNat_natCast] at HTS
          rw [hy] at hc2
          have hyi : (y : Int) < (L.length : Int) := by have := HYL.out; omega
          generalize tuS G j (l.take q) = G3 at *
          have HA := Lib.hid (fadd_at g y j G3 w3 HG3.out (by rw [HTL.out, HGL.out]; exact HYL.out) (by have := HL.out; have := HJ.out; omega))
          clear hlq hy
          go_wp2_with (go_at_call 66; refine HA.out.mono ?_; rintro e w4 ⟨⟨v, rfl⟩, hs4, hb4⟩; have HS4 := Lib.hid hs4; have HB4 := Lib.hid hb4; clear hs4 hb4)
          go_roundw
          case rel => exact ⟨q + 1, by rw [HW2.out], HQ.out, Lib.hid (by rw [HTS.out]; exact HS4.out), Lib.hid (But.below HB3.out HB4.out (by have := hg.out; omega) HB3.out.size)⟩
          case measure => rw [HW2.out]; exact meas9 HQ.out
        · have he1 : decide ((q : Int) < (l.length : Int)) = false := decide_eq_false (by omega)
          have he2 : decide (q < l.length) = false := decide_eq_false hlq
          have HTF : Hid (tuS G j (l.take q) = tuR L (j + 1)) := Lib.hid (by rw [HTR.out, List.take_of_length_le (by omega)])
          rw [HTF.out] at HG3
          go_wp2_with fail
          go_roundw
          case rel => exact ⟨j + 1, by rw [HW1.out], HJ.out, HG3, HB3⟩
          case measure => rw [HW1.out]; exact meas9 HJ.out
    · have hdd : decide ((j : Int) < (L.length : Int)) = false := decide_eq_false (by omega)
      have hd2 : decide (j < L.length) = false := decide_eq_false hlt
      have HE : Hid (j = L.length) := Lib.hid (by omega)
      rw [HE.out] at HG2
      go_wp2_with fail
      go_ret
      exact ⟨g, rfl, HG2.out, Nat.le_of_eq hg.out, HB2.out⟩
/-- The spots among the first i that share a byte with q. -/
def mtF (L : List (Nat × Nat)) (q i : Nat) : Nat := ofN ((List.range i).filter fun j => decide ((L.getD q (0, 0)).1 &&& (L.getD j (0, 0)).1 ≠ 0))
theorem mtF_succ (L : List (Nat × Nat)) (q i : Nat) : mtF L q (i + 1) = if (L.getD q (0, 0)).1 &&& (L.getD i (0, 0)).1 ≠ 0 then mtF L q i ||| 2 ^ i else mtF L q i := by
  unfold mtF
  rw [List.range_succ, List.filter_append, List.filter_cons]
  by_cases h : (L.getD q (0, 0)).1 &&& (L.getD i (0, 0)).1 ≠ 0
  · rw [if_pos (by exact decide_eq_true h), if_pos h, List.filter_nil, ofN_snoc]
  · rw [if_neg (by rw [decide_eq_false h]; decide), if_neg h, List.filter_nil, List.append_nil]
def mtR (L : List (Nat × Nat)) (k i : Nat) : List Nat := (List.range L.length).map fun q => if q < k then mtF L q L.length else if q = k then mtF L q i else 0
theorem mtR_len (L : List (Nat × Nat)) (k i : Nat) : (mtR L k i).length = L.length := by unfold mtR; simp
theorem mtR_get (L : List (Nat × Nat)) (k i q : Nat) (h : q < L.length) : (mtR L k i).getD q 0 = if q < k then mtF L q L.length else if q = k then mtF L q i else 0 := by
  unfold mtR
  rw [List.getD_eq_getElem?_getD, List.getElem?_map, List.getElem?_range h]; rfl
theorem mtR_start (L : List (Nat × Nat)) : mtR L 0 0 = List.replicate L.length 0 := by
  refine List.ext_getElem (by rw [mtR_len, List.length_replicate]) (fun q h1 h2 => ?_)
  rw [mtR_len] at h1
  have e := mtR_get L 0 0 q h1
  rw [List.getD_eq_getElem?_getD, List.getElem?_eq_getElem (by rw [mtR_len]; exact h1), Option.getD_some] at e
  rw [e, List.getElem_replicate, if_neg (Nat.not_lt_zero _)]
  split <;> rfl
theorem mtR_next (L : List (Nat × Nat)) (k : Nat) : mtR L k L.length = mtR L (k + 1) 0 := by
  unfold mtR
  refine List.map_congr_left (fun q _ => ?_)
  rcases Nat.lt_trichotomy q k with h | h | h
  · rw [if_pos h, if_pos (by omega)]
  · rw [if_neg (by omega), if_pos h, if_pos (by omega)]
  · rw [if_neg (by omega), if_neg (by omega), if_neg (by omega)]
    split <;> rfl
theorem mtR_set (L : List (Nat × Nat)) (k i : Nat) (hk : k < L.length) (h : (L.getD k (0, 0)).1 &&& (L.getD i (0, 0)).1 ≠ 0) : (mtR L k i).set k ((mtR L k i).getD k 0 ||| 2 ^ i) = mtR L k (i + 1) := by
  refine List.ext_getElem (by rw [List.length_set, mtR_len, mtR_len]) (fun q h1 h2 => ?_)
  rw [mtR_len] at h2
  have e := mtR_get L k (i + 1) q h2
  have e0 := mtR_get L k i q h2
  rw [List.getD_eq_getElem?_getD, List.getElem?_eq_getElem (by rw [mtR_len]; exact h2), Option.getD_some] at e e0
  rw [e, List.getElem_set]
  by_cases hq : k = q
  · subst hq
    rw [if_pos rfl, if_neg (Nat.lt_irrefl k), if_pos rfl, mtF_succ, if_pos h, mtR_get L k i k hk, if_neg (Nat.lt_irrefl k), if_pos rfl]
  · rw [if_neg hq, e0]
    split
    · rfl
    · rw [if_neg (fun x => hq x.symm), if_neg (fun x => hq x.symm)]
theorem mtR_same (L : List (Nat × Nat)) (k i : Nat) (h : ¬ (L.getD k (0, 0)).1 &&& (L.getD i (0, 0)).1 ≠ 0) : mtR L k i = mtR L k (i + 1) := by
  unfold mtR
  refine List.map_congr_left (fun q _ => ?_)
  by_cases hq : q = k
  · subst hq
    rw [if_neg (Nat.lt_irrefl q), if_pos rfl, if_neg (Nat.lt_irrefl q), if_pos rfl, mtF_succ, if_neg h]
  · rw [if_neg hq, if_neg hq]
theorem mtR_mtN (m : Mc) (q : Nat) (h : q < m.sp.length) : (mtR m.sp m.sp.length 0).getD q 0 = Fs.mtN m q := by
  rw [mtR_get _ _ _ _ h, if_pos h]; rfl
end Ft
end Go.Proofs.YtghbgfkkdknmnaaDoor
namespace Go.Proofs.YtghbgfkkdknmnaaDoor
open Go.RowKit Sets Nf Fs
namespace Ft
section
variable {σ : Type} [DecidableEq σ]
/-- The place of s in l; as long as l, if it is not there. -/
def ix : List σ → σ → Nat
  | [], _ => 0
  | x :: l, s => if x = s then 0 else ix l s + 1
theorem ix_lt : ∀ {L : List σ} {s : σ}, s ∈ L → ix L s < L.length
  | x :: l, s, h => by
    unfold ix
    by_cases e : x = s
    · rw [if_pos e]; simp
    · rw [if_neg e]
      have := ix_lt (L := l) (s := s) (by rcases List.mem_cons.1 h with h | h; exact absurd h.symm e; exact h)
      simp; exact this
theorem ix_out : ∀ {L : List σ} {s : σ}, s ∉ L → ix L s = L.length
  | [], _, _ => rfl
  | x :: l, s, h => by
    unfold ix
    rw [if_neg (fun e => h (by rw [e]; exact List.mem_cons_self ..)), ix_out (fun hm => h (List.mem_cons_of_mem _ hm))]; rfl
theorem ix_le (L : List σ) (s : σ) : ix L s ≤ L.length := by
  by_cases h : s ∈ L
  · exact Nat.le_of_lt (ix_lt h)
  · rw [ix_out h]; exact Nat.le_refl _
theorem ix_get : ∀ {L : List σ} {s : σ}, s ∈ L → L[ix L s]? = some s
  | x :: l, s, h => by
    unfold ix
    by_cases e : x = s
    · rw [if_pos e, e]; rfl
    · rw [if_neg e, List.getElem?_cons_succ]
      exact ix_get (by rcases List.mem_cons.1 h with h | h; exact absurd h.symm e; exact h)
theorem ix_app : ∀ {L : List σ} {s : σ} (M : List σ), s ∈ L → ix (L ++ M) s = ix L s
  | x :: l, s, M, h => by
    rw [List.cons_append]
    unfold ix
    by_cases e : x = s
    · rw [if_pos e, if_pos e]
    · rw [if_neg e, if_neg e, ix_app M (by rcases List.mem_cons.1 h with h | h; exact absurd h.symm e; exact h)]
theorem ix_at : ∀ {L : List σ} {i : Nat} {s : σ}, L.Nodup → L[i]? = some s → ix L s = i
  | x :: l, 0, s, _, h => by
    simp at h; subst h; unfold ix; rw [if_pos rfl]
  | x :: l, i + 1, s, hn, h => by
    rw [List.getElem?_cons_succ] at h
    have hm : s ∈ l := List.mem_of_getElem? h
    have hne : x ≠ s := fun e => (List.nodup_cons.1 hn).1 (e ▸ hm)
    unfold ix
    rw [if_neg hne, ix_at (List.nodup_cons.1 hn).2 h]
end
def prC (p : Pr) : Array Value := #[.int .i64 (p.1 : Nat), .int .i64 (p.2 : Nat)]
theorem pr_eq (p q : Pr) : ((((p.1 : Nat) : Int) == ((q.1 : Nat) : Int)) && (((p.2 : Nat) : Int) == ((q.2 : Nat) : Int))) = decide (p = q) := by
  obtain ⟨a, b⟩ := p
  obtain ⟨c, d⟩ := q
  rw [Bool.eq_iff_iff, decide_eq_true_iff]
  simp only [Bool.and_eq_true, beq_iff_eq, Prod.mk.injEq]
  omega
theorem eqPr (a b a' b' : Int) (w : World) : (Op.equal 62 (.agg #[.int .i64 a, .int .i64 b]) (.agg #[.int .i64 a', .int .i64 b'])).run Tryd.prog w = .ok (a == a' && b == b') w := by
  have u3 := Tryd.underlying3
  have a3 := Tryd.isAgg3
  have z3 := Tryd.sizeOf3
  unfold Op.equal Op.maxDepth
  rw [show (10000 : Nat) = 9999 + 1 from rfl, Op.equalIn]
  simp only [Sem.run_bind, run_underlying Tryd.underlying62, Result.andThen_ok]
  simp only [Std.Legacy.Range.forIn_eq_forIn_range', Std.Legacy.Range.size, Nat.sub_zero, Nat.add_sub_cancel, Nat.div_one, List.range'_succ, List.range'_zero, List.forIn_cons, List.forIn_nil]
  go_simp
  by_cases h1 : a = a' <;> by_cases h2 : b = b' <;> simp [h1, h2]
theorem eqK (p q : Pr) (w : World) : (Op.equal 62 (.agg (prC p)) (.agg (prC q))).run Tryd.prog w = .ok (decide (p = q)) w := by
  rw [← pr_eq]
  exact eqPr _ _ _ _ w
def entQ (T : Pr → Nat) : Nat → List Pr → List MapEntry
  | _, [] => []
  | i, k :: l => { key := .agg (prC k), val := .int .i64 (T k : Nat), born := i } :: entQ T (i + 1) l
theorem entQ_length (T : Pr → Nat) : ∀ (l : List Pr) (i : Nat), (entQ T i l).length = l.length
  | [], _ => rfl
  | _ :: l, i => by simp [entQ, entQ_length T l (i + 1)]
theorem entQ_snoc (T : Pr → Nat) (k : Pr) : ∀ (l : List Pr) (i : Nat), entQ T i (l ++ [k]) = entQ T i l ++ [{ key := .agg (prC k), val := .int .i64 (T k : Nat), born := i + l.length }]
  | [], i => by simp [entQ]
  | a :: l, i => by
    simp only [List.cons_append, entQ, entQ_snoc T k l (i + 1), List.length_cons]
    rw [show i + 1 + l.length = i + (l.length + 1) from by omega]
theorem entQ_congr {T T' : Pr → Nat} : ∀ (l : List Pr) (i : Nat), (∀ k ∈ l, T k = T' k) → entQ T i l = entQ T' i l
  | [], _, _ => rfl
  | k :: l, i, h => by
    simp only [entQ]
    rw [h k (List.mem_cons_self ..), entQ_congr l (i + 1) (fun x hx => h x (List.mem_cons_of_mem _ hx))]
theorem entQ_get (T : Pr → Nat) : ∀ (l : List Pr) (i j : Nat), j < l.length → (entQ T i l)[j]? = some { key := .agg (prC (l.getD j (0, 0))), val := .int .i64 (T (l.getD j (0, 0)) : Nat), born := i + j }
  | [], _, _, h => absurd h (Nat.not_lt_zero _)
  | k :: l, i, 0, _ => by simp [entQ]
  | k :: l, i, j + 1, h => by
    simp only [entQ, List.getElem?_cons_succ]
    rw [entQ_get T l (i + 1) j (by simpa using h), show i + 1 + j = i + (j + 1) from by omega]
    rfl
theorem checkP (em : Bool) (p : Pr) (w : World) : (Instr.checkKey em 10000 62 (.agg (prC p))).run Tryd.prog w = .ok () w := by kernel_rfl
theorem find_ask (T : Pr → Nat) (k : Pr) (w : World) : ∀ (l : List Pr) (i : Nat), (Instr.findAsking 62 (.agg (prC k)) (entQ T i l) i).run Tryd.prog w = .ok (if k ∈ l then some (i + ix l k, Value.int .i64 (T k : Nat)) else none) w
  | [], i => by simp [entQ, Instr.findAsking]
  | q :: l, i => by
    simp only [entQ, Instr.findAsking, Sem.run_bind]
    rw [eqK k q w]
    simp only [Result.andThen_ok, Sem.run_ite, Sem.run_pure]
    have ih := find_ask T k w l (i + 1)
    by_cases h : k = q
    · subst h
      simp [ix]
    · rw [if_neg (by simpa using h), ih]
      have h2 : ¬ q = k := fun e => h e.symm
      have e1 : ix (q :: l) k = ix l k + 1 := by show (if q = k then 0 else ix l k + 1) = _; rw [if_neg h2]
      rw [e1]
      by_cases hm : k ∈ l
      · rw [if_pos hm, if_pos (List.mem_cons_of_mem _ hm), show i + 1 + ix l k = i + (ix l k + 1) from by omega]
      · rw [if_neg hm, if_neg (by simp [h, hm])]
theorem find_now (d : TypeDesc) (k : Pr) (T : Pr → Nat) (q : Pr) (l : List Pr) (i : Nat) : Instr.findNow d (.agg (prC k)) (entQ T i (q :: l)) i = none := by
  cases d <;> simp [entQ, Instr.findNow, Instr.sameNow]
theorem find_key (T : Pr → Nat) (k : Pr) (w : World) (l : List Pr) : (Instr.findKey 62 (.agg (prC k)) (entQ T 0 l)).run Tryd.prog w = .ok (if k ∈ l then some (ix l k, Value.int .i64 (T k : Nat)) else none) w := by
  unfold Instr.findKey
  simp only [Sem.run_bind, run_underlying Tryd.underlying62, Result.andThen_ok]
  have h := find_ask T k w l 0
  simp only [Nat.zero_add] at h
  cases l with
  | nil => simp [entQ, Instr.findNow]
  | cons q l =>
    rw [find_now]
    exact h
/-- Block g is the map of T's; what is not in it is 0. -/
structure MapP (w : World) (g : Nat) (T : Pr → Nat) : Prop where
  ex : ∃ K : List Pr, w.heap[g]? = some (.map (entQ T 0 K).toArray K.length) ∧ K.Nodup ∧ ∀ p, p ∉ K → T p = 0
theorem MapP.lt {w : World} {g : Nat} {T : Pr → Nat} (h : MapP w g T) : g < w.heap.size := by
  obtain ⟨K, h1, -⟩ := h.ex
  exact (Array.getElem?_eq_some_iff.1 h1).1
theorem MapP.of {w w' : World} {g : Nat} {T : Pr → Nat} (h : MapP w g T) (e : w'.heap[g]? = w.heap[g]?) : MapP w' g T := by
  obtain ⟨K, h1, h2⟩ := h.ex
  exact ⟨K, e.trans h1, h2⟩
theorem MapP.stay {w w' : World} {g : Nat} {T : Pr → Nat} (h : MapP w g T) (hb : Below w.heap.size w w') : MapP w' g T := h.of (hb.block _ h.lt)
theorem MapP.no_cells {w : World} {g : Nat} {T : Pr → Nat} (h : MapP w g T) {c : Array Value} {t : TypeId} {z : Nat × Nat} : w.heap[g]? ≠ some (.cells c t z) := fun e => by
  obtain ⟨K, h1, -⟩ := h.ex
  rw [h1] at e; cases e
theorem MapP.made (w : World) : MapP (w.alloc (.map #[] 0)) w.heap.size (fun _ => 0) := ⟨[], heap_alloc_new w _, List.nodup_nil, fun _ _ => rfl⟩
theorem zeroI14 (w : World) : (zeroValue 3).run Tryd.prog w = .ok (.int .i64 0) w := by kernel_rfl
theorem MapP.look {w : World} {g : Nat} {T : Pr → Nat} (h : MapP w g T) (k : Pr) :
    (Instr.lookup 57 (.map (some g)) (.agg (prC k)) false).run Tryd.prog w = .ok (.int .i64 (T k : Nat)) w := by
  obtain ⟨K, h1, h2, h3⟩ := h.ex
  unfold Instr.lookup
  have hc := fun em => checkP em k w
  have hf := find_key T k w K
  have hz := zeroI14 w
  have hg : (getObj g).run Tryd.prog w = .ok (.map (entQ T 0 K).toArray K.length) w := MapKept.run_getObj_map h1
  simp only [Sem.run_bind, run_underlying Tryd.underlying57, Result.andThen_ok, hg, Sem.run_pure, hc, hf]
  by_cases hm : k ∈ K
  · simp [hm]
  · have h0 := h3 k hm
    simp [hm, h0, hz]
theorem ix_getD {l : List Pr} {k : Pr} (h : k ∈ l) : l.getD (ix l k) (0, 0) = k := by
  have := ix_get h
  rw [List.getD_eq_getElem?_getD, this]; rfl
theorem entQ_modify (T : Pr → Nat) (k : Pr) (v : Nat) {l : List Pr} (hn : l.Nodup) (h : k ∈ l) :
    (entQ T 0 l).toArray.modify (ix l k) (fun e => { e with key := .agg (prC k), val := .int .i64 (v : Nat) }) = (entQ (upd T k v) 0 l).toArray := by
  refine Array.ext_getElem? fun i => ?_
  rw [Array.getElem?_modify, List.getElem?_toArray, List.getElem?_toArray]
  by_cases hi : i < l.length
  · rw [entQ_get _ _ _ _ hi, entQ_get _ _ _ _ hi]
    by_cases e : ix l k = i
    · rw [if_pos e, Option.map_some]
      subst e
      rw [ix_getD h, upd_self]
    · rw [if_neg e]
      have : ¬ l.getD i (0, 0) = k := fun e2 => e (by
        refine ix_at hn ?_
        rw [← e2, List.getD_eq_getElem?_getD, List.getElem?_eq_getElem hi]; rfl)
      rw [upd_ne _ _ this]
  · rw [List.getElem?_eq_none (by rw [entQ_length]; omega), List.getElem?_eq_none (by rw [entQ_length]; omega)]
    split <;> rfl
theorem MapP.put {W : World} {g : Nat} {T : Pr → Nat} (h : MapP W g T) (k : Pr) (v : Nat) :
    ∃ W', (Instr.mapUpdate 57 (.map (some g)) (.agg (prC k)) (.int .i64 (v : Nat))).run Tryd.prog W = .ok () W' ∧ MapP W' g (upd T k v) ∧ But g W W' := by
  obtain ⟨K, hrow, hnd, h0⟩ := h.ex
  have hc := fun em => checkP em k W
  have hf := find_key T k W K
  have hg : (getObj g).run Tryd.prog W = .ok (.map (entQ T 0 K).toArray K.length) W := MapKept.run_getObj_map hrow
  by_cases hm : k ∈ K
  · rw [if_pos hm] at hf
    refine ⟨ChangeMaps.setBlock W g (.map (entQ (upd T k v) 0 K).toArray K.length), ?_, ⟨K, ChangeMaps.heap_setBlock_same hrow _, hnd, fun p hp => ?_⟩, ⟨rfl, rfl, rfl, by simp [ChangeMaps.setBlock], fun i _ hi => ChangeMaps.heap_setBlock_other hrow _ hi⟩⟩
    · unfold Instr.mapUpdate
      have hkey : ((((entQ T 0 K).toArray[ix K k]?).map (·.key)).getD (.agg (prC k))) = .agg (prC k) := by
        rw [List.getElem?_toArray, entQ_get T K 0 _ (ix_lt hm), ix_getD hm]; rfl
      simp only [Sem.run_bind, run_underlying Tryd.underlying57, Result.andThen_ok, hg, hc, hf, hkey]
      have hst : (Instr.keyThatStays (.agg (prC k)) (.agg (prC k))).run Tryd.prog W = .ok (.agg (prC k)) W := by
        unfold Instr.keyThatStays
        simp [Instr.sameBits, prC]
      rw [hst]
      simp only [Result.andThen_ok]
      rw [entQ_modify T k v hnd hm]
      exact MapKept.run_setObj_map _ hrow
    · rw [upd_ne _ _ (fun e => hp (by rw [e]; exact hm))]
      exact h0 p hp
  · rw [if_neg hm] at hf
    refine ⟨ChangeMaps.setBlock W g (.map (entQ (upd T k v) 0 (K ++ [k])).toArray (K ++ [k]).length), ?_, ⟨K ++ [k], ChangeMaps.heap_setBlock_same hrow _, ?_, fun p hp => ?_⟩, ⟨rfl, rfl, rfl, by simp [ChangeMaps.setBlock], fun i _ hi => ChangeMaps.heap_setBlock_other hrow _ hi⟩⟩
    · unfold Instr.mapUpdate
      simp only [Sem.run_bind, run_underlying Tryd.underlying57, Result.andThen_ok, hg, hc, hf]
      rw [show (entQ T 0 K).toArray.push { key := .agg (prC k), val := .int .i64 (v : Nat), born := K.length } = (entQ (upd T k v) 0 (K ++ [k])).toArray from by
        rw [entQ_snoc, List.push_toArray, upd_self, Nat.zero_add, ← entQ_congr (T := T) (T' := upd T k v) K 0 (fun q hq => (upd_ne _ _ (fun e => hm (by rw [← e]; exact hq))).symm)]]
      rw [List.length_append, List.length_singleton]
      exact MapKept.run_setObj_map _ hrow
    · rw [List.nodup_append]
      refine ⟨hnd, by simp, fun a ha b hb => ?_⟩
      rw [List.mem_singleton] at hb
      rintro rfl
      exact hm (by rw [← hb]; exact ha)
    · have h1 : p ∉ K := fun hx => hp (List.mem_append_left _ hx)
      have h2 : p ≠ k := fun e => hp (by rw [e]; simp)
      rw [upd_ne _ _ h2]
      exact h0 p h1
end Ft
end Go.Proofs.YtghbgfkkdknmnaaDoor
