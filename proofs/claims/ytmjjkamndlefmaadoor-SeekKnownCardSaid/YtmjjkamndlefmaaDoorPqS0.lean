/- Several texts in one. -/
import Derived.Test.YtmjjkamndlefmaaDoorPq45
import Derived.Test.YtmjjkamndlefmaaDoorPqN1
namespace Go.Proofs.YtmjjkamndlefmaaDoor
open Sets Nf
namespace Sk
/-- Of one length: by the first byte that differs. -/
def lx : List Nat → List Nat → Bool
  | _, [] => false
  | [], _ :: _ => true
  | a :: x, b :: y => decide (a < b) || (decide (a = b) && lx x y)
theorem lx_cons (a b : Nat) (x y : List Nat) : lx (a :: x) (b :: y) = true ↔ a < b ∨ (a = b ∧ lx x y = true) := by
  show (decide (a < b) || (decide (a = b) && lx x y)) = true ↔ _
  rw [Bool.or_eq_true, Bool.and_eq_true, decide_eq_true_iff, decide_eq_true_iff]
theorem lx_irr : ∀ x, lx x x = false
  | [] => rfl
  | a :: x => by
    show (decide (a < a) || (decide (a = a) && lx x x)) = false
    rw [lx_irr x]; simp
theorem lx_trans : ∀ {x y z : List Nat}, lx x y = true → lx y z = true → lx x z = true
  | _, _, [], _, h => by simp [lx] at h
  | _, [], _ :: _, h, _ => by simp [lx] at h
  | [], _ :: _, _ :: _, _, _ => rfl
  | a :: x, b :: y, c :: z, h1, h2 => by
    rw [lx_cons] at h1 h2 ⊢
    rcases h1 with h1 | ⟨e1, h1⟩
    · rcases h2 with h2 | ⟨e2, h2⟩
      · exact .inl (by omega)
      · exact .inl (by omega)
    · rcases h2 with h2 | ⟨e2, h2⟩
      · exact .inl (by omega)
      · exact .inr ⟨by omega, lx_trans h1 h2⟩
theorem lx_tot : ∀ {x y : List Nat}, lx x y = false → lx y x = false → x = y
  | [], [], _, _ => rfl
  | [], _ :: _, h, _ => by simp [lx] at h
  | _ :: _, [], _, h => by simp [lx] at h
  | a :: x, b :: y, h1, h2 => by
    have g1 : ¬ (a < b ∨ (a = b ∧ lx x y = true)) := fun h => by rw [← lx_cons, h1] at h; cases h
    have g2 : ¬ (b < a ∨ (b = a ∧ lx y x = true)) := fun h => by rw [← lx_cons, h2] at h; cases h
    have e : a = b := by
      rcases Nat.lt_trichotomy a b with h | h | h
      · exact absurd (.inl h) g1
      · exact h
      · exact absurd (.inl h) g2
    subst e
    have k1 : lx x y = false := by cases hx : lx x y with | false => rfl | true => exact absurd (.inr ⟨rfl, hx⟩) g1
    have k2 : lx y x = false := by cases hx : lx y x with | false => rfl | true => exact absurd (.inr ⟨rfl, hx⟩) g2
    rw [lx_tot k1 k2]
/-- The lesser one of two texts. -/
def ls (a b : List Nat) : Bool := if a.length = b.length then lx a b else decide (a.length < b.length)
theorem ls_iff (a b : List Nat) : ls a b = true ↔ a.length < b.length ∨ (a.length = b.length ∧ lx a b = true) := by
  unfold ls
  by_cases h : a.length = b.length
  · rw [if_pos h]
    constructor
    · exact fun k => .inr ⟨h, k⟩
    · rintro (k | ⟨-, k⟩)
      · omega
      · exact k
  · rw [if_neg h, decide_eq_true_iff]
    constructor
    · exact .inl
    · rintro (k | ⟨k, -⟩)
      · exact k
      · exact absurd k h
theorem ls_irr (a : List Nat) : ls a a = false := by unfold ls; rw [if_pos rfl, lx_irr]
theorem ls_trans {a b c : List Nat} (h1 : ls a b = true) (h2 : ls b c = true) : ls a c = true := by
  rw [ls_iff] at h1 h2 ⊢
  rcases h1 with h1 | ⟨e1, h1⟩ <;> rcases h2 with h2 | ⟨e2, h2⟩
  · exact .inl (by omega)
  · exact .inl (by omega)
  · exact .inl (by omega)
  · exact .inr ⟨by omega, lx_trans h1 h2⟩
theorem ls_tot {a b : List Nat} (h1 : ls a b = false) (h2 : ls b a = false) : a = b := by
  have g1 : ¬ (a.length < b.length ∨ (a.length = b.length ∧ lx a b = true)) := fun h => by rw [← ls_iff, h1] at h; cases h
  have g2 : ¬ (b.length < a.length ∨ (b.length = a.length ∧ lx b a = true)) := fun h => by rw [← ls_iff, h2] at h; cases h
  have e : a.length = b.length := by
    rcases Nat.lt_trichotomy a.length b.length with h | h | h
    · exact absurd (.inl h) g1
    · exact h
    · exact absurd (.inl h) g2
  refine lx_tot ?_ ?_
  · cases hx : lx a b with | false => rfl | true => exact absurd (.inr ⟨e, hx⟩) g1
  · cases hx : lx b a with | false => rfl | true => exact absurd (.inr ⟨e.symm, hx⟩) g2
theorem ls_asym {a b : List Nat} (h : ls a b = true) : ls b a = false := by
  cases hb : ls b a with
  | false => rfl
  | true => have := ls_trans h hb; rw [ls_irr] at this; cases this
/-- Not behind. -/
def Le (a b : List Nat) : Prop := ls b a = false
theorem Le.refl (a : List Nat) : Le a a := ls_irr a
theorem Le.of {a b : List Nat} (h : ls a b = true) : Le a b := ls_asym h
theorem Le.cases {a b : List Nat} (h : Le a b) : a = b ∨ ls a b = true := by
  cases hx : ls a b with
  | true => exact .inr rfl
  | false => exact .inl (ls_tot hx h)
theorem Le.trans {a b c : List Nat} (h1 : Le a b) (h2 : Le b c) : Le a c := by
  rcases h1.cases with rfl | h1
  · exact h2
  · rcases h2.cases with rfl | h2
    · exact .of h1
    · exact .of (ls_trans h1 h2)
theorem Le.lt {a b c : List Nat} (h1 : Le a b) (h2 : ls b c = true) : ls a c = true := by
  rcases h1.cases with rfl | h1
  · exact h2
  · exact ls_trans h1 h2
theorem Le.len {a b : List Nat} (h : Le a b) : a.length ≤ b.length := by
  rcases h.cases with rfl | h
  · exact Nat.le_refl _
  · rw [ls_iff] at h; omega
theorem Le.nil (a : List Nat) : Le [] a := by
  cases a with
  | nil => exact .refl _
  | cons x l => exact .of ((ls_iff _ _).2 (.inl (by simp)))
theorem lx_snoc : ∀ {a b : List Nat} (x y : Nat), a.length = b.length → (lx (a ++ [x]) (b ++ [y]) = true ↔ lx a b = true ∨ (a = b ∧ x < y))
  | [], [], x, y, _ => by
    show lx [x] [y] = true ↔ _
    rw [lx_cons]; simp [lx]
  | [], _ :: _, _, _, h => by cases h
  | _ :: _, [], _, _, h => by cases h
  | p :: a, q :: b, x, y, h => by
    rw [List.cons_append, List.cons_append, lx_cons, lx_cons, lx_snoc (a := a) (b := b) x y (by simpa using h), List.cons.injEq]
    constructor
    · rintro (h | ⟨e, h | ⟨e2, h⟩⟩)
      · exact .inl (.inl h)
      · exact .inl (.inr ⟨e, h⟩)
      · exact .inr ⟨⟨e, e2⟩, h⟩
    · rintro ((h | ⟨e, h⟩) | ⟨⟨e, e2⟩, h⟩)
      · exact .inl h
      · exact .inr ⟨e, .inl h⟩
      · exact .inr ⟨e, .inr ⟨e2, h⟩⟩
theorem ls_snoc {a b : List Nat} (x y : Nat) (h : ls a b = true) : ls (a ++ [x]) (b ++ [y]) = true := by
  rw [ls_iff] at h ⊢
  rw [List.length_append, List.length_append]
  rcases h with h | ⟨e, h⟩
  · exact .inl (by simp; omega)
  · exact .inr ⟨by simp; omega, (lx_snoc x y e).2 (.inl h)⟩
theorem ls_snoc_eq (a : List Nat) {x y : Nat} (h : x < y) : ls (a ++ [x]) (a ++ [y]) = true := by
  rw [ls_iff]
  exact .inr ⟨by simp, (lx_snoc x y rfl).2 (.inr ⟨rfl, h⟩)⟩
theorem Le.snoc {a b : List Nat} {x y : Nat} (h : Le a b) (hx : x ≤ y) : Le (a ++ [x]) (b ++ [y]) := by
  rcases h.cases with rfl | h
  · rcases Nat.lt_or_eq_of_le hx with hx | rfl
    · exact .of (ls_snoc_eq a hx)
    · exact .refl _
  · exact .of (ls_snoc x y h)
theorem ls_pre (a : List Nat) (x : Nat) : ls a (a ++ [x]) = true := by rw [ls_iff]; exact .inl (by simp)
theorem Le.pre {a b : List Nat} (x : Nat) (h : Le a b) : Le a (b ++ [x]) := .of (h.lt (ls_pre b x))
theorem u8_bool (a b : UInt8) : (decide (a < b) = decide (a.toNat < b.toNat)) ∧ ((a == b) = decide (a.toNat = b.toNat)) := by
  refine ⟨rfl, ?_⟩
  by_cases h : a = b
  · subst h; simp
  · have : ¬ a.toNat = b.toNat := fun e => h (UInt8.toNat_inj.1 e)
    rw [decide_eq_false this]
    simpa using h
theorem bl_lx : ∀ (x y : List UInt8), Op.bytesLess x y = lx (x.map UInt8.toNat) (y.map UInt8.toNat)
  | _, [] => by cases ‹List UInt8› <;> rfl
  | [], _ :: _ => rfl
  | a :: x, b :: y => by
    show (decide (a < b) || (a == b && Op.bytesLess x y)) = (decide (a.toNat < b.toNat) || (decide (a.toNat = b.toNat) && lx (x.map UInt8.toNat) (y.map UInt8.toNat)))
    rw [bl_lx x y, (u8_bool a b).1, (u8_bool a b).2]
/-- The numbers of classes rise as their least bytes do. -/
theorem rgo_first (of : Nat → Nat) : ∀ c k, Cls.rgo of c = some k → (∀ b, b < c → of b < k) ∧ ∀ j, j < k → ∃ b, b < c ∧ of b = j ∧ ∀ b', b' < b → of b' < j
  | 0, k, h => by
    simp [Cls.rgo] at h
    subst h
    exact ⟨fun b hb => absurd hb (Nat.not_lt_zero _), fun j hj => absurd hj (Nat.not_lt_zero _)⟩
  | c + 1, k, h => by
    simp only [Cls.rgo] at h
    cases hq : Cls.rgo of c with
    | none => rw [hq] at h; cases h
    | some m =>
      obtain ⟨h1, h2⟩ := rgo_first of c m hq
      rw [hq] at h
      simp only at h
      split at h
      · cases h
      · rename_i hc
        split at h
        · rename_i he
          injection h with h
          subst h
          have he : of c = m := by simpa using he
          refine ⟨fun b hb => ?_, fun j hj => ?_⟩
          · by_cases e : b = c
            · subst e; omega
            · have := h1 b (by omega); omega
          · by_cases e : j = m
            · subst e; exact ⟨c, by omega, he, fun b' hb' => h1 b' hb'⟩
            · obtain ⟨b, hb, e1, e2⟩ := h2 j (by omega)
              exact ⟨b, by omega, e1, e2⟩
        · rename_i he
          injection h with h
          subst h
          have he : ¬ of c = m := by simpa using he
          have hc : ¬ m < of c := by simpa using hc
          refine ⟨fun b hb => ?_, fun j hj => ?_⟩
          · by_cases e : b = c
            · subst e; omega
            · exact h1 b (by omega)
          · obtain ⟨b, hb, e1, e2⟩ := h2 j hj
            exact ⟨b, by omega, e1, e2⟩
/-- What least bytes of classes are. -/
structure Lead (of : Nat → Nat) (nc : Nat) : Prop where
  lt : ∀ k, k < nc → Df.lead of k < 256 ∧ of (Df.lead of k) = k
  min : ∀ b, b < 256 → of b < nc ∧ Df.lead of (of b) ≤ b
  up : ∀ j k, j < k → k < nc → Df.lead of j < Df.lead of k
  hit : ∀ k, k < nc → ∃ c, c < 256 ∧ of c = k
theorem lead_min (of : Nat → Nat) (b : Nat) (hb : b < 256) : Df.lead of (of b) ≤ b := by
  have hm : b ∈ listN (clsSet of 256 (of b)) := (mem_listN _ _).2 ⟨hb, by rw [clsSet_bit, decide_eq_true hb]; simp⟩
  unfold Df.lead
  cases hl : listN (clsSet of 256 (of b)) with
  | nil => rw [hl] at hm; cases hm
  | cons a l =>
    have hs : (listN (clsSet of 256 (of b))).Pairwise (· < ·) := by unfold listN; exact List.Pairwise.filter _ List.pairwise_lt_range
    rw [hl] at hm hs
    rcases List.mem_cons.1 hm with rfl | hm
    · exact Nat.le_refl _
    · exact Nat.le_of_lt ((List.pairwise_cons.1 hs).1 b hm)
theorem pright_lead {of : Nat → Nat} {nc : Nat} (h : prightB of nc = true) : Lead of nc := by
  have hr : Cls.rgo of 256 = some nc := by
    unfold prightB at h
    cases hq : Cls.rgo of 256 with
    | none => rw [hq] at h; cases h
    | some k => rw [hq] at h; have : (k : Int) = (nc : Int) := by simpa using h
                rw [show k = nc by omega]
  obtain ⟨h1, h2⟩ := rgo_first of 256 nc hr
  have hl : ∀ k, k < nc → Df.lead of k < 256 ∧ of (Df.lead of k) = k := fun k hk => by
    obtain ⟨b, hb, e, -⟩ := h2 k hk
    have := Df.lead_spec of k b hb e
    exact ⟨this.1, this.2.1⟩
  refine ⟨hl, fun b hb => ⟨h1 b hb, lead_min of b hb⟩, fun j k hjk hk => ?_, fun k hk => ⟨_, hl k hk⟩⟩
  obtain ⟨b, hb, e, he⟩ := h2 k hk
  have hj := hl j (by omega)
  have hkl := hl k hk
  have hlb : Df.lead of k ≤ b := by have := lead_min of b hb; rwa [e] at this
  rcases Nat.lt_or_ge (Df.lead of j) (Df.lead of k) with h | h
  · exact h
  · exfalso
    obtain ⟨bj, hbj, ej, hej⟩ := h2 j (by omega)
    have hlj : Df.lead of j ≤ bj := by have := lead_min of bj hbj; rwa [ej] at this
    have hne : Df.lead of k ≠ Df.lead of j := fun e => by rw [← e, hkl.2] at hj; omega
    have := hej (Df.lead of k) (by omega)
    rw [hkl.2] at this
    omega
end Sk
end Go.Proofs.YtmjjkamndlefmaaDoor
namespace Go.Proofs.YtmjjkamndlefmaaDoor
open Sets Nf Df
namespace Sk
/-- Where a text leads. -/
def led (d : Dm) (u : List Nat) : Nat := u.foldl (goD d) 0
theorem led_nil (d : Dm) : led d [] = 0 := rfl
theorem led_snoc (d : Dm) (u : List Nat) (b : Nat) : led d (u ++ [b]) = goD d (led d u) b := by unfold led; rw [List.foldl_append]; rfl
def byt (u : List Nat) : Prop := ∀ x ∈ u, x < 256
theorem byt_snoc {u : List Nat} {b : Nat} (h : byt u) (hb : b < 256) : byt (u ++ [b]) := fun x hx => by
  rcases List.mem_append.1 hx with hx | hx
  · exact h x hx
  · rw [List.mem_singleton] at hx; rw [hx]; exact hb
theorem byt_pre {u : List Nat} {b : Nat} (h : byt (u ++ [b])) : byt u ∧ b < 256 := ⟨fun x hx => h x (List.mem_append_left _ hx), h b (by simp)⟩
theorem snoc_ind {P : List Nat → Prop} (h0 : P []) (h1 : ∀ u b, P u → P (u ++ [b])) : ∀ u, P u := by
  intro u
  have : ∀ n, ∀ u : List Nat, u.length = n → P u := by
    intro n
    induction n with
    | zero => intro u hu; rw [List.length_eq_zero_iff.1 hu]; exact h0
    | succ n ih =>
      intro u hu
      have hne : u ≠ [] := fun e => by rw [e] at hu; cases hu
      rw [← List.dropLast_concat_getLast hne]
      exact h1 _ _ (ih _ (by rw [List.length_dropLast, hu]; rfl))
  exact this _ u rfl
theorem goD_cls {d : Dm} {s b c : Nat} (h : d.of b = d.of c) : goD d s b = goD d s c := by unfold goD; rw [h]
theorem led_lt {d : Dm} (h : DRt d) : ∀ u, byt u → led d u < d.R.length := by
  intro u
  induction u using snoc_ind with
  | h0 => intro _; exact h.pos
  | h1 u b ih =>
    intro hu
    have := byt_pre hu
    rw [led_snoc]
    exact (h.of (ih this.1) this.2).2.2
def takesR (d : Dm) (u : List Nat) : Bool := d.F.getD (led d u) false
theorem takes_R {d : Dm} (h : DRt d) (u : List Nat) : takesD d u = takesR d u := by
  unfold takesD takesR led
  rw [(dright_iff d).2 h, Bool.true_and]
/-- The search: the states Q that were found, the texts T by which; c classes of state n are gone through. -/
structure Bw (d : Dm) (nc n c : Nat) (Q : List Nat) (T : List (List Nat)) : Prop where
  pos : 0 < Q.length
  len : T.length = Q.length
  hd : Q.getD 0 0 = 0 ∧ T.getD 0 [] = []
  nd : Q.Nodup
  run : ∀ j, j < Q.length → led d (T.getD j []) = Q.getD j 0
  byte : ∀ j, j < Q.length → byt (T.getD j [])
  up : ∀ i j, i < j → j < Q.length → ls (T.getD i []) (T.getD j []) = true
  frm : ∀ j, 0 < j → j < Q.length → ∃ i k, (i < n ∨ i = n ∧ k < c) ∧ i < j ∧ k < nc ∧ T.getD j [] = T.getD i [] ++ [lead d.of k]
  all : ∀ i k, i < Q.length → k < nc → (i < n ∨ i = n ∧ k < c) → ∃ j, j < Q.length ∧ Q.getD j 0 = goD d (Q.getD i 0) (lead d.of k) ∧ Le (T.getD j []) (T.getD i [] ++ [lead d.of k])
  short : ∀ j, j < Q.length → (T.getD j []).length ≤ j
  qlt : ∀ q ∈ Q, q < d.R.length
section
variable {d : Dm} {nc n c : Nat} {Q : List Nat} {T : List (List Nat)}
theorem Bw.start (h : DRt d) : Bw d nc 0 0 [0] [[]] := by
  refine ⟨by simp, rfl, ⟨rfl, rfl⟩, by simp, fun j hj => ?_, fun j hj => ?_, fun i j hij hj => ?_, fun j h0 hj => ?_, fun i k hi hk hor => ?_, fun j hj => ?_, fun q hq => ?_⟩
  · have : j = 0 := by simp at hj; exact hj
    subst this; rfl
  · have : j = 0 := by simp at hj; exact hj
    subst this; intro x hx; cases hx
  · simp at hj; omega
  · simp at hj; omega
  · omega
  · have : j = 0 := by simp at hj; exact hj
    subst this; exact Nat.le_refl _
  · rw [List.mem_singleton] at hq; rw [hq]; exact h.pos
theorem Bw.few (h : Bw d nc n c Q T) : Q.length ≤ d.R.length := by
  have := nodup_len Q (List.range d.R.length) h.nd (fun s hs => List.mem_range.2 (h.qlt s hs))
  rwa [List.length_range] at this
theorem getD_app {α : Type} (l m : List α) (x : α) {i : Nat} (h : i < l.length) : (l ++ m).getD i x = l.getD i x := by
  rw [List.getD_eq_getElem?_getD, List.getElem?_append_left h, ← List.getD_eq_getElem?_getD]
theorem getD_end {α : Type} (l : List α) (y x : α) : (l ++ [y]).getD l.length x = y := by
  rw [List.getD_eq_getElem?_getD, List.getElem?_append_right (Nat.le_refl _), Nat.sub_self]; rfl
theorem mem_get {l : List Nat} {q : Nat} (h : q ∈ l) : ∃ j, j < l.length ∧ l.getD j 0 = q := by
  obtain ⟨j, hj⟩ := List.getElem?_of_mem h
  exact ⟨j, (List.getElem?_eq_some_iff.1 hj).1, by rw [List.getD_eq_getElem?_getD, hj]; rfl⟩
/-- A text that was found is no greater than the one that leads on from state n by class c. -/
theorem Bw.before (h : Bw d nc n c Q T) (L : Lead d.of nc) (hn : n < Q.length) (hc : c < nc) {j : Nat} (hj : j < Q.length) : ls (T.getD j []) (T.getD n [] ++ [lead d.of c]) = true := by
  by_cases h0 : j = 0
  · subst h0
    rw [h.hd.2]
    rw [ls_iff]; exact .inl (by simp)
  · obtain ⟨i, k, ho, hij, hk, e⟩ := h.frm j (by omega) hj
    rw [e]
    rcases ho with ho | ⟨rfl, ho⟩
    · exact ls_snoc _ _ (h.up i n ho hn)
    · exact ls_snoc_eq _ (L.up k c ho hc)
theorem Bw.skip (h : Bw d nc n c Q T) (L : Lead d.of nc) (hn : n < Q.length) (hc : c < nc) (hm : goD d (Q.getD n 0) (lead d.of c) ∈ Q) : Bw d nc n (c + 1) Q T := by
  refine ⟨h.pos, h.len, h.hd, h.nd, h.run, h.byte, h.up, fun j h0 hj => ?_, fun i k hi hk hor => ?_, h.short, h.qlt⟩
  · obtain ⟨i, k, ho, hij, hk, e⟩ := h.frm j h0 hj
    exact ⟨i, k, by omega, hij, hk, e⟩
  · by_cases hh : i < n ∨ i = n ∧ k < c
    · exact h.all i k hi hk hh
    · have e1 : i = n := by omega
      have e2 : k = c := by omega
      subst e1; subst e2
      obtain ⟨j, hj, e⟩ := mem_get hm
      exact ⟨j, hj, e, .of (h.before L hn hc hj)⟩
theorem Bw.take (h : Bw d nc n c Q T) (hr : DRt d) (L : Lead d.of nc) (hn : n < Q.length) (hc : c < nc) (hm : goD d (Q.getD n 0) (lead d.of c) ∉ Q) :
    Bw d nc n (c + 1) (Q ++ [goD d (Q.getD n 0) (lead d.of c)]) (T ++ [T.getD n [] ++ [lead d.of c]]) := by
  have hb := L.lt c hc
  have hqn : Q.getD n 0 < d.R.length := h.qlt _ (getD_mem hn)
  have hq : ∀ i, i < Q.length → (Q ++ [goD d (Q.getD n 0) (lead d.of c)]).getD i 0 = Q.getD i 0 := fun i hi => getD_app _ _ _ hi
  have ht : ∀ i, i < Q.length → (T ++ [T.getD n [] ++ [lead d.of c]]).getD i [] = T.getD i [] := fun i hi => getD_app _ _ _ (by rw [h.len]; exact hi)
  have hqe : (Q ++ [goD d (Q.getD n 0) (lead d.of c)]).getD Q.length 0 = goD d (Q.getD n 0) (lead d.of c) := getD_end _ _ _
  have hte : (T ++ [T.getD n [] ++ [lead d.of c]]).getD Q.length [] = T.getD n [] ++ [lead d.of c] := by rw [← h.len]; exact getD_end _ _ _
  have hlen : (Q ++ [goD d (Q.getD n 0) (lead d.of c)]).length = Q.length + 1 := by simp
  refine ⟨by omega, by simp [h.len], ⟨by rw [hq 0 h.pos]; exact h.hd.1, by rw [ht 0 h.pos]; exact h.hd.2⟩, ?_, fun j hj => ?_, fun j hj => ?_, fun i j hij hj => ?_, fun j h0 hj => ?_, fun i k hi hk hor => ?_, fun j hj => ?_, fun q hq' => ?_⟩
  · rw [List.nodup_append]
    refine ⟨h.nd, by simp, fun a ha b hb => ?_⟩
    rw [List.mem_singleton] at hb
    rintro rfl
    exact hm (hb ▸ ha)
  · by_cases e : j < Q.length
    · rw [hq j e, ht j e]; exact h.run j e
    · have e2 : j = Q.length := by omega
      rw [e2, hqe, hte, led_snoc, h.run n hn]
  · by_cases e : j < Q.length
    · rw [ht j e]; exact h.byte j e
    · have e2 : j = Q.length := by omega
      rw [e2, hte]; exact byt_snoc (h.byte n hn) hb.1
  · by_cases e : j < Q.length
    · rw [ht j e, ht i (by omega)]; exact h.up i j hij e
    · have e2 : j = Q.length := by omega
      rw [e2, hte, ht i (by omega)]
      exact h.before L hn hc (by omega)
  · by_cases e : j < Q.length
    · obtain ⟨i, k, ho, hij, hk, e3⟩ := h.frm j h0 e
      exact ⟨i, k, by omega, hij, hk, by rw [ht j e, ht i (by omega)]; exact e3⟩
    · have e2 : j = Q.length := by omega
      exact ⟨n, c, by omega, by omega, hc, by rw [e2, hte, ht n hn]⟩
  · by_cases hh : i < n ∨ i = n ∧ k < c
    · have hiQ : i < Q.length := by omega
      obtain ⟨j, hj, e1, e2⟩ := h.all i k hiQ hk hh
      exact ⟨j, by omega, by rw [hq j hj, hq i hiQ]; exact e1, by rw [ht j hj, ht i hiQ]; exact e2⟩
    · have e1 : i = n := by omega
      have e2 : k = c := by omega
      subst e1; subst e2
      exact ⟨Q.length, by omega, by rw [hqe, hq i hn], by rw [hte, ht i hn]; exact .refl _⟩
  · by_cases e : j < Q.length
    · rw [ht j e]; exact h.short j e
    · have e2 : j = Q.length := by omega
      rw [e2, hte, List.length_append, List.length_singleton]
      have := h.short n hn
      omega
  · rcases List.mem_append.1 hq' with hq' | hq'
    · exact h.qlt q hq'
    · rw [List.mem_singleton] at hq'; rw [hq']; exact (hr.of hqn hb.1).2.2
theorem Bw.next (h : Bw d nc n nc Q T) : Bw d nc (n + 1) 0 Q T := by
  refine ⟨h.pos, h.len, h.hd, h.nd, h.run, h.byte, h.up, fun j h0 hj => ?_, fun i k hi hk hor => ?_, h.short, h.qlt⟩
  · obtain ⟨i, k, ho, hij, hk, e⟩ := h.frm j h0 hj
    exact ⟨i, k, by omega, hij, hk, e⟩
  · exact h.all i k hi hk (by omega)
/-- Of each text either its state was found, by no greater one, or one no greater is still to be gone through. -/
theorem Bw.reach (h : Bw d nc n 0 Q T) (L : Lead d.of nc) : ∀ u, byt u → (∃ j, j < Q.length ∧ Q.getD j 0 = led d u ∧ Le (T.getD j []) u) ∨ ∃ j, n ≤ j ∧ j < Q.length ∧ Le (T.getD j []) u := by
  intro u
  induction u using snoc_ind with
  | h0 => intro _; exact .inl ⟨0, h.pos, h.hd.1, by rw [h.hd.2]; exact .refl _⟩
  | h1 u b ih =>
    intro hu
    obtain ⟨hu, hb⟩ := byt_pre hu
    rcases ih hu with ⟨j, hj, e, hle⟩ | ⟨j, hn, hj, hle⟩
    · by_cases hjn : j < n
      · have hm := L.min b hb
        obtain ⟨i, hi, e1, e2⟩ := h.all j (d.of b) hj hm.1 (.inl hjn)
        refine .inl ⟨i, hi, ?_, e2.trans (hle.snoc hm.2)⟩
        rw [e1, led_snoc, e]
        exact goD_cls (L.lt _ hm.1).2
      · exact .inr ⟨j, by omega, hj, hle.pre b⟩
    · exact .inr ⟨j, hn, hj, hle.pre b⟩
/-- What is the least text that is taken. -/
structure Best (d : Dm) (v : List Nat) : Prop where
  byte : byt v
  takes : takesR d v = true
  least : ∀ u, byt u → takesR d u = true → Le v u
theorem Best.one {v v' : List Nat} (h : Best d v) (h' : Best d v') : v = v' := by
  rcases (h.least v' h'.byte h'.takes).cases with e | hl
  · exact e
  · have := h'.least v h.byte h.takes
    unfold Le at this
    rw [hl] at this; cases this
theorem Bw.found (h : Bw d nc n 0 Q T) (L : Lead d.of nc) (hn : n < Q.length) (hf : d.F.getD (Q.getD n 0) false = true) (hno : ∀ j, j < n → d.F.getD (Q.getD j 0) false = false) :
    Best d (T.getD n []) ∧ (T.getD n []).length < d.R.length := by
  refine ⟨⟨h.byte n hn, ?_, fun u hu ht => ?_⟩, by have := h.short n hn; have := h.few; omega⟩
  · unfold takesR; rw [h.run n hn]; exact hf
  · have : ∃ j, n ≤ j ∧ j < Q.length ∧ Le (T.getD j []) u := by
      rcases h.reach L u hu with ⟨j, hj, e, hle⟩ | h2
      · refine ⟨j, ?_, hj, hle⟩
        rcases Nat.lt_or_ge j n with hjn | hjn
        · have := hno j hjn
          unfold takesR at ht
          rw [e, ht] at this; cases this
        · exact hjn
      · exact h2
    obtain ⟨j, hjn, hj, hle⟩ := this
    rcases Nat.lt_or_eq_of_le hjn with hjn | rfl
    · exact Le.trans (.of (h.up n j hjn hj)) hle
    · exact hle
theorem Bw.none (h : Bw d nc Q.length 0 Q T) (L : Lead d.of nc) (hno : ∀ j, j < Q.length → d.F.getD (Q.getD j 0) false = false) : ∀ u, byt u → takesR d u = false := by
  intro u hu
  rcases h.reach L u hu with ⟨j, hj, e, -⟩ | ⟨j, h1, h2, -⟩
  · unfold takesR; rw [← e]; exact hno j hj
  · omega
end
end Sk
end Go.Proofs.YtmjjkamndlefmaaDoor
namespace Go.Proofs.YtmjjkamndlefmaaDoor
open Go.RowKit Sets Nf
namespace Sk
theorem strLess (s t : ByteArray) : Op.bytesLess s.toList t.toList = lx (bs s) (bs t) := by
  rw [bl_lx, ByteArray.toList_eq, ByteArray.toList_eq]; rfl
set_option maxHeartbeats 1600000 in
theorem less_any (a b : ByteArray) (w : World) : Calls Tryd.prog 11 #[.string a, .string b] w fun e w' => e = .returned (.bool (ls (bs a) (bs b))) ∧ w = w' := by
  have hd : Hid (ls (bs a) (bs b) = if a.size = b.size then lx (bs a) (bs b) else decide (a.size < b.size)) := Lib.hid (by unfold ls; rw [bs_len, bs_len])
  by_cases h : a.size = b.size
  · have h1 : ((a.size : Int) != (b.size : Int)) = false := by rw [h]; simp
    have HR : Hid (ls (bs a) (bs b) = Op.bytesLess a.toList b.toList) := Lib.hid (by rw [hd.out, if_pos h, strLess])
    clear h
    go_enter Tryd.func11, Tryd.ntmps11
    go_wp2_with fail
    go_ret
    exact ⟨by rw [HR.out]; rfl, rfl⟩
  · have h1 : ((a.size : Int) != (b.size : Int)) = true := by simp; omega
    have HR : Hid (ls (bs a) (bs b) = decide (a.size < b.size)) := Lib.hid (by rw [hd.out, if_neg h])
    clear h
    go_enter Tryd.func11, Tryd.ntmps11
    go_wp2_with fail
    go_ret
    exact ⟨by rw [HR.out]; rfl, rfl⟩
theorem lx_drop {A B : List Nat} {j : Nat} (h1 : j < A.length) (h2 : j < B.length) : lx (A.drop j) (B.drop j) = if A.getD j 0 = B.getD j 0 then lx (A.drop (j + 1)) (B.drop (j + 1)) else decide (A.getD j 0 < B.getD j 0) := by
  rw [List.drop_eq_getElem_cons h1, List.drop_eq_getElem_cons h2, List.getD_eq_getElem?_getD, List.getD_eq_getElem?_getD, List.getElem?_eq_getElem h1, List.getElem?_eq_getElem h2, Option.getD_some, Option.getD_some]
  show (decide (_ < _) || (decide (_ = _) && _)) = _
  by_cases e : A[j] = B[j]
  · rw [if_pos e, decide_eq_true e, decide_eq_false (by omega)]; simp
  · rw [if_neg e, decide_eq_false e]; simp
set_option maxHeartbeats 3200000 in
set_option maxRecDepth 100000 in
theorem rless_any (a b : ByteArray) (w : World) (ha : a.size ≤ 100000) : Calls Tryd.prog 12 #[.string a, .string b] w fun e w' => e = .returned (.bool (ls (bs a) (bs b))) ∧ Below w.heap.size w w' := by
  have hd : Hid (ls (bs a) (bs b) = if a.size = b.size then lx (bs a) (bs b) else decide (a.size < b.size)) := Lib.hid (by unfold ls; rw [bs_len, bs_len])
  by_cases h : a.size = b.size
  · have h1 : ((a.size : Int) != (b.size : Int)) = false := by rw [h]; simp
    have HR : Hid (ls (bs a) (bs b) = lx (bs a) (bs b)) := Lib.hid (by rw [hd.out, if_pos h])
    have HE := Lib.hid h
    have HSZ := Lib.hid ha
    have HLA := Lib.hid (bs_len a)
    have HLB := Lib.hid (bs_len b)
    clear h hd ha
    go_enter Tryd.func12, Tryd.ntmps12
    go_wp2_with fail
    go_loopw [5] (fun i wr => ∃ j : Nat, i = .int .i64 j ∧ j ≤ a.size ∧ Below w.heap.size w wr ∧ Hid (lx (bs a) (bs b) = lx ((bs a).drop j) ((bs b).drop j))) (fun i _ => ((a.size : Int) - intOf i).toNat)
    case atStart => exact ⟨0, rfl, Nat.zero_le _, Below.refl _ _, Lib.hid rfl⟩
    case round =>
      obtain ⟨j, rfl, hj, hbw, HA⟩ := hrel
      have HB := Lib.hid hbw
      clear hbw
      by_cases hlt : j < a.size
      · have hdd : decide ((j : Int) < (a.size : Int)) = true := decide_eq_true (by omega)
        have hd2 : decide (j < a.size) = true := decide_eq_true hlt
        have hix := index_bs a j _ rfl hlt
        have hiy := index_bs b j _ rfl (by rw [← HE.out]; exact hlt)
        have HW1 : Hid (wrap64 ((j : Int) + 1) = ((j + 1 : Nat) : Int)) := Lib.hid (nat_wrap (by have := HSZ.out; omega))
        have HJ := Lib.hid hlt
        have HD := Lib.hid (lx_drop (A := bs a) (B := bs b) (j := j) (by rw [HLA.out]; exact hlt) (by rw [HLB.out, ← HE.out]; exact hlt))
        have HS := Lib.hid (meas9 hlt)
        clear hlt
        generalize (bs a).getD j 0 = p at *
        generalize (bs b).getD j 0 = q at *
        by_cases hpq : p = q
        · have g1 : ((p : Int) != (q : Int)) = false := by rw [hpq]; simp
          have HN : Hid (lx (bs a) (bs b) = lx ((bs a).drop (j + 1)) ((bs b).drop (j + 1))) := Lib.hid (by rw [HA.out, HD.out, if_pos hpq])
          clear hpq
          go_wp2_with fail
          go_quiet (fail)
          go_wp2_with fail
          go_roundw
          case rel => exact ⟨j + 1, by rw [HW1.out], HJ.out, below_drewN HB.out _, HN⟩
          case measure => rw [HW1.out]; exact HS.out
        · have g1 : ((p : Int) != (q : Int)) = true := by simp; omega
          have HN : Hid (lx (bs a) (bs b) = decide (p < q)) := Lib.hid (by rw [HA.out, HD.out, if_neg hpq])
          clear hpq
          go_wp2_with fail
          go_quiet (fail)
          go_wp2_with fail
          go_quiet (fail)
          go_wp2_with fail
          go_ret
          exact ⟨by rw [HR.out, HN.out]; simp, below_drewN (below_drewN HB.out _) _⟩
      · have hdd : decide ((j : Int) < (a.size : Int)) = false := decide_eq_false (by omega)
        have hd2 : decide (j < a.size) = false := decide_eq_false hlt
        have HN : Hid (lx (bs a) (bs b) = false) := Lib.hid (by
          rw [HA.out, List.drop_of_length_le (by rw [HLA.out]; omega), List.drop_of_length_le (by rw [HLB.out, ← HE.out]; omega)]; rfl)
        clear hlt
        go_wp2_with fail
        go_ret
        exact ⟨by rw [HR.out, HN.out]; rfl, HB.out⟩
  · have h1 : ((a.size : Int) != (b.size : Int)) = true := by simp; omega
    have HR : Hid (ls (bs a) (bs b) = decide (a.size < b.size)) := Lib.hid (by rw [hd.out, if_neg h])
    clear h
    go_enter Tryd.func12, Tryd.ntmps12
    go_wp2_with fail
    go_ret
    exact ⟨by rw [HR.out]; rfl, Below.refl _ _⟩
/-- a lead: the text ahead, and the byte. -/
def ldC (l : ByteArray × Nat) : Array Value := #[.string l.1, .int .u8 l.2]
def ldT (l : ByteArray × Nat) : ByteArray := l.1 ++ b1 l.2
theorem bs_ldT {l : ByteArray × Nat} (h : l.2 < 256) : bs (ldT l) = bs l.1 ++ [l.2] := by unfold ldT; rw [bs_app, bs_b1 h]
set_option maxHeartbeats 3200000 in
set_option maxRecDepth 100000 in
theorem ltext_any (l : ByteArray × Nat) (w : World) (h : l.2 < 256) (hs : l.1.size ≤ 100000) : Calls Tryd.prog 60 #[.agg (ldC l)] w fun e w' => e = .returned (.string (ldT l)) ∧ Below w.heap.size w w' := by
  have HB1 := Lib.hid ((Below.refl w.heap.size w).alloc (Nat.le_refl _) (.cells (ldC l) 113))
  have HR := Lib.hid (heap_alloc_new w (.cells (ldC l) 113))
  have HLT := Lib.hid h
  have HSZ : Hid (¬ (9223372036854775807 < l.1.size + (b1 l.2).size)) := Lib.hid (by show ¬ (9223372036854775807 < l.1.size + 1); omega)
  go_enter Tryd.func60, Tryd.ntmps60
  go_upto_region 1 with fail
  have c0 : (w.alloc (.cells (ldC l) 113)).cell? ⟨w.heap.size, 0, none⟩ = some (.string l.1) := by rw [cell_of_row _ _ 0 _ _ _ HR.out]; rfl
  have c1 : (w.alloc (.cells (ldC l) 113)).cell? ⟨w.heap.size, 1, none⟩ = some (.int .u8 l.2) := by rw [cell_of_row _ _ 1 _ _ _ HR.out]; rfl
  generalize w.alloc (.cells (ldC l) 113) = w1 at *
  have HB2 := Lib.hid (HB1.out.alloc HB1.out.size (.cells #[.int .u8 l.2] 5))
  have hcell : (w1.alloc (.cells #[.int .u8 l.2] 5)).cell? ⟨w1.heap.size, 0, none⟩ = some (.int .u8 l.2) := by
    rw [World.cell?_alloc_new]; rfl
  have hcv := convert_b1 _ _ l.2 HLT.out hcell
  clear hcell h hs
  have hz := HSZ.out
  go_wp2_with fail
  go_ret
  exact ⟨rfl, HB2.out⟩
end Sk
end Go.Proofs.YtmjjkamndlefmaaDoor
namespace Go.Proofs.YtmjjkamndlefmaaDoor
open Sets Nf
namespace Sk
/-- The text u leads to spot k. -/
inductive Ld (m : Mc) : List Nat → Nat → Prop
  | one {k c : Nat} : (grp m.fi).testBit k = true → (stN m k).testBit c = true → Ld m [c] k
  | more {u : List Nat} {j k c : Nat} : Ld m u j → (foN m j).testBit k = true → (stN m k).testBit c = true → Ld m (u ++ [c]) k
theorem Ld.ne {m : Mc} {u : List Nat} {k : Nat} (h : Ld m u k) : 0 < u.length := by
  cases h <;> simp
theorem Ld.inv {m : Mc} {u : List Nat} {c k : Nat} (h : Ld m (u ++ [c]) k) : (stN m k).testBit c = true ∧ ((u = [] ∧ (grp m.fi).testBit k = true) ∨ ∃ j, Ld m u j ∧ (foN m j).testBit k = true) := by
  generalize hw : u ++ [c] = w at h
  cases h with
  | one h1 h2 =>
    have := congrArg List.length hw
    simp at this
    subst this
    simp at hw
    subst hw
    exact ⟨h2, .inl ⟨rfl, h1⟩⟩
  | more h1 h2 h3 =>
    obtain ⟨e1, e2⟩ := List.append_inj' hw rfl
    simp at e2
    subst e1; subst e2
    exact ⟨h3, .inr ⟨_, h1, h2⟩⟩
theorem Ld.turn {m : Mc} {u : List Nat} {c b k : Nat} (h : Ld m (u ++ [c]) k) (hb : (stN m k).testBit b = true) : Ld m (u ++ [b]) k := by
  obtain ⟨-, h⟩ := h.inv
  rcases h with ⟨rfl, h9⟩ | ⟨j, h1, h2⟩
  · exact .one h9 hb
  · exact .more h1 h2 hb
theorem Ld.swap {m : Mc} {u : List Nat} (hu : u ≠ []) : ∀ (w : List Nat) (k : Nat), Ld m (u ++ w) k → ∃ p, Ld m u p ∧ ∀ v, Ld m v p → Ld m (v ++ w) k := by
  intro w
  induction w using snoc_ind with
  | h0 => intro k h; rw [List.append_nil] at h; exact ⟨k, h, fun v hv => by rw [List.append_nil]; exact hv⟩
  | h1 w b ih =>
    intro k h
    rw [← List.append_assoc] at h
    obtain ⟨hb, ⟨he, h⟩ | ⟨j, h1, h2⟩⟩ := h.inv
    · exact absurd (List.append_eq_nil_iff.1 he).1 hu
    · obtain ⟨p, hp, hv⟩ := ih j h1
      exact ⟨p, hp, fun v hvp => by rw [← List.append_assoc]; exact .more (hv v hvp) h2 hb⟩
theorem Gs.go {m : Mc} : ∀ (w u : List Nat) (k : Nat), Ld m u k → Gs m k w → ∃ p, Ld m (u ++ w) p ∧ m.la.getD p false = true
  | [], u, k, hu, h => by
    cases h with
    | done h => exact ⟨k, by rw [List.append_nil]; exact hu, h⟩
  | c :: w, u, k, hu, h => by
    cases h with
    | more h1 h2 h3 =>
      obtain ⟨p, hp, hl⟩ := Gs.go w (u ++ [c]) _ (.more hu h1 h2) h3
      exact ⟨p, by rwa [List.append_assoc] at hp, hl⟩
theorem Ld.back {m : Mc} {u : List Nat} {k : Nat} (h : Ld m u k) : ∀ w, Gs m k w → ∃ c v, u ++ w = c :: v ∧ Tk m (c :: v) := by
  induction h with
  | one h1 h2 => intro w hw; exact ⟨_, w, rfl, _, h1, h2, hw⟩
  | more h1 h2 h3 ih =>
    intro w hw
    obtain ⟨c', v, e, ht⟩ := ih (_ :: w) (.more h2 h3 hw)
    exact ⟨c', v, by rw [List.append_assoc]; exact e, ht⟩
/-- What a machine takes: the empty text if it says so; others by a last spot that they lead to. -/
theorem tk_iff {m : Mc} {u : List Nat} (hu : u ≠ []) : Tk m u ↔ ∃ k, Ld m u k ∧ m.la.getD k false = true := by
  constructor
  · intro h
    cases u with
    | nil => exact absurd rfl hu
    | cons c w =>
      obtain ⟨k, h1, h2, h3⟩ := h
      exact Gs.go w [c] k (.one h1 h2) h3
  · rintro ⟨k, h1, h2⟩
    obtain ⟨c, v, e, ht⟩ := h1.back [] (.done h2)
    rw [List.append_nil] at e
    rw [e]; exact ht
/-- The least byte of a spot's set. -/
def lb (S : Nat) : Nat := (listN S).headD 0
theorem lb_bit {S c : Nat} (hS : S < 2 ^ 256) (h : S.testBit c = true) : S.testBit (lb S) = true ∧ lb S ≤ c ∧ lb S < 256 := by
  have hc : c < 256 := by
    rcases Nat.lt_or_ge c 256 with h1 | h1
    · exact h1
    · rw [Nat.testBit_lt_two_pow (Nat.lt_of_lt_of_le hS (Nat.pow_le_pow_right (by decide) h1))] at h; cases h
  have hm : c ∈ listN S := (mem_listN _ _).2 ⟨hc, h⟩
  have hs := listN_sorted S
  unfold lb
  cases hl : listN S with
  | nil => rw [hl] at hm; cases hm
  | cons a l =>
    have ha : a ∈ listN S := by rw [hl]; exact List.mem_cons_self ..
    obtain ⟨h1, h2⟩ := (mem_listN _ _).1 ha
    rw [hl] at hm hs
    refine ⟨h2, ?_, h1⟩
    rcases List.mem_cons.1 hm with rfl | hm
    · exact Nat.le_refl _
    · exact Nat.le_of_lt ((List.pairwise_cons.1 hs).1 c hm)
theorem lb_full {S : Nat} (hS : S < 2 ^ 256) (h : S ≠ 0) : S.testBit (lb S) = true ∧ lb S < 256 := by
  obtain ⟨c, hc⟩ := Nat.exists_testBit_of_ne_zero h
  have := lb_bit hS hc
  exact ⟨this.1, this.2.2⟩
theorem lb_zero : lb 0 = 0 := by
  unfold lb listN
  have : (List.range 256).filter (Nat.testBit 0) = [] := by
    rw [List.filter_eq_nil_iff]; intro a _; simp
  rw [this]; rfl
theorem bit_ne {S c : Nat} (h : S.testBit c = true) : S ≠ 0 := fun e => by rw [e] at h; simp at h
/-- A front in the making: its spots, the text and the byte of each, and which spots are seen. -/
structure Fr where
  K : List Nat
  T : Nat → ByteArray × Nat
  s : Nat → Bool
def ent (m : Mc) (F : Fr) (x : ByteArray × Nat) : Fr :=
  if (decide (stN m x.2 ≠ 0) && !F.s x.2) || (decide (x.2 ∈ F.K) && ls (bs x.1) (bs (F.T x.2).1)) then
    ⟨if x.2 ∈ F.K then F.K else F.K ++ [x.2], fun j => if j = x.2 then (x.1, lb (stN m x.2)) else F.T j, fun j => if j = x.2 then true else F.s j⟩
  else F
structure EnP (m : Mc) (s0 : Nat → Bool) (L : List (ByteArray × Nat)) (F : Fr) : Prop where
  nd : F.K.Nodup
  mem : ∀ k, k ∈ F.K ↔ (∃ x ∈ L, x.2 = k) ∧ stN m k ≠ 0 ∧ s0 k = false
  seen : ∀ k, F.s k = true ↔ s0 k = true ∨ ((∃ x ∈ L, x.2 = k) ∧ stN m k ≠ 0)
  frm : ∀ k ∈ F.K, (F.T k).2 = lb (stN m k) ∧ ∃ x ∈ L, x.2 = k ∧ x.1 = (F.T k).1
  min : ∀ k ∈ F.K, ∀ x ∈ L, x.2 = k → ls (bs x.1) (bs (F.T k).1) = false
theorem EnP.start (m : Mc) (s0 : Nat → Bool) (T : Nat → ByteArray × Nat) : EnP m s0 [] ⟨[], T, s0⟩ := by
  refine ⟨List.nodup_nil, fun k => by simp, fun k => by simp, fun k hk => ?_, fun k hk => ?_⟩
  · cases hk
  · cases hk
theorem ex_snoc {L : List (ByteArray × Nat)} {x : ByteArray × Nat} {k : Nat} : (∃ y ∈ L ++ [x], y.2 = k) ↔ (∃ y ∈ L, y.2 = k) ∨ x.2 = k := by
  constructor
  · rintro ⟨y, hy, e⟩
    rcases List.mem_append.1 hy with hy | hy
    · exact .inl ⟨y, hy, e⟩
    · rw [List.mem_singleton] at hy; exact .inr (hy ▸ e)
  · rintro (⟨y, hy, e⟩ | e)
    · exact ⟨y, List.mem_append_left _ hy, e⟩
    · exact ⟨x, by simp, e⟩
theorem EnP.snoc {m : Mc} {s0 : Nat → Bool} {L : List (ByteArray × Nat)} {F : Fr} (h : EnP m s0 L F) (x : ByteArray × Nat) : EnP m s0 (L ++ [x]) (ent m F x) := by
  have hKs : ∀ k, k ∈ F.K → F.s k = true := fun k hk => (h.seen k).2 (.inr ⟨((h.mem k).1 hk).1, ((h.mem k).1 hk).2.1⟩)
  unfold ent
  by_cases hc : ((decide (stN m x.2 ≠ 0) && !F.s x.2) || (decide (x.2 ∈ F.K) && ls (bs x.1) (bs (F.T x.2).1))) = true
  · rw [if_pos hc]
    rw [Bool.or_eq_true, Bool.and_eq_true, Bool.and_eq_true, decide_eq_true_iff, decide_eq_true_iff, Bool.not_eq_true'] at hc
    have hfull : stN m x.2 ≠ 0 := by
      rcases hc with hc | hc
      · exact hc.1
      · exact ((h.mem _).1 hc.1).2.1
    have hs0 : s0 x.2 = false := by
      rcases hc with hc | hc
      · cases hs : s0 x.2 with
        | false => rfl
        | true => have := (h.seen x.2).2 (.inl hs); rw [hc.2] at this; cases this
      · exact ((h.mem _).1 hc.1).2.2
    have hK : ∀ k, (k ∈ if x.2 ∈ F.K then F.K else F.K ++ [x.2]) ↔ k ∈ F.K ∨ k = x.2 := fun k => by
      by_cases e : x.2 ∈ F.K
      · rw [if_pos e]
        exact ⟨.inl, fun h => h.elim id (fun h => h ▸ e)⟩
      · rw [if_neg e, List.mem_append, List.mem_singleton]
    refine ⟨?_, fun k => ?_, fun k => ?_, fun k hk => ?_, fun k hk y hy e => ?_⟩
    · show (if x.2 ∈ F.K then F.K else F.K ++ [x.2]).Nodup
      by_cases e : x.2 ∈ F.K
      · rw [if_pos e]; exact h.nd
      · rw [if_neg e, List.nodup_append]
        refine ⟨h.nd, by simp, fun a ha b hb => ?_⟩
        rw [List.mem_singleton] at hb
        rintro rfl
        exact e (hb ▸ ha)
    · show (k ∈ if x.2 ∈ F.K then F.K else F.K ++ [x.2]) ↔ _
      rw [hK, ex_snoc, h.mem]
      constructor
      · rintro (⟨h1, h2, h3⟩ | rfl)
        · exact ⟨.inl h1, h2, h3⟩
        · exact ⟨.inr rfl, hfull, hs0⟩
      · rintro ⟨h1 | h1, h2, h3⟩
        · exact .inl ⟨h1, h2, h3⟩
        · exact .inr h1.symm
    · show (if k = x.2 then true else F.s k) = true ↔ _
      rw [ex_snoc]
      by_cases e : k = x.2
      · rw [if_pos e]
        exact ⟨fun _ => .inr ⟨.inr e.symm, e ▸ hfull⟩, fun _ => rfl⟩
      · rw [if_neg e, h.seen]
        constructor
        · rintro (h1 | ⟨h1, h2⟩)
          · exact .inl h1
          · exact .inr ⟨.inl h1, h2⟩
        · rintro (h1 | ⟨h1 | h1, h2⟩)
          · exact .inl h1
          · exact .inr ⟨h1, h2⟩
          · exact absurd h1.symm e
    · show ((if k = x.2 then (x.1, lb (stN m x.2)) else F.T k).2 = _) ∧ _
      have hk := (hK k).1 hk
      by_cases e : k = x.2
      · rw [if_pos e, e]
        refine ⟨rfl, x, by simp, rfl, ?_⟩
        show x.1 = (if x.2 = x.2 then (x.1, lb (stN m x.2)) else F.T x.2).1
        rw [if_pos rfl]
      · rw [if_neg e]
        obtain ⟨h1, y, hy, h2, h3⟩ := h.frm k (hk.resolve_right e)
        refine ⟨h1, y, List.mem_append_left _ hy, h2, ?_⟩
        show y.1 = (if k = x.2 then (x.1, lb (stN m x.2)) else F.T k).1
        rw [if_neg e]; exact h3
    · show ls (bs y.1) (bs (if k = x.2 then (x.1, lb (stN m x.2)) else F.T k).1) = false
      have hk := (hK k).1 hk
      by_cases ek : k = x.2
      · rw [if_pos ek]
        rcases List.mem_append.1 hy with hy | hy
        · have hkK : k ∈ F.K := (h.mem k).2 ⟨⟨y, hy, e⟩, ek ▸ hfull, ek ▸ hs0⟩
          have hm := h.min k hkK y hy e
          rcases hc with hc | hc
          · have := hKs k hkK
            rw [ek, hc.2] at this; cases this
          · rw [ek] at hm
            exact Le.trans (Le.of hc.2) hm
        · rw [List.mem_singleton] at hy
          rw [hy]; exact ls_irr _
      · rw [if_neg ek]
        rcases List.mem_append.1 hy with hy | hy
        · exact h.min k (hk.resolve_right ek) y hy e
        · rw [List.mem_singleton] at hy
          exact absurd (hy ▸ e).symm ek
  · rw [if_neg hc]
    have hc : ((decide (stN m x.2 ≠ 0) && !F.s x.2) || (decide (x.2 ∈ F.K) && ls (bs x.1) (bs (F.T x.2).1))) = false := by simpa using hc
    rw [Bool.or_eq_false_iff] at hc
    have hx : stN m x.2 ≠ 0 → F.s x.2 = true := fun hf => by
      have := hc.1
      rw [decide_eq_true hf, Bool.true_and] at this
      simpa using this
    refine ⟨h.nd, fun k => ?_, fun k => ?_, fun k hk => ?_, fun k hk y hy e => ?_⟩
    · rw [ex_snoc, h.mem]
      constructor
      · rintro ⟨h1, h2, h3⟩; exact ⟨.inl h1, h2, h3⟩
      · rintro ⟨h1 | h1, h2, h3⟩
        · exact ⟨h1, h2, h3⟩
        · subst h1
          rcases (h.seen _).1 (hx h2) with h4 | h4
          · rw [h3] at h4; cases h4
          · exact ⟨h4.1, h2, h3⟩
    · rw [ex_snoc, h.seen]
      constructor
      · rintro (h1 | ⟨h1, h2⟩)
        · exact .inl h1
        · exact .inr ⟨.inl h1, h2⟩
      · rintro (h1 | ⟨h1 | h1, h2⟩)
        · exact .inl h1
        · exact .inr ⟨h1, h2⟩
        · subst h1
          exact (h.seen _).1 (hx h2)
    · obtain ⟨h1, y, hy, h2, h3⟩ := h.frm k hk
      exact ⟨h1, y, List.mem_append_left _ hy, h2, h3⟩
    · rcases List.mem_append.1 hy with hy | hy
      · exact h.min k hk y hy e
      · rw [List.mem_singleton] at hy
        subst hy; subst e
        have := hc.2
        rw [decide_eq_true hk, Bool.true_and] at this
        exact this
theorem enp_fold (m : Mc) (s0 : Nat → Bool) : ∀ (M L : List (ByteArray × Nat)) (F : Fr), EnP m s0 L F → EnP m s0 (L ++ M) (M.foldl (ent m) F)
  | [], L, F, h => by rw [List.append_nil]; exact h
  | x :: M, L, F, h => by
    have := enp_fold m s0 M (L ++ [x]) _ (h.snoc x)
    rwa [List.append_assoc] at this
/-- The text of a spot of a front. -/
abbrev tx (T : Nat → ByteArray × Nat) (k : Nat) : List Nat := bs (ldT (T k))
/-- Front j: the spots to which texts of j bytes lead, and no shorter ones; of each the least of these texts. -/
structure Lv (m : Mc) (j : Nat) (F : Fr) : Prop where
  nd : F.K.Nodup
  mem : ∀ k, k ∈ F.K ↔ (∃ u, u.length = j ∧ Ld m u k) ∧ ∀ u, Ld m u k → j ≤ u.length
  seen : ∀ k, F.s k = true ↔ ∃ u, u.length ≤ j ∧ Ld m u k
  best : ∀ k ∈ F.K, Ld m (tx F.T k) k ∧ (tx F.T k).length = j ∧ ∀ u, Ld m u k → u.length = j → Le (tx F.T k) u
  by' : ∀ k ∈ F.K, (F.T k).2 = lb (stN m k) ∧ stN m k ≠ 0
section
variable {m : Mc}
theorem tx_eq {T : Nat → ByteArray × Nat} {k : Nat} (hS : ∀ k, stN m k < 2 ^ 256) (hb : (T k).2 = lb (stN m k)) (hf : stN m k ≠ 0) : tx T k = bs (T k).1 ++ [lb (stN m k)] := by
  unfold tx
  rw [bs_ldT (by rw [hb]; exact (lb_full (hS k) hf).2), hb]
theorem Lv.first (hS : ∀ k, stN m k < 2 ^ 256) {L : List (ByteArray × Nat)} (hL : ∀ x : ByteArray × Nat, x ∈ L ↔ x.1 = ⟨#[]⟩ ∧ (grp m.fi).testBit x.2 = true) {F : Fr} (h : EnP m (fun _ => false) L F) : Lv m 1 F := by
  have hex : ∀ k, (∃ x ∈ L, x.2 = k) ↔ (grp m.fi).testBit k = true := fun k => by
    constructor
    · rintro ⟨x, hx, rfl⟩; exact ((hL x).1 hx).2
    · intro hk; exact ⟨(⟨#[]⟩, k), (hL _).2 ⟨rfl, hk⟩, rfl⟩
  have hl1 : ∀ u k, u.length = 1 → Ld m u k → ∃ c, u = [c] ∧ (grp m.fi).testBit k = true ∧ (stN m k).testBit c = true := fun u k hu hk => by
    obtain ⟨c, rfl⟩ := List.length_eq_one_iff.1 hu
    have := Ld.inv (u := []) hk
    obtain ⟨h1, h2⟩ := this
    rcases h2 with ⟨-, h2⟩ | ⟨j, h2, -⟩
    · exact ⟨c, rfl, h2, h1⟩
    · have := h2.ne; simp at this
  refine ⟨h.nd, fun k => ?_, fun k => ?_, fun k hk => ?_, fun k hk => ⟨(h.frm k hk).1, ((h.mem k).1 hk).2.1⟩⟩
  · rw [h.mem, hex]
    constructor
    · rintro ⟨h1, h2, -⟩
      exact ⟨⟨[lb (stN m k)], rfl, .one h1 (lb_full (hS k) h2).1⟩, fun u hu => hu.ne⟩
    · rintro ⟨⟨u, hu, hk⟩, -⟩
      obtain ⟨c, rfl, h1, h2⟩ := hl1 u k hu hk
      exact ⟨h1, bit_ne h2, rfl⟩
  · rw [h.seen, hex]
    constructor
    · rintro (h1 | ⟨h1, h2⟩)
      · cases h1
      · exact ⟨[lb (stN m k)], Nat.le_refl _, .one h1 (lb_full (hS k) h2).1⟩
    · rintro ⟨u, hu, hk⟩
      obtain ⟨c, rfl, h1, h2⟩ := hl1 u k (by have := hk.ne; omega) hk
      exact .inr ⟨h1, bit_ne h2⟩
  · obtain ⟨h1, x, hx, h2, h3⟩ := h.frm k hk
    have hf := ((h.mem k).1 hk).2.1
    have hk1 := (hex k).1 ((h.mem k).1 hk).1
    rw [tx_eq hS h1 hf, ← h3, ((hL x).1 hx).1]
    refine ⟨.one hk1 (lb_full (hS k) hf).1, rfl, fun u hu hl => ?_⟩
    obtain ⟨c, rfl, g1, g2⟩ := hl1 u k hl hu
    exact Le.snoc (a := []) (b := []) (.refl _) (lb_bit (hS k) g2).2.1
theorem Lv.next (hS : ∀ k, stN m k < 2 ^ 256) {j : Nat} {F : Fr} (h : Lv m j F) (hj0 : 0 < j) {L : List (ByteArray × Nat)} (hL : ∀ x : ByteArray × Nat, x ∈ L ↔ ∃ p ∈ F.K, (foN m p).testBit x.2 = true ∧ x.1 = ldT (F.T p)) {G : Fr} (g : EnP m F.s L G) : Lv m (j + 1) G := by
  have hex : ∀ k, (∃ x ∈ L, x.2 = k) ↔ ∃ p ∈ F.K, (foN m p).testBit k = true := fun k => by
    constructor
    · rintro ⟨x, hx, rfl⟩
      obtain ⟨p, hp, h1, -⟩ := (hL x).1 hx
      exact ⟨p, hp, h1⟩
    · rintro ⟨p, hp, h1⟩
      exact ⟨(ldT (F.T p), k), (hL _).2 ⟨p, hp, h1, rfl⟩, rfl⟩
  -- a text of j + 1 bytes to a spot to which no shorter one leads
  have hpre : ∀ u k, u.length = j + 1 → Ld m u k → (∀ v, Ld m v k → j + 1 ≤ v.length) → ∃ v c p, u = v ++ [c] ∧ v.length = j ∧ Ld m v p ∧ p ∈ F.K ∧ (foN m p).testBit k = true ∧ (stN m k).testBit c = true := fun u k hu hk hmin => by
    have hne : u ≠ [] := fun e => by rw [e] at hu; cases hu
    rw [← List.dropLast_concat_getLast hne] at hk ⊢
    have hvl : u.dropLast.length = j := by rw [List.length_dropLast, hu]; rfl
    obtain ⟨h1, h2⟩ := hk.inv
    rcases h2 with ⟨e, h2⟩ | ⟨p, h2, h3⟩
    · exfalso
      rw [e] at hvl
      simp at hvl
      omega
    · refine ⟨u.dropLast, u.getLast hne, p, rfl, hvl, h2, (h.mem p).2 ⟨⟨_, hvl, h2⟩, fun v hv => ?_⟩, h3, h1⟩
      have := hmin _ (.more hv h3 h1)
      rw [List.length_append, List.length_singleton] at this
      omega
  have hnew : ∀ k, (∃ p ∈ F.K, (foN m p).testBit k = true) → stN m k ≠ 0 → ∃ u, u.length = j + 1 ∧ Ld m u k := fun k ⟨p, hp, h1⟩ hf => by
    obtain ⟨h2, h3, -⟩ := h.best p hp
    exact ⟨_, by rw [List.length_append, h3]; rfl, .more h2 h1 (lb_full (hS k) hf).1⟩
  have hns : ∀ k, F.s k = false ↔ ∀ u, Ld m u k → j + 1 ≤ u.length := fun k => by
    constructor
    · intro hk u hu
      rcases Nat.lt_or_ge u.length (j + 1) with h1 | h1
      · have := (h.seen k).2 ⟨u, by omega, hu⟩
        rw [hk] at this; cases this
      · exact h1
    · intro hk
      cases hs : F.s k with
      | false => rfl
      | true =>
        obtain ⟨u, h1, h2⟩ := (h.seen k).1 hs
        have := hk u h2
        omega
  refine ⟨g.nd, fun k => ?_, fun k => ?_, fun k hk => ?_, fun k hk => ⟨(g.frm k hk).1, ((g.mem k).1 hk).2.1⟩⟩
  · rw [g.mem, hex, hns]
    constructor
    · rintro ⟨h1, h2, h3⟩; exact ⟨hnew k h1 h2, h3⟩
    · rintro ⟨⟨u, hu, hk⟩, hmin⟩
      obtain ⟨v, c, p, -, -, -, hp, h1, h2⟩ := hpre u k hu hk hmin
      exact ⟨⟨p, hp, h1⟩, bit_ne h2, hmin⟩
  · rw [g.seen, hex]
    constructor
    · rintro (h1 | ⟨h1, h2⟩)
      · obtain ⟨u, hu, hk⟩ := (h.seen k).1 h1
        exact ⟨u, by omega, hk⟩
      · obtain ⟨u, hu, hk⟩ := hnew k h1 h2
        exact ⟨u, by omega, hk⟩
    · rintro ⟨u, hu, hk⟩
      cases hs : F.s k with
      | true => exact .inl rfl
      | false =>
        have hmin := (hns k).1 hs
        obtain ⟨v, c, p, -, -, -, hp, h1, h2⟩ := hpre u k (by have := hmin u hk; omega) hk hmin
        exact .inr ⟨⟨p, hp, h1⟩, bit_ne h2⟩
  · obtain ⟨h1, x, hx, h2, h3⟩ := g.frm k hk
    obtain ⟨hm1, hf, hs⟩ := (g.mem k).1 hk
    have hmin := (hns k).1 hs
    obtain ⟨p, hp, hp1, hp2⟩ := (hL x).1 hx
    rw [h2] at hp1
    obtain ⟨hb1, hb2, hb3⟩ := h.best p hp
    have htx : tx G.T k = tx F.T p ++ [lb (stN m k)] := by rw [tx_eq hS h1 hf, ← h3, hp2]
    rw [htx]
    refine ⟨.more hb1 hp1 (lb_full (hS k) hf).1, by rw [List.length_append, hb2]; rfl, fun u hu hl => ?_⟩
    obtain ⟨v, c, r, rfl, hv, hv2, hr, hr1, hc⟩ := hpre u k hl hu hmin
    have h4 := g.min k hk (ldT (F.T r), k) ((hL _).2 ⟨r, hr, hr1, rfl⟩) rfl
    rw [← h3, hp2] at h4
    exact Le.snoc (Le.trans h4 ((h.best r hr).2.2 v hv2 hv)) (lb_bit (hS k) hc).2.1
/-- What is told of a last spot of a front is the least text that is taken. -/
theorem Lv.found {j : Nat} {F : Fr} (h : Lv m j F) (hno : ∀ u, u ≠ [] → Tk m u → j ≤ u.length) {p : Nat} (hp : p ∈ F.K) (hl : m.la.getD p false = true) (hmin : ∀ k ∈ F.K, m.la.getD k false = true → Le (tx F.T p) (tx F.T k)) :
    Tk m (tx F.T p) ∧ ∀ u, u ≠ [] → Tk m u → Le (tx F.T p) u := by
  obtain ⟨h1, h2, -⟩ := h.best p hp
  have hne : tx F.T p ≠ [] := fun e => by have := h1.ne; rw [e] at this; simp at this
  refine ⟨(tk_iff hne).2 ⟨p, h1, hl⟩, fun u hu ht => ?_⟩
  have hj := hno u hu ht
  rcases Nat.lt_or_eq_of_le hj with hj | hj
  · exact .of ((ls_iff _ _).2 (.inl (by rw [h2]; exact hj)))
  · obtain ⟨k, hk, hkl⟩ := (tk_iff hu).1 ht
    have hkK : k ∈ F.K := (h.mem k).2 ⟨⟨u, hj.symm, hk⟩, fun v hv => hno v (fun e => by have := hv.ne; rw [e] at this; simp at this) ((tk_iff (fun e => by have := hv.ne; rw [e] at this; simp at this)).2 ⟨k, hv, hkl⟩)⟩
    exact Le.trans (hmin k hkK hkl) ((h.best k hkK).2.2 u hk hj.symm)
theorem Lv.pass {j : Nat} {F : Fr} (h : Lv m j F) (hno : ∀ u, u ≠ [] → Tk m u → j ≤ u.length) (hl : ∀ k ∈ F.K, m.la.getD k false = false) : ∀ u, u ≠ [] → Tk m u → j + 1 ≤ u.length := fun u hu ht => by
  have hj := hno u hu ht
  rcases Nat.lt_or_eq_of_le hj with hj | hj
  · exact hj
  · obtain ⟨k, hk, hkl⟩ := (tk_iff hu).1 ht
    have hkK : k ∈ F.K := (h.mem k).2 ⟨⟨u, hj.symm, hk⟩, fun v hv => hno v (fun e => by have := hv.ne; rw [e] at this; simp at this) ((tk_iff (fun e => by have := hv.ne; rw [e] at this; simp at this)).2 ⟨k, hv, hkl⟩)⟩
    rw [hl k hkK] at hkl; cases hkl
theorem Lv.none {j : Nat} {F : Fr} (h : Lv m j F) (hj0 : 0 < j) (hK : F.K = []) : ∀ n u k, u.length = n → Ld m u k → ∃ v, Ld m v k ∧ v.length < j := by
  intro n
  induction n using Nat.strongRecOn with
  | ind n ih =>
    intro u k hn hu
    by_cases hlt : u.length < j
    · exact ⟨u, hu, hlt⟩
    · have hsp : u = u.take j ++ u.drop j := (List.take_append_drop _ _).symm
      have htl : (u.take j).length = j := by rw [List.length_take]; omega
      rw [hsp] at hu
      obtain ⟨p, hp, hv⟩ := Ld.swap (fun e => by rw [e] at htl; simp at htl; omega) _ _ hu
      have : ∃ v, Ld m v p ∧ v.length < j := by
        by_cases hx : ∃ v, Ld m v p ∧ v.length < j
        · exact hx
        · exfalso
          have : p ∈ F.K := (h.mem p).2 ⟨⟨_, htl, hp⟩, fun v hv => by
            rcases Nat.lt_or_ge v.length j with h1 | h1
            · exact absurd ⟨v, hv, h1⟩ hx
            · exact h1⟩
          rw [hK] at this; cases this
      obtain ⟨v, hv1, hv2⟩ := this
      exact ih _ (by rw [List.length_append, List.length_drop]; omega) (v ++ u.drop j) k rfl (hv v hv1)
theorem Lv.never {j : Nat} {F : Fr} (h : Lv m j F) (hj0 : 0 < j) (hno : ∀ u, u ≠ [] → Tk m u → j ≤ u.length) (hK : F.K = []) : ∀ u, u ≠ [] → ¬ Tk m u := fun u hu ht => by
  obtain ⟨k, hk, hkl⟩ := (tk_iff hu).1 ht
  obtain ⟨v, hv, hl⟩ := h.none hj0 hK _ u k rfl hk
  have hne : v ≠ [] := fun e => by have := hv.ne; rw [e] at this; simp at this
  have := hno v hne ((tk_iff hne).2 ⟨k, hv, hkl⟩)
  omega
end
end Sk
end Go.Proofs.YtmjjkamndlefmaaDoor
