/- Several texts in one. -/
import Derived.Test.YtcgllipcnmlkbaaDoorPkL
import Derived.Test.YtcgllipcnmlkbaaDoorPkM
namespace Go.Proofs.YtcgllipcnmlkbaaDoor
namespace Rx
open Sets Tr
/-- m begins as l does, up to the place r, of which more is said. -/
structure Bg (l m : List Nat) (r : Nat) : Prop where
  ag : ∀ i, i ≤ r → pk m i = pk l i
  lt : r < l.length
  lm : r < m.length
  bs : pk l r ≠ 92
  dg : ¬ (48 ≤ pk l r ∧ pk l r ≤ 57)
  rg : 0 < r → pk l (r - 1) ≠ 45
def LX {α : Type} (l m : List Nat) (r p : Nat) (a b : L α) : Prop :=
  match a with
  | .ok _ q => p ≤ q ∧ q ≤ l.length ∧ (Bg l m r → q ≤ r → b = a)
  | .bad q => p ≤ q ∧ q ≤ l.length ∧ (Bg l m r → q = r → b = a)
theorem hx_ag {l m : List Nat} {r p : Nat} (h : Bg l m r) (hp : p + 3 ≤ r) : hx m p = hx l p := by
  unfold hx
  rw [h.ag _ (by omega), h.ag _ (by omega)]
theorem escape_x {l m k : List Nat} (hk : MOk k) (r p : Nat) (h92 : pk l p = 92) : LX l m r p (escape l k p) (escape m k p) := by
  have hp := pk_lt (l := l) (p := p) (by omega)
  by_cases h1 : k.contains (pk l (p + 1)) = true
  · have e : escape l k p = .ok (pk l (p + 1)) (p + 2) := if_pos h1
    rw [e]
    have := pk_lt (hk _ h1)
    refine ⟨by omega, by omega, fun hb hq => ?_⟩
    unfold escape
    rw [hb.ag (p + 1) (by omega), if_pos h1]
  · by_cases h2 : pk l (p + 1) = 120
    · cases h3 : hx l p with
      | none =>
        have e : escape l k p = .bad p := by unfold escape; rw [if_neg h1, if_pos h2, h3]
        rw [e]
        exact ⟨Nat.le_refl _, by omega, fun hb hq => absurd (hq ▸ h92) hb.bs⟩
      | some x =>
        have e : escape l k p = .ok x (p + 4) := by unfold escape; rw [if_neg h1, if_pos h2, h3]
        rw [e]
        have := hx_some h3
        refine ⟨by omega, by omega, fun hb hq => ?_⟩
        unfold escape
        rw [hb.ag (p + 1) (by omega), if_neg h1, if_pos h2, hx_ag hb (by omega), h3]
    · have e : escape l k p = .bad p := by unfold escape; rw [if_neg h1, if_neg h2]
      rw [e]
      exact ⟨Nat.le_refl _, by omega, fun hb hq => absurd (hq ▸ h92) hb.bs⟩
theorem single_x {l m k : List Nat} (hl : ∀ x ∈ l, x < 256) (hk : MOk k) (r p : Nat) (hp : p ≤ l.length) : LX l m r p (single l k p) (single m k p) := by
  by_cases h1 : pk l p = 256
  · have e : single l k p = .bad p := if_pos h1
    rw [e]
    exact ⟨Nat.le_refl _, hp, fun hb hq => by have := pk_ne (l := l) (p := p) (by have := hb.lt; omega) hl; omega⟩
  · have hlt : p < l.length := by
      rcases Nat.lt_or_ge p l.length with h | h
      · exact h
      · exact absurd (pk_end h) h1
    by_cases h2 : pk l p = 92
    · have e : single l k p = escape l k p := by unfold single; rw [if_neg h1, if_pos h2]
      rw [e]
      have h3 := escape_x (m := m) hk r p h2
      revert h3
      cases hh : escape l k p with
      | ok x q =>
        rintro ⟨h3, h4, h5⟩
        refine ⟨h3, h4, fun hb hq => ?_⟩
        rw [← h5 hb hq]
        unfold single
        rw [hb.ag p (by omega), if_neg h1, if_pos h2]
      | bad q =>
        rintro ⟨h3, h4, h5⟩
        refine ⟨h3, h4, fun hb hq => ?_⟩
        rw [← h5 hb hq]
        unfold single
        rw [hb.ag p (by omega), if_neg h1, if_pos h2]
    · by_cases h3 : k.contains (pk l p) = true
      · have e : single l k p = .bad p := by unfold single; rw [if_neg h1, if_neg h2, if_pos h3]
        rw [e]
        refine ⟨Nat.le_refl _, hp, fun hb hq => ?_⟩
        unfold single
        rw [hb.ag p (by omega), if_neg h1, if_neg h2, if_pos h3]
      · have e : single l k p = .ok (pk l p) (p + 1) := by unfold single; rw [if_neg h1, if_neg h2, if_neg h3]
        rw [e]
        refine ⟨by omega, by omega, fun hb hq => ?_⟩
        unfold single
        rw [hb.ag p (by omega), if_neg h1, if_neg h2, if_neg h3]
theorem digit_x {l m : List Nat} (r p : Nat) (hp : p ≤ l.length) : LX l m r p (digit l p) (digit m p) := by
  by_cases h1 : 48 ≤ pk l p ∧ pk l p ≤ 57
  · have e : digit l p = .ok (pk l p - 48) (p + 1) := if_pos h1
    have := pk_lt (l := l) (p := p) (by omega)
    rw [e]
    refine ⟨by omega, by omega, fun hb hq => ?_⟩
    unfold digit
    rw [hb.ag p (by omega), if_pos h1]
  · have e : digit l p = .bad p := if_neg h1
    rw [e]
    refine ⟨Nat.le_refl _, hp, fun hb hq => ?_⟩
    unfold digit
    rw [hb.ag p (by omega), if_neg h1]
theorem need_x {l m : List Nat} (r c p : Nat) (hc : c < 256) (x : Nat × Nat) (hp : p ≤ l.length) : LX l m r p (need l c p x) (need m c p x) := by
  by_cases h1 : pk l p = c
  · have e : need l c p x = .ok x (p + 1) := if_pos h1
    have := pk_lt (l := l) (p := p) (by omega)
    rw [e]
    refine ⟨by omega, by omega, fun hb hq => ?_⟩
    unfold need
    rw [hb.ag p (by omega), if_pos h1]
  · have e : need l c p x = .bad p := if_neg h1
    rw [e]
    refine ⟨Nat.le_refl _, hp, fun hb hq => ?_⟩
    unfold need
    rw [hb.ag p (by omega), if_neg h1]
/-- one thing, and another one behind it -/
theorem LX.next {α β : Type} {l m : List Nat} {r p : Nat} {a b : L α} {c d : L β} (h : LX l m r p a b)
    (hbad : ∀ q, a = .bad q → c = .bad q ∧ (Bg l m r → q = r → b = a → d = .bad q))
    (hok : ∀ x q, a = .ok x q → p ≤ q → q ≤ l.length → ∃ d', LX l m r q c d' ∧ (Bg l m r → q ≤ r → b = a → d = d')) : LX l m r p c d := by
  cases a with
  | bad q =>
    obtain ⟨h1, h2, h3⟩ := h
    obtain ⟨e, h4⟩ := hbad q rfl
    rw [e]
    exact ⟨h1, h2, fun hb hq => h4 hb hq (h3 hb hq)⟩
  | ok x q =>
    obtain ⟨h1, h2, h3⟩ := h
    obtain ⟨d', h4, h5⟩ := hok x q rfl h1 h2
    cases c with
    | bad q' =>
      obtain ⟨h6, h7, h8⟩ := h4
      exact ⟨by omega, h7, fun hb hq => (h5 hb (by omega) (h3 hb (by omega))).trans (h8 hb hq)⟩
    | ok y q' =>
      obtain ⟨h6, h7, h8⟩ := h4
      exact ⟨by omega, h7, fun hb hq => (h5 hb (by omega) (h3 hb (by omega))).trans (h8 hb hq)⟩
def counts2 (l : List Nat) (a p : Nat) : L (Nat × Nat) :=
  match digit l (p + 1) with
  | .bad q => .bad q
  | .ok b p => if b < a then .bad (p - 1) else need l 125 p (a, b)
def counts1 (l : List Nat) (a p : Nat) : L (Nat × Nat) := if pk l p = 44 then counts2 l a p else need l 125 p (a, a)
theorem counts_eq (l : List Nat) (p : Nat) : counts l p = match digit l p with | .bad q => .bad q | .ok a p => counts1 l a p := by
  unfold counts counts1 counts2
  rfl
theorem counts2_x {l m : List Nat} (r a p : Nat) (hp : p < l.length) : LX l m r (p + 1) (counts2 l a p) (counts2 m a p) := by
  have hd := digit_x (l := l) (m := m) r (p + 1) (by omega)
  cases e : digit l (p + 1) with
  | bad q =>
    rw [e] at hd
    obtain ⟨h1, h2, h3⟩ := hd
    have e1 : counts2 l a p = .bad q := by unfold counts2; rw [e]
    rw [e1]
    exact ⟨h1, h2, fun hb hq => by unfold counts2; rw [h3 hb hq]⟩
  | ok b q =>
    rw [e] at hd
    obtain ⟨h1, h2, h3⟩ := hd
    have h4 := digit_ok e
    by_cases hba : b < a
    · have e1 : counts2 l a p = .bad (q - 1) := by unfold counts2; rw [e]; exact if_pos hba
      rw [e1]
      refine ⟨by omega, by omega, fun hb hq => ?_⟩
      exfalso
      have : 48 ≤ pk l (p + 1) ∧ pk l (p + 1) ≤ 57 := by
        unfold digit at e
        split at e
        · assumption
        · cases e
      have h5 : r = p + 1 := by omega
      exact hb.dg (h5 ▸ this)
    · have e1 : counts2 l a p = need l 125 q (a, b) := by unfold counts2; rw [e]; exact if_neg hba
      have hn := need_x (l := l) (m := m) r 125 q (by decide) (a, b) h2
      rw [e1]
      cases e2 : need l 125 q (a, b) with
      | bad q' =>
        rw [e2] at hn
        refine ⟨by have := hn.1; omega, hn.2.1, fun hb hq => ?_⟩
        have h6 := hn.1
        unfold counts2
        rw [h3 hb (by omega)]
        simp only [if_neg hba]
        exact hn.2.2 hb hq
      | ok x q' =>
        rw [e2] at hn
        refine ⟨by have := hn.1; omega, hn.2.1, fun hb hq => ?_⟩
        have h6 := hn.1
        unfold counts2
        rw [h3 hb (by omega)]
        simp only [if_neg hba]
        exact hn.2.2 hb hq
theorem LX.low {α : Type} {l m : List Nat} {r p p' : Nat} {a b : L α} (h : LX l m r p a b) (hp : p' ≤ p) : LX l m r p' a b := by
  cases a with
  | bad q => exact ⟨Nat.le_trans hp h.1, h.2⟩
  | ok x q => exact ⟨Nat.le_trans hp h.1, h.2⟩
/-- the same head byte -/
theorem LX.head {α : Type} {l m : List Nat} {r p : Nat} {a b b' : L α} (h : LX l m r p a b') (e : Bg l m r → p ≤ r → b = b') : LX l m r p a b := by
  cases a with
  | bad q => exact ⟨h.1, h.2.1, fun hb hq => (e hb (by have := h.1; omega)).trans (h.2.2 hb hq)⟩
  | ok x q => exact ⟨h.1, h.2.1, fun hb hq => (e hb (by have := h.1; omega)).trans (h.2.2 hb hq)⟩
theorem LX.ok1 {α : Type} {l m : List Nat} {r p : Nat} (x : α) (hp : p < l.length) : LX l m r p (.ok x (p + 1)) (.ok x (p + 1)) := ⟨by omega, by omega, fun _ _ => rfl⟩
theorem counts1_x {l m : List Nat} (r a p : Nat) (hp : p ≤ l.length) : LX l m r p (counts1 l a p) (counts1 m a p) := by
  by_cases h : pk l p = 44
  · have hlt := pk_lt (l := l) (p := p) (by omega)
    have e : counts1 l a p = counts2 l a p := if_pos h
    rw [e]
    exact LX.head ((counts2_x r a p hlt).low (by omega)) (fun hb hq => by unfold counts1; rw [hb.ag p hq, if_pos h])
  · have e : counts1 l a p = need l 125 p (a, a) := if_neg h
    rw [e]
    exact LX.head (need_x r 125 p (by decide) (a, a) hp) (fun hb hq => by unfold counts1; rw [hb.ag p hq, if_neg h])
theorem counts_x {l m : List Nat} (r p : Nat) (hp : p ≤ l.length) : LX l m r p (counts l p) (counts m p) := by
  rw [counts_eq l, counts_eq m]
  refine (digit_x (m := m) r p hp).next (fun q e => ⟨by rw [e], fun _ _ e2 => by rw [e2, e]⟩) (fun a q e h1 h2 => ⟨counts1 m a q, ?_, fun hb hq e2 => by rw [e2, e]⟩)
  rw [e]
  exact counts1_x r a q h2
def timesC (l : List Nat) (p : Nat) : L (Option (Int × Int)) := match counts l (p + 1) with | .ok (a, b) q => .ok (some ((a : Int), (b : Int))) q | .bad q => .bad q
theorem timesC_x {l m : List Nat} (r p : Nat) (hp : p < l.length) : LX l m r (p + 1) (timesC l p) (timesC m p) := by
  refine (counts_x (m := m) r (p + 1) hp).next (fun q e => ⟨by unfold timesC; rw [e], fun _ _ e2 => by unfold timesC; rw [e2, e]⟩) (fun a q e h1 h2 => ⟨.ok (some ((a.1 : Int), (a.2 : Int))) q, ?_, fun hb hq e2 => by unfold timesC; rw [e2, e]⟩)
  have e1 : timesC l p = .ok (some ((a.1 : Int), (a.2 : Int))) q := by unfold timesC; rw [e]
  rw [e1]
  exact ⟨Nat.le_refl _, h2, fun _ _ => rfl⟩
theorem times_x {l m : List Nat} (r p : Nat) (hp : p ≤ l.length) : LX l m r p (times l p) (times m p) := by
  by_cases h1 : pk l p = 42
  · have hlt := pk_lt (l := l) (p := p) (by omega)
    have e : times l p = .ok (some (0, -1)) (p + 1) := if_pos h1
    rw [e]
    exact (LX.ok1 _ hlt).head (fun hb hq => by unfold times; rw [hb.ag p hq, if_pos h1])
  · by_cases h2 : pk l p = 43
    · have hlt := pk_lt (l := l) (p := p) (by omega)
      have e : times l p = .ok (some (1, -1)) (p + 1) := by unfold times; rw [if_neg h1, if_pos h2]
      rw [e]
      exact (LX.ok1 _ hlt).head (fun hb hq => by unfold times; rw [hb.ag p hq, if_neg h1, if_pos h2])
    · by_cases h3 : pk l p = 63
      · have hlt := pk_lt (l := l) (p := p) (by omega)
        have e : times l p = .ok (some (0, 1)) (p + 1) := by unfold times; rw [if_neg h1, if_neg h2, if_pos h3]
        rw [e]
        exact (LX.ok1 _ hlt).head (fun hb hq => by unfold times; rw [hb.ag p hq, if_neg h1, if_neg h2, if_pos h3])
      · by_cases h4 : pk l p = 123
        · have hlt := pk_lt (l := l) (p := p) (by omega)
          have e : times l p = timesC l p := by unfold times; rw [if_neg h1, if_neg h2, if_neg h3, if_pos h4]; rfl
          rw [e]
          exact ((timesC_x r p hlt).low (by omega)).head (fun hb hq => by unfold times; rw [hb.ag p hq, if_neg h1, if_neg h2, if_neg h3, if_pos h4]; rfl)
        · have e : times l p = .ok none p := by unfold times; rw [if_neg h1, if_neg h2, if_neg h3, if_neg h4]
          rw [e]
          exact ⟨Nat.le_refl _, hp, fun hb hq => by unfold times; rw [hb.ag p hq, if_neg h1, if_neg h2, if_neg h3, if_neg h4]⟩
theorem inner_ok : MOk inner := fun _ => inner_lt
theorem marks_ok : MOk marks := fun _ => marks_lt
def item2 (l : List Nat) (a p : Nat) : L Nat := match single l inner (p + 1) with | .bad q => .bad q | .ok b q => if b < a then .bad (p + 1) else .ok (rangeN a b) q
def item1 (l : List Nat) (a p : Nat) : L Nat := if pk l p = 45 then item2 l a p else .ok (2 ^ a) p
theorem item_eq (l : List Nat) (p : Nat) : item l p = match single l inner p with | .bad q => .bad q | .ok a p => item1 l a p := by
  unfold item item1 item2
  rfl
theorem item2_x {l m : List Nat} (hl : ∀ x ∈ l, x < 256) (r a p : Nat) (hp : p < l.length) (h45 : pk l p = 45) : LX l m r (p + 1) (item2 l a p) (item2 m a p) := by
  have hd := single_x (m := m) hl inner_ok r (p + 1) (by omega)
  cases e : single l inner (p + 1) with
  | bad q =>
    rw [e] at hd
    obtain ⟨h1, h2, h3⟩ := hd
    have e1 : item2 l a p = .bad q := by unfold item2; rw [e]
    rw [e1]
    exact ⟨h1, h2, fun hb hq => by unfold item2; rw [h3 hb hq]⟩
  | ok b q =>
    rw [e] at hd
    obtain ⟨h1, h2, h3⟩ := hd
    by_cases hba : b < a
    · have e1 : item2 l a p = .bad (p + 1) := by unfold item2; rw [e]; exact if_pos hba
      rw [e1]
      refine ⟨by omega, by omega, fun hb hq => ?_⟩
      exfalso
      have := hb.rg (by omega)
      rw [← hq] at this
      exact this h45
    · have e1 : item2 l a p = .ok (rangeN a b) q := by unfold item2; rw [e]; exact if_neg hba
      rw [e1]
      refine ⟨h1, h2, fun hb hq => ?_⟩
      unfold item2
      rw [h3 hb hq]
      exact if_neg hba
theorem item1_x {l m : List Nat} (hl : ∀ x ∈ l, x < 256) (r a p : Nat) (hp : p ≤ l.length) : LX l m r p (item1 l a p) (item1 m a p) := by
  by_cases h : pk l p = 45
  · have hlt := pk_lt (l := l) (p := p) (by omega)
    have e : item1 l a p = item2 l a p := if_pos h
    rw [e]
    exact LX.head ((item2_x hl r a p hlt h).low (by omega)) (fun hb hq => by unfold item1; rw [hb.ag p hq, if_pos h])
  · have e : item1 l a p = .ok (2 ^ a) p := if_neg h
    rw [e]
    exact ⟨Nat.le_refl _, hp, fun hb hq => by unfold item1; rw [hb.ag p hq, if_neg h]⟩
theorem item_x {l m : List Nat} (hl : ∀ x ∈ l, x < 256) (r p : Nat) (hp : p ≤ l.length) : LX l m r p (item l p) (item m p) := by
  rw [item_eq l, item_eq m]
  refine (single_x (m := m) hl inner_ok r p hp).next (fun q e => ⟨by rw [e], fun _ _ e2 => by rw [e2, e]⟩) (fun a q e h1 h2 => ⟨item1 m a q, ?_, fun hb hq e2 => by rw [e2, e]⟩)
  rw [e]
  exact item1_x hl r a q h2
theorem clsL_x {l m : List Nat} (hl : ∀ x ∈ l, x < 256) (r : Nat) : ∀ (f g S p : Nat), p ≤ l.length → l.length < p + f → (p ≤ r → r < m.length → m.length < p + g) → LX l m r p (clsL l f S p) (clsL m g S p)
  | 0, _, _, _, h1, h2, _ => by omega
  | f + 1, g, S, p, hp, hf, hg => by
    have hg1 : Bg l m r → p ≤ r → ∃ g', g = g' + 1 := fun hb hq => ⟨g - 1, by have := hg hq hb.lm; have := hb.lm; omega⟩
    by_cases h : pk l p = 93
    · have hlt := pk_lt (l := l) (p := p) (by omega)
      have e : clsL l (f + 1) S p = .ok S (p + 1) := if_pos h
      rw [e]
      refine (LX.ok1 _ hlt).head (fun hb hq => ?_)
      obtain ⟨g', rfl⟩ := hg1 hb hq
      unfold clsL
      rw [hb.ag p hq, if_pos h]
    · have e : clsL l (f + 1) S p = match item l p with | .bad q => .bad q | .ok T q => clsL l f (S ||| T) q := if_neg h
      rw [e]
      refine (item_x (m := m) hl r p hp).next (fun q e1 => ⟨by rw [e1], fun hb hq e2 => ?_⟩) (fun T q e1 h1 h2 => ⟨clsL m (g - 1) (S ||| T) q, ?_, fun hb hq e2 => ?_⟩)
      · have hpq : p ≤ r := by
          have := item_x (m := m) hl r p hp
          rw [e1] at this
          have := this.1
          omega
        obtain ⟨g', rfl⟩ := hg1 hb hpq
        unfold clsL
        rw [hb.ag p hpq, if_neg h, e2, e1]
      · rw [e1]
        have h3 := item_ok hl e1
        refine clsL_x hl r f (g - 1) (S ||| T) q h2 (by omega) (fun h4 h5 => ?_)
        have := hg (by omega) h5
        omega
      · obtain ⟨g', rfl⟩ := hg1 hb (by omega)
        show clsL m (g' + 1) S p = clsL m g' (S ||| T) q
        rw [show clsL m (g' + 1) S p = _ from rfl, clsL, hb.ag p (by omega), if_neg h, e2, e1]
def cls1 (l : List Nat) (f p : Nat) : L Nat := match clsL l f 0 p with | .ok S q => .ok (full ^^^ S) q | .bad q => .bad q
theorem cls_x {l m : List Nat} (hl : ∀ x ∈ l, x < 256) (r p : Nat) (hp : p ≤ l.length) : LX l m r p (cls l p) (cls m p) := by
  by_cases h : pk l p = 94
  · have hlt := pk_lt (l := l) (p := p) (by omega)
    have e : cls l p = cls1 l (l.length + 1) (p + 1) := if_pos h
    rw [e]
    refine LX.head (b' := cls1 m (m.length + 1) (p + 1)) (LX.low (p := p + 1) ?_ (by omega)) (fun hb hq => by unfold cls; rw [hb.ag p hq, if_pos h]; rfl)
    refine (clsL_x (m := m) hl r (l.length + 1) (m.length + 1) 0 (p + 1) hlt (by omega) (fun _ _ => by omega)).next (fun q e => ⟨by unfold cls1; rw [e], fun _ _ e2 => by unfold cls1; rw [e2, e]⟩) (fun S q e h1 h2 => ⟨.ok (full ^^^ S) q, ?_, fun hb hq e2 => by unfold cls1; rw [e2, e]⟩)
    have e1 : cls1 l (l.length + 1) (p + 1) = .ok (full ^^^ S) q := by unfold cls1; rw [e]
    rw [e1]
    exact ⟨Nat.le_refl _, h2, fun _ _ => rfl⟩
  · have e : cls l p = clsL l (l.length + 1) 0 p := if_neg h
    rw [e]
    exact (clsL_x (m := m) hl r (l.length + 1) (m.length + 1) 0 p hp (by omega) (fun _ _ => by omega)).head (fun hb hq => by unfold cls; rw [hb.ag p hq, if_neg h])
def GX (l m : List Nat) (r p t : Nat) (a b : G) : Prop :=
  match a with
  | .ok _ q _ => p + t ≤ q ∧ q ≤ l.length ∧ (Bg l m r → q ≤ r → b = a)
  | .bad _ q => p ≤ q ∧ q ≤ l.length ∧ (Bg l m r → q = r → b = a)
theorem GX.low {l m : List Nat} {r p p' t t' : Nat} {a b : G} (h : GX l m r p t a b) (hp : p' ≤ p) (ht : p' + t' ≤ p + t) : GX l m r p' t' a b := by
  cases a with
  | bad lg q => exact ⟨Nat.le_trans hp h.1, h.2⟩
  | ok n q ns => exact ⟨Nat.le_trans ht h.1, h.2⟩
theorem GX.head {l m : List Nat} {r p t : Nat} {a b b' : G} (h : GX l m r p t a b') (e : Bg l m r → p ≤ r → b = b') : GX l m r p t a b := by
  cases a with
  | bad lg q => exact ⟨h.1, h.2.1, fun hb hq => (e hb (by have := h.1; omega)).trans (h.2.2 hb hq)⟩
  | ok n q ns => exact ⟨h.1, h.2.1, fun hb hq => (e hb (by have := h.1; omega)).trans (h.2.2 hb hq)⟩
theorem GX.bind {l m : List Nat} {r p t u : Nat} {a b : G} {k k' : Nat → Nat → List Nd → G} (h : GX l m r p t a b) (hu : u ≤ t)
    (hk : ∀ n q ns, a = .ok n q ns → p + t ≤ q → q ≤ l.length → GX l m r q 0 (k n q ns) (k' n q ns)) : GX l m r p u (a.bind k) (b.bind k') := by
  cases a with
  | bad lg q =>
    obtain ⟨h1, h2, h3⟩ := h
    exact ⟨h1, h2, fun hb hq => by rw [h3 hb hq]; rfl⟩
  | ok n q ns =>
    obtain ⟨h1, h2, h3⟩ := h
    have h4 := hk n q ns rfl h1 h2
    show GX l m r p u (k n q ns) (b.bind k')
    cases e : k n q ns with
    | bad lg q' =>
      rw [e] at h4
      obtain ⟨h5, h6, h7⟩ := h4
      exact ⟨by omega, h6, fun hb hq => by rw [h3 hb (by omega)]; exact h7 hb hq⟩
    | ok n' q' ns' =>
      rw [e] at h4
      obtain ⟨h5, h6, h7⟩ := h4
      exact ⟨by omega, h6, fun hb hq => by rw [h3 hb (by omega)]; exact h7 hb hq⟩
theorem LX.bind {α : Type} {l m : List Nat} {r p t : Nat} {a b : L α} {k k' : α → Nat → G} (h : LX l m r p a b)
    (hk : ∀ x q, a = .ok x q → p ≤ q → q ≤ l.length → GX l m r q 0 (k x q) (k' x q)) (ht : ∀ x q, a = .ok x q → p + t ≤ q) : GX l m r p t (a.bind k) (b.bind k') := by
  cases a with
  | bad q =>
    obtain ⟨h1, h2, h3⟩ := h
    exact ⟨h1, h2, fun hb hq => by rw [h3 hb hq]; rfl⟩
  | ok x q =>
    obtain ⟨h1, h2, h3⟩ := h
    have h4 := hk x q rfl h1 h2
    have h8 := ht x q rfl
    show GX l m r p t (k x q) (b.bind k')
    cases e : k x q with
    | bad lg q' =>
      rw [e] at h4
      obtain ⟨h5, h6, h7⟩ := h4
      exact ⟨by omega, h6, fun hb hq => by rw [h3 hb (by omega)]; exact h7 hb hq⟩
    | ok n' q' ns' =>
      rw [e] at h4
      obtain ⟨h5, h6, h7⟩ := h4
      exact ⟨by omega, h6, fun hb hq => by rw [h3 hb (by omega)]; exact h7 hb hq⟩
theorem GX.ok {l m : List Nat} {r p q t : Nat} (n : Nat) (ns : List Nd) (h1 : p + t ≤ q) (h2 : q ≤ l.length) : GX l m r p t (.ok n q ns) (.ok n q ns) := ⟨h1, h2, fun _ _ => rfl⟩
theorem GX.bad {l m : List Nat} {r p t : Nat} (lg : Bool) (h2 : p ≤ l.length) : GX l m r p t (.bad lg p) (.bad lg p) := ⟨Nat.le_refl _, h2, fun _ _ => rfl⟩
theorem ends_ag {l m : List Nat} {r p : Nat} (hb : Bg l m r) (hp : p ≤ r) : ends m p = ends l p := by unfold ends; rw [hb.ag p hp]
theorem not_ends_lt {l : List Nat} {p : Nat} (h : ends l p = false) : p < l.length := by
  rcases Nat.lt_or_ge p l.length with h1 | h1
  · exact h1
  · unfold ends at h
    rw [pk_end h1] at h
    exact absurd h (by decide)
theorem go_x {l m : List Nat} (hl : ∀ x ∈ l, x < 256) (r : Nat) : ∀ (f g : Nat) (md : Md) (o p : Nat) (ns : List Nd), p ≤ l.length → 5 * (l.length - p) + md.c < f → (p ≤ r → r < m.length → 5 * (m.length - p) + md.c < g) → GX l m r p md.t (go l f md o p ns) (go m g md o p ns) := by
  intro f
  induction f with
  | zero => intro g md o p ns _ h _; omega
  | succ f ih =>
    intro g md o p ns hp hf hg
    have hg1 : Bg l m r → p ≤ r → ∃ g', g = g' + 1 := fun hb hq => ⟨g - 1, by have := hg hq hb.lm; omega⟩
    have hgq : ∀ {q : Nat} {md' : Md}, (p < q ∧ md'.c < md.c + 5 ∨ p ≤ q ∧ md'.c < md.c) → q ≤ r → r < m.length → 5 * (m.length - q) + md'.c < g - 1 := fun {q md'} h1 h2 h3 => by
      have := hg (by omega) h3
      omega
    cases md with
    | pat =>
      have e : go l (f + 1) .pat o p ns = (go l f .bra o p ns).bind fun n p ns => go l f (.patL n) o p ns := by rw [go]
      rw [e]
      refine GX.head (b' := (go m (g - 1) .bra o p ns).bind fun n p ns => go m (g - 1) (.patL n) o p ns) ?_ (fun hb hq => by obtain ⟨g', rfl⟩ := hg1 hb hq; rw [go]; rfl)
      refine (ih (g - 1) .bra o p ns hp (by simp only [Md.c] at *; omega) (fun h1 h2 => hgq (.inr ⟨Nat.le_refl _, by simp [Md.c]⟩) h1 h2)).bind (Nat.le_refl _) (fun n q ns' _ h1 h2 => ?_)
      exact (ih (g - 1) (.patL n) o q ns' h2 (by simp only [Md.c, Md.t] at *; omega) (fun h3 h4 => hgq (.inr ⟨by simp only [Md.t] at h1; omega, by simp [Md.c]⟩) h3 h4)).low (Nat.le_refl _) (Nat.le_refl _)
    | patL n =>
      by_cases h : pk l p = 124
      · have hlt := pk_lt (l := l) (p := p) (by omega)
        have e : go l (f + 1) (.patL n) o p ns = (go l f .bra o (p + 1) ns).bind fun m p ns => go l f (.patL ns.length) o p (ns ++ [⟨4, 0, n, m, 0, 0⟩]) := by rw [go, if_pos h]
        rw [e]
        refine GX.head (b' := (go m (g - 1) .bra o (p + 1) ns).bind fun k p ns => go m (g - 1) (.patL ns.length) o p (ns ++ [⟨4, 0, n, k, 0, 0⟩])) (GX.low (p := p + 1) (t := 0) ?_ (by omega) (by simp only [Md.t]; omega)) (fun hb hq => by obtain ⟨g', rfl⟩ := hg1 hb hq; rw [go, hb.ag p hq, if_pos h]; rfl)
        refine (ih (g - 1) .bra o (p + 1) ns hlt (by simp only [Md.c] at *; omega) (fun h1 h2 => hgq (.inl ⟨by omega, by simp [Md.c]⟩) h1 h2)).bind (Nat.le_refl _) (fun k q ns' _ h1 h2 => ?_)
        exact (ih (g - 1) (.patL ns'.length) o q _ h2 (by simp only [Md.c, Md.t] at *; omega) (fun h3 h4 => hgq (.inl ⟨by simp only [Md.t] at h1; omega, by simp [Md.c]⟩) h3 h4)).low (Nat.le_refl _) (Nat.le_refl _)
      · have e : go l (f + 1) (.patL n) o p ns = .ok n p ns := by rw [go, if_neg h]
        rw [e]
        exact GX.head (b' := .ok n p ns) (GX.ok n ns (Nat.le_refl _) hp) (fun hb hq => by obtain ⟨g', rfl⟩ := hg1 hb hq; rw [go, hb.ag p hq, if_neg h])
    | bra =>
      by_cases h : ends l p = true
      · have e : go l (f + 1) .bra o p ns = add ⟨1, 0, 0, 0, 0, 0⟩ p ns := by rw [go, if_pos h]
        rw [e]
        exact GX.head (b' := add ⟨1, 0, 0, 0, 0, 0⟩ p ns) (GX.ok _ _ (Nat.le_refl _) hp) (fun hb hq => by obtain ⟨g', rfl⟩ := hg1 hb hq; rw [go, ends_ag hb hq, if_pos h])
      · have hlt := not_ends_lt (by simpa using h)
        have e : go l (f + 1) .bra o p ns = (go l f .pie o p ns).bind fun n p ns => go l f (.braL n) o p ns := by rw [go, if_neg h]
        rw [e]
        refine GX.head (b' := (go m (g - 1) .pie o p ns).bind fun n p ns => go m (g - 1) (.braL n) o p ns) ?_ (fun hb hq => by obtain ⟨g', rfl⟩ := hg1 hb hq; rw [go, ends_ag hb hq, if_neg h]; rfl)
        refine (ih (g - 1) .pie o p ns hp (by simp only [Md.c] at *; omega) (fun h1 h2 => hgq (.inr ⟨Nat.le_refl _, by simp [Md.c]⟩) h1 h2)).bind (by simp [Md.t]) (fun k q ns' _ h1 h2 => ?_)
        exact (ih (g - 1) (.braL k) o q _ h2 (by simp only [Md.c, Md.t] at *; omega) (fun h3 h4 => hgq (.inl ⟨by simp only [Md.t] at h1; omega, by simp [Md.c]⟩) h3 h4)).low (Nat.le_refl _) (Nat.le_refl _)
    | braL n =>
      by_cases h : ends l p = true
      · have e : go l (f + 1) (.braL n) o p ns = .ok n p ns := by rw [go, if_pos h]
        rw [e]
        exact GX.head (b' := .ok n p ns) (GX.ok n ns (Nat.le_refl _) hp) (fun hb hq => by obtain ⟨g', rfl⟩ := hg1 hb hq; rw [go, ends_ag hb hq, if_pos h])
      · have hlt := not_ends_lt (by simpa using h)
        have e : go l (f + 1) (.braL n) o p ns = (go l f .pie o p ns).bind fun m p ns => go l f (.braL ns.length) o p (ns ++ [⟨3, 0, n, m, 0, 0⟩]) := by rw [go, if_neg h]
        rw [e]
        refine GX.head (b' := (go m (g - 1) .pie o p ns).bind fun k p ns => go m (g - 1) (.braL ns.length) o p (ns ++ [⟨3, 0, n, k, 0, 0⟩])) ?_ (fun hb hq => by obtain ⟨g', rfl⟩ := hg1 hb hq; rw [go, ends_ag hb hq, if_neg h]; rfl)
        refine (ih (g - 1) .pie o p ns hp (by simp only [Md.c] at *; omega) (fun h1 h2 => hgq (.inr ⟨Nat.le_refl _, by simp [Md.c]⟩) h1 h2)).bind (by simp [Md.t]) (fun k q ns' _ h1 h2 => ?_)
        exact (ih (g - 1) (.braL ns'.length) o q _ h2 (by simp only [Md.c, Md.t] at *; omega) (fun h3 h4 => hgq (.inl ⟨by simp only [Md.t] at h1; omega, by simp [Md.c]⟩) h3 h4)).low (Nat.le_refl _) (Nat.le_refl _)
    | pie =>
      have e : go l (f + 1) .pie o p ns = (go l f .ato o p ns).bind fun n p ns => (times l p).bind fun r p => match r with | none => .ok n p ns | some (a, b) => add ⟨5, 0, n, 0, a, b⟩ p ns := by rw [go]; rfl
      rw [e]
      refine GX.head (b' := (go m (g - 1) .ato o p ns).bind fun n p ns => (times m p).bind fun r p => match r with | none => .ok n p ns | some (a, b) => add ⟨5, 0, n, 0, a, b⟩ p ns) ?_ (fun hb hq => by obtain ⟨g', rfl⟩ := hg1 hb hq; rw [go]; rfl)
      refine (ih (g - 1) .ato o p ns hp (by simp only [Md.c] at *; omega) (fun h1 h2 => hgq (.inr ⟨Nat.le_refl _, by simp [Md.c]⟩) h1 h2)).bind (Nat.le_refl _) (fun k q ns' _ h1 h2 => ?_)
      refine (times_x (m := m) r q h2).bind (fun x q' _ h3 h4 => ?_) (fun x q' e2 => (times_ok e2 h2).1)
      cases x with
      | none => exact GX.ok _ _ (Nat.le_refl _) h4
      | some ab => exact GX.ok _ _ (Nat.le_refl _) h4
    | ato =>
      by_cases h40 : pk l p = 40
      · have hlt := pk_lt (l := l) (p := p) (by omega)
        by_cases h16 : o = 16
        · have e : go l (f + 1) .ato o p ns = .bad true p := by rw [go, if_pos h40, if_pos h16]
          rw [e]
          exact (GX.bad true hp).head (fun hb hq => by obtain ⟨g', rfl⟩ := hg1 hb hq; rw [go, hb.ag p hq, if_pos h40, if_pos h16])
        · have e : go l (f + 1) .ato o p ns = (go l f .pat (o + 1) (p + 1) ns).bind fun n p ns => if pk l p = 41 then .ok n (p + 1) ns else .bad false p := by rw [go, if_pos h40, if_neg h16]
          rw [e]
          refine GX.head (b' := (go m (g - 1) .pat (o + 1) (p + 1) ns).bind fun n p ns => if pk m p = 41 then .ok n (p + 1) ns else .bad false p) (GX.low (p := p + 1) (t := 0) ?_ (by omega) (by simp only [Md.t]; omega)) (fun hb hq => by obtain ⟨g', rfl⟩ := hg1 hb hq; rw [go, hb.ag p hq, if_pos h40, if_neg h16]; rfl)
          refine (ih (g - 1) .pat (o + 1) (p + 1) ns hlt (by simp only [Md.c] at *; omega) (fun h1 h2 => hgq (.inl ⟨by omega, by simp [Md.c]⟩) h1 h2)).bind (Nat.le_refl _) (fun k q ns' _ h1 h2 => ?_)
          by_cases h41 : pk l q = 41
          · have hlt2 := pk_lt (l := l) (p := q) (by omega)
            rw [if_pos h41]
            exact GX.head (b' := .ok k (q + 1) ns') (GX.ok _ _ (by omega) hlt2) (fun hb hq => by rw [hb.ag q hq, if_pos h41])
          · rw [if_neg h41]
            exact (GX.bad false h2).head (fun hb hq => by rw [hb.ag q hq, if_neg h41])
      · by_cases h91 : pk l p = 91
        · have hlt := pk_lt (l := l) (p := p) (by omega)
          have e : go l (f + 1) .ato o p ns = (cls l (p + 1)).bind fun S p => addS S p ns := by rw [go, if_neg h40, if_pos h91]
          rw [e]
          refine GX.head (b' := (cls m (p + 1)).bind fun S p => addS S p ns) (GX.low (p := p + 1) (t := 0) ?_ (by omega) (by simp only [Md.t]; omega)) (fun hb hq => by obtain ⟨g', rfl⟩ := hg1 hb hq; rw [go, hb.ag p hq, if_neg h40, if_pos h91])
          exact (cls_x (m := m) hl r (p + 1) hlt).bind (fun x q _ h1 h2 => GX.ok _ _ (Nat.le_refl _) h2) (fun x q e2 => by have := (cls_ok hl e2).2.1; omega)
        · by_cases h46 : pk l p = 46
          · have hlt := pk_lt (l := l) (p := p) (by omega)
            have e : go l (f + 1) .ato o p ns = addS full (p + 1) ns := by rw [go, if_neg h40, if_neg h91, if_pos h46]
            rw [e]
            exact GX.head (b' := addS full (p + 1) ns) (GX.ok _ _ (by simp only [Md.t]; omega) hlt) (fun hb hq => by obtain ⟨g', rfl⟩ := hg1 hb hq; rw [go, hb.ag p hq, if_neg h40, if_neg h91, if_pos h46])
          · have e : go l (f + 1) .ato o p ns = (single l marks p).bind fun c p => addS (2 ^ c) p ns := by rw [go, if_neg h40, if_neg h91, if_neg h46]
            rw [e]
            refine GX.head (b' := (single m marks p).bind fun c p => addS (2 ^ c) p ns) ?_ (fun hb hq => by obtain ⟨g', rfl⟩ := hg1 hb hq; rw [go, hb.ag p hq, if_neg h40, if_neg h91, if_neg h46])
            exact (single_x (m := m) hl marks_ok r p hp).bind (fun x q _ h1 h2 => GX.ok _ _ (Nat.le_refl _) h2) (fun x q e2 => by have := (single_ok marks_ok hl e2).2.1; simp only [Md.t]; omega)
theorem nots_ag {l m : List Nat} {r : Nat} (hb : Bg l m r) : ∀ (f g : Nat) (b : Bool) (p : Nat), p ≤ l.length → l.length < p + f → m.length < p + g → (nots l f b p).2 ≤ r → nots m g b p = nots l f b p
  | 0, g, b, p, h, hf, hg, hr => by omega
  | f + 1, g, b, p, h, hf, hg, hr => by
    have h0 := nots_ok (l := l) (f + 1) b p h hf
    obtain ⟨g', rfl⟩ : ∃ g', g = g' + 1 := ⟨g - 1, by have := hb.lm; omega⟩
    by_cases h1 : pk l p = 33
    · have hlt := pk_lt (l := l) (p := p) (by omega)
      have e : nots l (f + 1) b p = nots l f (!b) (p + 1) := by rw [nots, if_pos h1]
      rw [e] at hr h0 ⊢
      rw [nots, hb.ag p (by omega), if_pos h1]
      exact nots_ag hb f g' (!b) (p + 1) hlt (by omega) (by omega) hr
    · rw [nots, hb.ag p (by omega), if_neg h1, nots, if_neg h1]
def PX (l m : List Nat) (r p : Nat) (a b : P) : Prop :=
  match a with
  | .ok q _ _ => p ≤ q ∧ q ≤ l.length ∧ (Bg l m r → q ≤ r → b = a)
  | .bad _ q => p ≤ q ∧ q ≤ l.length ∧ (Bg l m r → q = r → b = a)
theorem prt_x {l m : List Nat} (hl : ∀ x ∈ l, x < 256) (r p : Nat) (ns : List Nd) (ps : List (Int × Bool)) (hp : p ≤ l.length) : PX l m r p (prt l p ns ps) (prt m p ns ps) := by
  have h0 := nots_ok (l := l) (l.length + 1) false p hp (by omega)
  have h1 : Bg l m r → (nots l (l.length + 1) false p).2 ≤ r → nots m (m.length + 1) false p = nots l (l.length + 1) false p := fun hb hr =>
    nots_ag hb _ _ false p hp (by omega) (by have := hb.lm; omega) hr
  unfold prt
  generalize nots l (l.length + 1) false p = x at *
  obtain ⟨b, q⟩ := x
  simp only at *
  have h2 := go_x (m := m) hl r (fl l) (fl m) .pat 0 q ns h0.2.1 (by unfold fl; simp only [Md.c]; omega) (fun _ _ => by unfold fl; simp only [Md.c]; omega)
  unfold prtE
  cases e : go l (fl l) .pat 0 q ns with
  | bad lg q' =>
    rw [e] at h2
    obtain ⟨h3, h4, h5⟩ := h2
    exact ⟨by omega, h4, fun hb hq => by rw [h1 hb (by omega)]; simp only; rw [h5 hb hq]⟩
  | ok n q' ns' =>
    rw [e] at h2
    obtain ⟨h3, h4, h5⟩ := h2
    simp only [Md.t] at h3
    exact ⟨by omega, h4, fun hb hq => by rw [h1 hb (by omega)]; simp only; rw [h5 hb hq]⟩
theorem prtsL_x {l m : List Nat} (hl : ∀ x ∈ l, x < 256) (r : Nat) : ∀ (f g p : Nat) (ns : List Nd) (ps : List (Int × Bool)), p ≤ l.length → l.length < p + f → (p ≤ r → r < m.length → m.length < p + g) → PX l m r p (prtsL l f p ns ps) (prtsL m g p ns ps)
  | 0, g, p, ns, ps, hp, hf, hg => by omega
  | f + 1, g, p, ns, ps, hp, hf, hg => by
    have hg1 : Bg l m r → p ≤ r → ∃ g', g = g' + 1 := fun hb hq => ⟨g - 1, by have := hg hq hb.lm; have := hb.lm; omega⟩
    by_cases h38 : pk l p = 38
    · have hlt := pk_lt (l := l) (p := p) (by omega)
      by_cases h20 : ps.length = 20
      · have e : prtsL l (f + 1) p ns ps = .bad true p := by rw [prtsL, if_pos h38, if_pos h20]
        rw [e]
        exact ⟨Nat.le_refl _, hp, fun hb hq => by obtain ⟨g', rfl⟩ := hg1 hb (by omega); rw [prtsL, hb.ag p (by omega), if_pos h38, if_pos h20]⟩
      · have h1 := prt_x (m := m) hl r (p + 1) ns ps hlt
        cases e1 : prt l (p + 1) ns ps with
        | bad lg q =>
          rw [e1] at h1
          obtain ⟨h2, h3, h4⟩ := h1
          have e : prtsL l (f + 1) p ns ps = .bad lg q := by rw [prtsL, if_pos h38, if_neg h20, e1]
          rw [e]
          exact ⟨by omega, h3, fun hb hq => by obtain ⟨g', rfl⟩ := hg1 hb (by omega); rw [prtsL, hb.ag p (by omega), if_pos h38, if_neg h20, h4 hb hq]⟩
        | ok q ns1 ps1 =>
          rw [e1] at h1
          obtain ⟨h2, h3, h4⟩ := h1
          have e : prtsL l (f + 1) p ns ps = prtsL l f q ns1 ps1 := by rw [prtsL, if_pos h38, if_neg h20, e1]
          rw [e]
          have h5 := prtsL_x (m := m) hl r f (g - 1) q ns1 ps1 h3 (by omega) (fun h6 h7 => by have := hg (by omega) h7; omega)
          cases e2 : prtsL l f q ns1 ps1 with
          | bad lg q' =>
            rw [e2] at h5
            obtain ⟨h6, h7, h8⟩ := h5
            exact ⟨by omega, h7, fun hb hq => by obtain ⟨g', rfl⟩ := hg1 hb (by omega); rw [prtsL, hb.ag p (by omega), if_pos h38, if_neg h20, h4 hb (by omega)]; exact h8 hb hq⟩
          | ok q' ns2 ps2 =>
            rw [e2] at h5
            obtain ⟨h6, h7, h8⟩ := h5
            exact ⟨by omega, h7, fun hb hq => by obtain ⟨g', rfl⟩ := hg1 hb (by omega); rw [prtsL, hb.ag p (by omega), if_pos h38, if_neg h20, h4 hb (by omega)]; exact h8 hb hq⟩
    · have e : prtsL l (f + 1) p ns ps = .ok p ns ps := by rw [prtsL, if_neg h38]
      rw [e]
      exact ⟨Nat.le_refl _, hp, fun hb hq => by obtain ⟨g', rfl⟩ := hg1 hb (by omega); rw [prtsL, hb.ag p (by omega), if_neg h38]⟩
/-- Where a text of at most 200 bytes goes wrong, and that those which begin so do. -/
theorem cons_x {l m : List Nat} (hl : ∀ x ∈ l, x < 256) (h200 : l.length ≤ 200) (hm : m.length ≤ 200) {lg : Bool} {r : Nat} (h : cons l = .bad lg r) : r ≤ l.length ∧ (Bg l m r → cons m = .bad lg r) := by
  unfold cons at h ⊢
  rw [if_neg (by omega)] at h ⊢
  have h1 := prt_x (m := m) hl r 0 [] [] (Nat.zero_le _)
  cases e1 : prt l 0 [] [] with
  | bad lg1 q =>
    rw [e1] at h h1
    obtain ⟨h2, h3, h4⟩ := h1
    simp only at h
    injection h with h5 h6
    subst h5 h6
    exact ⟨h3, fun hb => by rw [h4 hb rfl]⟩
  | ok q ns ps =>
    rw [e1] at h h1
    obtain ⟨h2, h3, h4⟩ := h1
    simp only at h
    have h5 := prtsL_x (m := m) hl r (l.length + 1) (m.length + 1) q ns ps h3 (by omega) (fun _ _ => by omega)
    cases e2 : prtsL l (l.length + 1) q ns ps with
    | bad lg1 q' =>
      rw [e2] at h h5
      obtain ⟨h6, h7, h8⟩ := h5
      simp only at h
      injection h with h9 h10
      subst h9 h10
      exact ⟨h7, fun hb => by rw [h4 hb (by omega)]; simp only; rw [h8 hb rfl]⟩
    | ok q' ns' ps' =>
      rw [e2] at h h5
      obtain ⟨h6, h7, h8⟩ := h5
      simp only at h
      by_cases hq : q' < l.length
      · rw [if_pos hq] at h
        injection h with h9 h10
        subst h9 h10
        exact ⟨h7, fun hb => by rw [h4 hb (by omega)]; simp only; rw [h8 hb (Nat.le_refl _)]; simp only; rw [if_pos hb.lm]⟩
      · rw [if_neg hq] at h
        split at h
        · injection h with h9 h10
          subst h10
          exact ⟨h7, fun hb => absurd hb.lt hq⟩
        · cases h
theorem prt_parts {l : List Nat} {p q : Nat} {ns ns' : List Nd} {ps ps' : List (Int × Bool)} (h : prt l p ns ps = .ok q ns' ps') : ps.length < ps'.length := by
  unfold prt prtE at h
  split at h
  · injection h with _ _ h
    subst h
    simp
  · cases h
theorem prtsL_parts {l : List Nat} : ∀ (f p : Nat) {q : Nat} {ns ns' : List Nd} {ps ps' : List (Int × Bool)}, prtsL l f p ns ps = .ok q ns' ps' → ps.length ≤ ps'.length
  | 0, _, _, _, _, _, _, h => by unfold prtsL at h; cases h
  | f + 1, p, q, ns, ns', ps, ps', h => by
    unfold prtsL at h
    split at h
    · split at h
      · cases h
      · split at h
        · rename_i h1
          have := prt_parts h1
          have := prtsL_parts f _ h
          omega
        · cases h
    · injection h with _ _ h
      subst h
      exact Nat.le_refl _
theorem cons_parts {l : List Nat} {q : Nat} {ns : List Nd} {ps : List (Int × Bool)} (h : cons l = .ok q ns ps) : 0 < ps.length := by
  unfold cons at h
  split at h
  · cases h
  · split at h
    · cases h
    · rename_i h1
      split at h
      · cases h
      · rename_i h2
        have h3 := prt_parts h1
        have h4 := prtsL_parts _ _ h2
        split at h
        · cases h
        · split at h
          · cases h
          · injection h with _ _ h
            subst h
            simp at h3
            omega
/-- A text that is read: its nodes are few. -/
theorem cons_good {l : List Nat} (hl : ∀ x ∈ l, x < 256) {q : Nat} {ns : List Nd} {ps : List (Int × Bool)} (h : cons l = .ok q ns ps) :
    l.length ≤ 200 ∧ ns.length ≤ 401 ∧ (∀ x ∈ ns, NK x) ∧ ps.length ≤ 20 ∧ (∀ x ∈ ps, 0 ≤ x.1 ∧ x.1 ≤ 1000) ∧ plOf ns ps ≤ 63 := by
  unfold cons at h
  split at h
  · cases h
  · rename_i h200
    have hin : In2 l 0 [] [] (3 + 297) := ⟨⟨Nat.zero_le _, by rw [List.length_nil]; omega, by simp⟩, by simp, by simp⟩
    have hg := prt_good hl hin (by simp)
    split at h
    · cases h
    · rename_i p1 ns1 ps1 h1
      rw [h1] at hg
      obtain ⟨-, h3, h4⟩ := hg
      have hg2 := prtsL_good hl (l.length + 1) (p := p1) (c := 297) (ns := ns1) (ps := ps1) h3
      split at h
      · cases h
      · rename_i p2 ns2 ps2 h2
        rw [h2] at hg2
        obtain ⟨-, h5⟩ := hg2
        split at h
        · cases h
        · split at h
          · cases h
          · injection h with e1 e2 e3
            subst e2 e3
            exact ⟨by omega, by have := h5.inn.fit; omega, h5.inn.ok, h5.few, h5.ok, by omega⟩
end Rx
end Go.Proofs.YtcgllipcnmlkbaaDoor
namespace Go.Proofs.YtcgllipcnmlkbaaDoor
open Go.RowKit Sets Tr Rx
theorem wpList_put_tree {ops : Array Oper} {rest : List Oper} {o : Oper} {a : Act} {w : World} {Q : Exit → Act → World → Prop} (hgd : o.guard = none) (x y : Operand)
    (ho : o.op = .store 39 x y) (g : Nat) (a1 a2 : Option Addr) (n1 c1 n2 c2 : Nat) (hx : a.eval x = .pointer (some ⟨g, 0, none⟩)) (hy : a.eval y = .agg #[.slice a1 n1 c1, .slice a2 n2 c2]) (u v : Value)
    (hg : w.heap[g]? = some (.cells #[u, v] 39 (0, 0)))
    (h : wpList Tryd.prog ops Q rest (a.put o.dst undef) (w.setRow g #[.slice a1 n1 c1, .slice a2 n2 c2])) : wpList Tryd.prog ops Q (o :: rest) a w :=
  wpList_store_row hgd 39 x y ho g #[.slice a1 n1 c1, .slice a2 n2 c2] hx hy 39 #[u, v] hg sizeTree' rfl (by simp [Value.oneCell']) h
theorem quit_idle (a b c : Addr) (w : World) :
    CallsD Tryd.prog 35 #[.pointer (some a), .pointer (some b), .pointer (some c)] .returning w fun e u' w' => e = .returned (.tuple #[]) ∧ u' = .returning ∧ w' = w := by
  refine callsD_of_wpS Tryd.func35 rfl fun c₀ cs hu => ?_
  simp only [Tryd.ntmps35, List.size_toArray, List.length_cons, List.length_nil, Nat.reduceAdd, Nat.reduceSub, Array.replicate_succ, Array.replicate_zero, List.push_toArray, List.append_toArray, List.nil_append, List.cons_append]
  apply wpS_seq
  apply wpS_region
  simp [wpOpsS, go_sem, recoverD, hu, Exit.thenS]
  refine wpS_of_wp ?_
  go_wp2
  cases c₀
  simp_all [bodyPostS, results, Tryd.results35]
/-- what the deferred function leaves: the results' three cells -/
def Left (u v : Value) (g p : Nat) (er : Int) (w w' : World) : Prop := w' = ((w.setRow g #[u, v]).setCell ⟨g + 1, 0, none⟩ (.int .i64 p)).setCell ⟨g + 2, 0, none⟩ (.int .i64 er)
theorem left_heap {u v : Value} {g p : Nat} {er : Int} {w0 w w' : World} (h : Left u v g p er w w') (h0 : w.heap[g]? = some (.cells #[.slice none 0 0, .slice none 0 0] 39 (0, 0)))
    (h1 : w.heap[g + 1]? = some (.cells #[.int .i64 0] 3 (0, 0))) (h2 : w.heap[g + 2]? = some (.cells #[.int .i64 0] 31 (0, 0))) (hB : Below w0.heap.size w0 w) (hg : g = w0.heap.size) :
    w'.heap[g]? = some (.cells #[u, v] 39 (0, 0)) ∧ w'.cell? ⟨g + 1, 0, none⟩ = some (.int .i64 p) ∧ w'.cell? ⟨g + 1 + 1, 0, none⟩ = some (.int .i64 er) ∧ Below w0.heap.size w0 w' ∧ ∀ k, k ≠ g → k ≠ g + 1 → k ≠ g + 2 → w'.heap[k]? = w.heap[k]? := by
  unfold Left at h
  subst h
  have o0 := setRow_heap w g _ #[u, v] 39 (0, 0) h0
  have o1 := (setRow_other w g (g + 1) #[u, v] (by omega)).trans h1
  have o2 := (setRow_other w g (g + 2) #[u, v] (by omega)).trans h2
  have o3 := fun k (hk : k ≠ g) => setRow_other w g k #[u, v] hk
  have hsz : (w.setRow g #[u, v]).heap.size = w.heap.size := by simp [World.setRow]
  refine ⟨?_, ?_, ?_, ?_, ?_⟩
  · rw [Below.heap_setCell _ _ _ _ (by simp only; omega), Below.heap_setCell _ _ _ _ (by simp only; omega)]
    exact o0
  · have e : (((w.setRow g #[u, v]).setCell ⟨g + 1, 0, none⟩ (.int .i64 p)).setCell ⟨g + 2, 0, none⟩ (.int .i64 er)).heap[g + 1]? = some (.cells #[.int .i64 p] 3 (0, 0)) := by
      rw [Below.heap_setCell _ _ _ _ (by simp only; omega)]
      simp [World.setCell, Array.getElem?_modify, o1]
    simp [World.cell?, e]
  · have e : (((w.setRow g #[u, v]).setCell ⟨g + 1, 0, none⟩ (.int .i64 p)).setCell ⟨g + 2, 0, none⟩ (.int .i64 er)).heap[g + 1 + 1]? = some (.cells #[.int .i64 er] 31 (0, 0)) := by
      have e1 : ((w.setRow g #[u, v]).setCell ⟨g + 1, 0, none⟩ (.int .i64 p)).heap[g + 2]? = some (.cells #[.int .i64 0] 31 (0, 0)) := by
        rw [Below.heap_setCell _ _ _ _ (by simp only; omega)]; exact o2
      generalize (w.setRow g #[u, v]).setCell ⟨g + 1, 0, none⟩ (.int .i64 p) = w1 at *
      simp [World.setCell, Array.getElem?_modify, e1]
    simp [World.cell?, e]
  · refine hB.trans ⟨rfl, rfl, rfl, by simp [World.setRow], fun k hk => ?_⟩
    rw [Below.heap_setCell _ _ _ _ (by simp only; omega), Below.heap_setCell _ _ _ _ (by simp only; omega)]
    exact o3 k (by omega)
  · intro k k0 k1 k2
    rw [Below.heap_setCell _ _ _ _ (by simp only; omega), Below.heap_setCell _ _ _ _ (by simp only; omega)]
    exact o3 k k0
set_option maxHeartbeats 800000 in
theorem quit_wrong (g p : Nat) (w : World) (older : List PanicEntry) (h0 : w.heap[g]? = some (.cells #[.slice none 0 0, .slice none 0 0] 39 (0, 0)))
    (h1 : w.heap[g + 1]? = some (.cells #[.int .i64 0] 3 (0, 0))) (h2 : w.heap[g + 2]? = some (.cells #[.int .i64 0] 31 (0, 0))) :
    CallsD Tryd.prog 35 #[.pointer (some ⟨g, 0, none⟩), .pointer (some ⟨g + 1, 0, none⟩), .pointer (some ⟨g + 2, 0, none⟩)] (.panicking ({ v := pnc false p, recovered := false } :: older)) w fun e u' w' =>
      u' = .panicking ({ v := pnc false p, recovered := true } :: older) ∧ Left (.slice none 0 0) (.slice none 0 0) g p 8 w w' ∧ e = .returned (.tuple #[]) := by
  refine callsD_of_wpS Tryd.func35 rfl fun c₀ cs hu => ?_
  simp only [Tryd.ntmps35, List.size_toArray, List.length_cons, List.length_nil, Nat.reduceAdd, Nat.reduceSub, Array.replicate_succ, Array.replicate_zero, List.push_toArray, List.append_toArray, List.nil_append, List.cons_append]
  have a1 : ∀ (W : World) (v : Value), (Instr.typeAssert (.iface 85 v) 20 85 true).run Tryd.prog W = .ok (.tuple #[v, .bool true]) W := fun W v => by kernel_rfl
  have c1 : ∀ w : World, w.heap[g + 1]? = some (.cells #[.int .i64 0] 3 (0, 0)) → w.cell? ⟨g + 1, 0, none⟩ = some (.int .i64 0) ∧ w.frozen? ⟨g + 1, 0, none⟩ = false := fun w h => ⟨by simp [World.cell?, h], by simp [World.frozen?, h]⟩
  have c2 : ∀ w : World, w.heap[g + 2]? = some (.cells #[.int .i64 0] 31 (0, 0)) → w.cell? ⟨g + 2, 0, none⟩ = some (.int .i64 0) ∧ w.frozen? ⟨g + 2, 0, none⟩ = false := fun w h => ⟨by simp [World.cell?, h], by simp [World.frozen?, h]⟩
  have o1 := (setRow_other w g (g + 1) #[.slice none 0 0, .slice none 0 0] (by omega)).trans h1
  have o2 := (setRow_other w g (g + 2) #[.slice none 0 0, .slice none 0 0] (by omega)).trans h2
  obtain ⟨d1, e1⟩ := c1 _ o1
  obtain ⟨d2, e2⟩ := c2 _ o2
  clear c1 c2 o1 o2 h1 h2
  have H0 := Lib.hid h0
  clear h0
  unfold pnc at *
  apply wpS_seq
  apply wpS_region
  simp [wpOpsS, go_sem, recoverD, hu, Exit.thenS]
  refine wpS_of_wp ?_
  go_wp2_with (refine wpList_put_tree rfl _ _ rfl g _ _ _ _ _ _ rfl rfl (.slice none 0 0) (.slice none 0 0) H0.out ?_)
  unfold Left
  cases c₀
  simp_all [bodyPostS, results, Tryd.results35]
set_option maxHeartbeats 800000 in
theorem quit_long (g p : Nat) (w : World) (older : List PanicEntry) (h0 : w.heap[g]? = some (.cells #[.slice none 0 0, .slice none 0 0] 39 (0, 0)))
    (h1 : w.heap[g + 1]? = some (.cells #[.int .i64 0] 3 (0, 0))) (h2 : w.heap[g + 2]? = some (.cells #[.int .i64 0] 31 (0, 0))) :
    CallsD Tryd.prog 35 #[.pointer (some ⟨g, 0, none⟩), .pointer (some ⟨g + 1, 0, none⟩), .pointer (some ⟨g + 2, 0, none⟩)] (.panicking ({ v := pnc true p, recovered := false } :: older)) w fun e u' w' =>
      u' = .panicking ({ v := pnc true p, recovered := true } :: older) ∧ Left (.slice none 0 0) (.slice none 0 0) g p 3 w w' ∧ e = .returned (.tuple #[]) := by
  refine callsD_of_wpS Tryd.func35 rfl fun c₀ cs hu => ?_
  simp only [Tryd.ntmps35, List.size_toArray, List.length_cons, List.length_nil, Nat.reduceAdd, Nat.reduceSub, Array.replicate_succ, Array.replicate_zero, List.push_toArray, List.append_toArray, List.nil_append, List.cons_append]
  have a1 : ∀ (W : World) (v : Value), (Instr.typeAssert (.iface 86 v) 20 85 true).run Tryd.prog W = .ok (.tuple #[.int .i64 0, .bool false]) W := fun W v => by kernel_rfl
  have a2 : ∀ (W : World) (v : Value), (Instr.typeAssert (.iface 86 v) 20 86 true).run Tryd.prog W = .ok (.tuple #[v, .bool true]) W := fun W v => by kernel_rfl
  have c1 : ∀ w : World, w.heap[g + 1]? = some (.cells #[.int .i64 0] 3 (0, 0)) → w.cell? ⟨g + 1, 0, none⟩ = some (.int .i64 0) ∧ w.frozen? ⟨g + 1, 0, none⟩ = false := fun w h => ⟨by simp [World.cell?, h], by simp [World.frozen?, h]⟩
  have c2 : ∀ w : World, w.heap[g + 2]? = some (.cells #[.int .i64 0] 31 (0, 0)) → w.cell? ⟨g + 2, 0, none⟩ = some (.int .i64 0) ∧ w.frozen? ⟨g + 2, 0, none⟩ = false := fun w h => ⟨by simp [World.cell?, h], by simp [World.frozen?, h]⟩
  have o1 := (setRow_other w g (g + 1) #[.slice none 0 0, .slice none 0 0] (by omega)).trans h1
  have o2 := (setRow_other w g (g + 2) #[.slice none 0 0, .slice none 0 0] (by omega)).trans h2
  obtain ⟨d1, e1⟩ := c1 _ o1
  obtain ⟨d2, e2⟩ := c2 _ o2
  clear c1 c2 o1 o2 h1 h2
  have H0 := Lib.hid h0
  clear h0
  unfold pnc at *
  apply wpS_seq
  apply wpS_region
  simp [wpOpsS, go_sem, recoverD, hu, Exit.thenS]
  refine wpS_of_wp ?_
  go_wp2_with (refine wpList_put_tree rfl _ _ rfl g _ _ _ _ _ _ rfl rfl (.slice none 0 0) (.slice none 0 0) H0.out ?_)
  unfold Left
  cases c₀
  simp_all [bodyPostS, results, Tryd.results35]
theorem load_int (w : World) (t : TypeId) (ht : (isAgg t).run Tryd.prog w = .ok false w) (a : Addr) (v : Value) (h : w.cell? a = some v) : (loadVar t a).run Tryd.prog w = .ok v w := by
  unfold loadVar
  simp [Sem.run_bind, ht, h, go_sem]
theorem results_parse (tmps : Array Value) (w : World) (g : Nat) (u v : Value) (p e : Int) (hp : tmps.getD 2 undef = .pointer (some ⟨g, 0, none⟩)) (hq : tmps.getD 3 undef = .pointer (some ⟨g + 1, 0, none⟩)) (hr : tmps.getD 4 undef = .pointer (some ⟨g + 1 + 1, 0, none⟩))
    (h0 : w.heap[g]? = some (.cells #[u, v] 39 (0, 0))) (h1 : w.cell? ⟨g + 1, 0, none⟩ = some (.int .i64 p)) (h2 : w.cell? ⟨g + 1 + 1, 0, none⟩ = some (.int .i64 e)) :
    (results Tryd.f24 tmps).run Tryd.prog w = .ok (.tuple #[.agg #[u, v], .int .i64 p, .int .i64 e]) w := by
  have hp' : tmps[2]?.getD undef = .pointer (some ⟨g, 0, none⟩) := by simpa using hp
  have hq' : tmps[3]?.getD undef = .pointer (some ⟨g + 1, 0, none⟩) := by simpa using hq
  have hr' : tmps[4]?.getD undef = .pointer (some ⟨g + 1 + 1, 0, none⟩) := by simpa using hr
  have l1 := load_int w 3 (by kernel_rfl) _ _ h1
  have l2 := load_int w 31 (by kernel_rfl) _ _ h2
  simp [results, Tryd.results24, hp', hq', hr', asAddr, run_loadVar_row w g 39 39 #[u, v] (0, 0) _ h0 Tryd.underlying39 rfl sizeTree', l1, l2]
/-- what Parse says -/
def PO (s : ByteArray) (w : World) (e : Ending) (w' : World) : Prop :=
  match cons (by' s) with
  | .ok _ ns ps => (∃ nv pv, e = .returned (.tuple #[.agg #[nv, pv], .int .i64 0, .int .i64 0]) ∧ NodesAt w' nv ns ∧ PartsAt w' pv ps) ∧ Below w.heap.size w w'
  | .bad lg p => e = .returned (.tuple #[.agg #[.slice none 0 0, .slice none 0 0], .int .i64 (p : Nat), .int .i64 (if lg then 3 else 8)]) ∧ Below w.heap.size w w'
theorem rd_new (w : World) (s : ByteArray) : RdAt (w.alloc (.cells #[.string s, .int .i64 0, .int .i64 0, .slice none 0 0, .slice none 0 0] 88)) w.heap.size s 0 0 [] [] (.slice none 0 0) (.slice none 0 0) := by
  refine ⟨heap_alloc_new w _, ⟨by simp [nds], .inl ⟨rfl, rfl⟩⟩, ⟨by simp [pts], .inl ⟨rfl, rfl⟩⟩⟩
set_option maxHeartbeats 1600000 in
theorem parse_any (s : ByteArray) (w : World) : Calls Tryd.prog 24 #[.string s] w (PO s w) := by
  have hmf : ∀ (fn : Fn) (first cap : Array Value) (w : World), (Instr.makeFunc fn first cap).run Tryd.prog w = .ok (.func fn first cap) w := fun _ _ _ _ => rfl
  have hg := fun q ns ps => cons_good (l := by' s) (by_lt s) (q := q) (ns := ns) (ps := ps)
  have hC := constraint_any
  go_enter_defers Tryd.func24, Tryd.ntmps24
  go_wp2_with fail
  have e0 : (((w.alloc (.cells #[.slice none 0 0, .slice none 0 0] 39)).alloc (.cells #[.int .i64 0] 3)).alloc (.cells #[.int .i64 0] 31)).heap[w.heap.size]? = some (.cells #[.slice none 0 0, .slice none 0 0] 39 (0, 0)) := by
    rw [Below.heap_alloc _ _ _ (by simp; omega), Below.heap_alloc _ _ _ (by simp)]; exact heap_alloc_new w _
  have e1 : (((w.alloc (.cells #[.slice none 0 0, .slice none 0 0] 39)).alloc (.cells #[.int .i64 0] 3)).alloc (.cells #[.int .i64 0] 31)).heap[w.heap.size + 1]? = some (.cells #[.int .i64 0] 3 (0, 0)) := by
    rw [Below.heap_alloc _ _ _ (by simp)]; have := heap_alloc_new (w.alloc (.cells #[.slice none 0 0, .slice none 0 0] 39)) (.cells #[.int .i64 0] 3); simpa using this
  have e2 : (((w.alloc (.cells #[.slice none 0 0, .slice none 0 0] 39)).alloc (.cells #[.int .i64 0] 3)).alloc (.cells #[.int .i64 0] 31)).heap[w.heap.size + 2]? = some (.cells #[.int .i64 0] 31 (0, 0)) := by
    have := heap_alloc_new ((w.alloc (.cells #[.slice none 0 0, .slice none 0 0] 39)).alloc (.cells #[.int .i64 0] 3)) (.cells #[.int .i64 0] 31); simpa using this
  have e3 : (((w.alloc (.cells #[.slice none 0 0, .slice none 0 0] 39)).alloc (.cells #[.int .i64 0] 3)).alloc (.cells #[.int .i64 0] 31)).heap.size = w.heap.size + 1 + 1 + 1 := by simp
  have e4 := (((Below.refl w.heap.size w).alloc (Nat.le_refl _) (.cells #[.slice none 0 0, .slice none 0 0] 39)).alloc (by simp) (.cells #[.int .i64 0] 3)).alloc (by simp; omega) (.cells #[.int .i64 0] 31)
  generalize (((w.alloc (.cells #[.slice none 0 0, .slice none 0 0] 39)).alloc (.cells #[.int .i64 0] 3)).alloc (.cells #[.int .i64 0] 31)) = w3 at *
  have hC := hC _ s _ _ _ (rd_new w3 s)
  have ha := (Below.refl w3.heap.size w3).alloc (Nat.le_refl _) (.cells #[.string s, .int .i64 0, .int .i64 0, .slice none 0 0, .slice none 0 0] 88)
  rw [e3] at hC ha
  have HA := Lib.hid ha
  have HE0 := Lib.hid e0
  have HE1 := Lib.hid e1
  have HE2 := Lib.hid e2
  have HE3 := Lib.hid e3
  have HE4 := Lib.hid e4
  have HG := Lib.hid hg
  clear e0 e1 e2 e3 e4 ha hg
  refine hC.mono ?_
  clear hC
  intro e w' hP
  unfold PP at hP
  unfold PO
  have hg := HG.out
  clear HG
  cases hc : cons (by' s) with
  | bad lg p =>
    rw [hc] at hP
    obtain ⟨rfl, hB⟩ := hP
    have hB := HA.out.trans hB
    have r0 := (hB.block w.heap.size (by omega)).trans HE0.out
    have r1 := (hB.block (w.heap.size + 1) (by omega)).trans HE1.out
    have r2 := (hB.block (w.heap.size + 2) (by omega)).trans HE2.out
    have HB := Lib.hid (HE4.out.trans (hB.mono (by omega)))
    clear hg hc hB
    cases lg
    case false =>
      go_wp2_with fail
      refine leaves_cons (f := 35) (args := #[.pointer (some ⟨w.heap.size, 0, none⟩), .pointer (some ⟨w.heap.size + 1, 0, none⟩), .pointer (some ⟨w.heap.size + 1 + 1, 0, none⟩)]) (by simp) (by simp [go_sem]) ?_
      refine (quit_wrong w.heap.size p w' [] r0 r1 r2).mono ?_
      rintro e u' w2 ⟨rfl, hl, rfl⟩
      have hh := left_heap hl r0 r1 r2 HB.out (by omega)
      simp only [Leaves, settle, List.dropWhile_nil]
      exact ⟨_, results_parse _ w2 w.heap.size _ _ _ _ rfl rfl rfl hh.1 hh.2.1 hh.2.2.1, rfl, hh.2.2.2.1⟩
    case true =>
      go_wp2_with fail
      refine leaves_cons (f := 35) (args := #[.pointer (some ⟨w.heap.size, 0, none⟩), .pointer (some ⟨w.heap.size + 1, 0, none⟩), .pointer (some ⟨w.heap.size + 1 + 1, 0, none⟩)]) (by simp) (by simp [go_sem]) ?_
      refine (quit_long w.heap.size p w' [] r0 r1 r2).mono ?_
      rintro e u' w2 ⟨rfl, hl, rfl⟩
      have hh := left_heap hl r0 r1 r2 HB.out (by omega)
      simp only [Leaves, settle, List.dropWhile_nil]
      exact ⟨_, results_parse _ w2 w.heap.size _ _ _ _ rfl rfl rfl hh.1 hh.2.1 hh.2.2.1, rfl, hh.2.2.2.1⟩
  | ok q ns ps =>
    rw [hc] at hP
    obtain ⟨rfl, ⟨nv, pv, hR⟩, hB⟩ := hP
    have hB := HA.out.trans hB
    have hg := hg _ _ _ hc
    have HC := Lib.hid hc
    obtain ⟨na, nc, rfl⟩ := own_slice hR.on
    obtain ⟨pa, pc, rfl⟩ := own_slice hR.op
    obtain ⟨c0, c1, c2, c3, c4⟩ := hR.row.cells
    have r0 := (hB.block w.heap.size (by omega)).trans HE0.out
    have r1 := (hB.block (w.heap.size + 1) (by omega)).trans HE1.out
    have r2 := (hB.block (w.heap.size + 2) (by omega)).trans HE2.out
    have HB := Lib.hid (HE4.out.trans (hB.mono (by omega)))
    have HG := Lib.hid hg
    clear hg hc hB
    have o1 := (setRow_other w' w.heap.size (w.heap.size + 1) #[.slice na ns.length nc, .slice pa ps.length pc] (by omega)).trans r1
    have o2 := (setRow_other w' w.heap.size (w.heap.size + 1 + 1) #[.slice na ns.length nc, .slice pa ps.length pc] (by omega)).trans r2
    have d1 : (w'.setRow w.heap.size #[.slice na ns.length nc, .slice pa ps.length pc]).cell? ⟨w.heap.size + 1, 0, none⟩ = some (.int .i64 0) ∧ (w'.setRow w.heap.size #[.slice na ns.length nc, .slice pa ps.length pc]).frozen? ⟨w.heap.size + 1, 0, none⟩ = false := ⟨by simp [World.cell?, o1], by simp [World.frozen?, o1]⟩
    have d2 : (w'.setRow w.heap.size #[.slice na ns.length nc, .slice pa ps.length pc]).cell? ⟨w.heap.size + 1 + 1, 0, none⟩ = some (.int .i64 0) ∧ (w'.setRow w.heap.size #[.slice na ns.length nc, .slice pa ps.length pc]).frozen? ⟨w.heap.size + 1 + 1, 0, none⟩ = false := ⟨by simp [World.cell?, o2], by simp [World.frozen?, o2]⟩
    obtain ⟨d1, f1⟩ := d1
    obtain ⟨d2, f2⟩ := d2
    have R0 := Lib.hid r0
    have R1 := Lib.hid r1
    have R2 := Lib.hid r2
    have HR := Lib.hid hR
    clear o1 o2 r0 r1 r2 hR
    go_wp2_with (refine wpList_put_tree rfl _ _ rfl w.heap.size _ _ _ _ _ _ rfl rfl (.slice none 0 0) (.slice none 0 0) R0.out ?_)
    refine leaves_cons (f := 35) (args := #[.pointer (some ⟨w.heap.size, 0, none⟩), .pointer (some ⟨w.heap.size + 1, 0, none⟩), .pointer (some ⟨w.heap.size + 1 + 1, 0, none⟩)]) (by simp) (by simp [go_sem]) ?_
    refine (quit_idle _ _ _ _).mono ?_
    rintro e u' w2 ⟨rfl, rfl, rfl⟩
    simp only [Leaves, settle]
    have hh := left_heap (u := .slice na ns.length nc) (v := .slice pa ps.length pc) (g := w.heap.size) (p := 0) (er := 0) rfl R0.out R1.out R2.out HB.out rfl
    refine ⟨_, results_parse _ _ w.heap.size (.slice na ns.length nc) (.slice pa ps.length pc) 0 0 rfl rfl rfl hh.1 hh.2.1 hh.2.2.1, ?_⟩
    rw [PO, HC.out]
    refine ⟨⟨_, _, rfl, ?_, ?_⟩, hh.2.2.2.1⟩
    · exact own_nodes (own_kept HR.out.on (fun g hg => by have := (HR.out.on.lt g hg).1; exact hh.2.2.2.2 g (by omega) (by omega) (by omega))) (by have := HG.out.2.1; omega) HG.out.2.2.1
    · exact own_parts (own_kept HR.out.op (fun g hg => by have := (HR.out.op.lt g hg).1; exact hh.2.2.2.2 g (by omega) (by omega) (by omega))) (by have := HG.out.2.2.2.1; omega) HG.out.2.2.2.2.1
end Go.Proofs.YtcgllipcnmlkbaaDoor
namespace Go.Proofs.YtcgllipcnmlkbaaDoor
open Go.RowKit Sets Tr Rx
theorem two' {α : Type} (l : List α) (h : l.length = 2) : ∃ a b, l = [a, b] := by
  rcases l with _ | ⟨a, _ | ⟨b, _ | ⟨c, l⟩⟩⟩ <;> simp at h
  exact ⟨a, b, rfl⟩
theorem eqPart (x y : Int × Bool) (w : World) : (Op.equalIn 10000 78 (.agg (pt2 x).toArray) (.agg (pt2 y).toArray)).run Tryd.prog w = .ok (decide (x = y)) w := by
  have hf : (Tryd.prog.fieldsOf 78).toList.map (fun f => (f.name, f.type, f.offset)) = [("Root", 3, 0), ("Not", 4, 1)] := by kernel_rfl
  have hp : (Tryd.prog.fieldsOf 78).toList.length = 2 := by have := congrArg List.length hf; simpa using this
  have a1 : (isAgg 3).run Tryd.prog w = .ok false w := by kernel_rfl
  have a2 : (isAgg 4).run Tryd.prog w = .ok false w := by kernel_rfl
  rw [show (10000 : Nat) = 9999 + 1 from rfl, run_equalIn_struct w 9999 78 _ _ (by kernel_rfl) (by kernel_rfl)]
  generalize (Tryd.prog.fieldsOf 78).toList = fs at hf hp ⊢
  obtain ⟨f1, f2, rfl⟩ := two' fs hp
  simp only [List.map_cons, List.map_nil, List.cons.injEq, Prod.mk.injEq, and_true] at hf
  obtain ⟨⟨n1, t1, o1⟩, n2, t2, o2⟩ := hf
  obtain ⟨i, b⟩ := x
  obtain ⟨j, c⟩ := y
  unfold Op.eqFields
  rw [n1, t1, o1, if_pos (by decide)]
  simp only [Sem.run_bind, part_one _ (pt2 (i, b)).toArray 0 (.int .i64 i) w a1 rfl, part_one _ (pt2 (j, c)).toArray 0 (.int .i64 j) w a1 rfl, Result.andThen_ok]
  rw [run_equalIn_int w 9998 3 .i64 .i64 _ _ Tryd.underlying3]
  by_cases h1 : i = j
  case neg => simp [h1]
  subst h1
  simp only [BEq.rfl, Result.andThen_ok, Bool.not_true, Bool.false_eq_true, if_false]
  unfold Op.eqFields
  rw [n2, t2, o2, if_pos (by decide)]
  simp only [Sem.run_bind, part_one _ (pt2 (i, b)).toArray 1 (.bool b) w a2 rfl, part_one _ (pt2 (i, c)).toArray 1 (.bool c) w a2 rfl, Result.andThen_ok]
  rw [show (9999 : Nat) = 9998 + 1 from rfl, Op.equalIn]
  simp only [Sem.run_bind, run_underlying Tryd.underlying4, Result.andThen_ok]
  cases b <;> cases c <;> simp [Op.eqFields]
theorem quiet_load_mid {C : World → Prop} {a : Act} {K : Act → Prop} {o : Oper} (ty : TypeId) (x : Operand) (ho : o.op = .load ty x) (b q : Nat) (hx : a.eval x = .pointer (some ⟨b, q, none⟩)) (cs : List Value) (d : TypeDesc)
    (hc : ∀ w, C w → w.rangeAt b q cs) (hu : Tryd.prog.underlying ty = some d) (hd : d.isRow = true) (hi : (Tryd.prog.info? ty).map (·.size) = some cs.length) (h : K (a.put o.dst (.agg cs.toArray))) : o.quiet Tryd.prog a C K := by
  refine ⟨.agg cs.toArray, fun w hw => ?_, h⟩
  unfold Oper.quietAt execOp
  simp only [ho, hx, run_loadAt_mid w b q ty cs d (hc w hw) hu hd hi, Sem.run_bind, Sem.run_pure, Result.andThen_ok]
  exact ⟨rfl, rfl⟩
theorem quiet_neq {C : World → Prop} {a : Act} {K : Act → Prop} {o : Oper} (ty t : TypeId) (x y : Operand) (ho : o.op = .binOp .neq ty x y t) (xs ys : Array Value) (hx : a.eval x = .agg xs) (hy : a.eval y = .agg ys) (hg : Tryd.prog.eqGuardType Tryd.prog.depth ty = false)
    (r : Bool) (hr : ∀ w, (Op.equalIn 10000 ty (.agg xs) (.agg ys)).run Tryd.prog w = .ok r w) (h : K (a.put o.dst (.bool (!r)))) : o.quiet Tryd.prog a C K := by
  refine ⟨.bool (!r), fun w hw => ?_, h⟩
  unfold Oper.quietAt execOp
  simp only [ho, hx, hy, Sem.run_bind, run_eqGuard_agg w .neq ty x y _ _ hg, run_neq_struct, hr, Result.andThen_ok, Sem.run_pure]
  exact ⟨rfl, rfl⟩
theorem nodes_mid {w : World} {a : Option Addr} {n c : Nat} {N : List Nd} (h : NodesAt w (.slice a n c) N) {i : Nat} (hi : i < N.length) : ∃ b o, a = some ⟨b, o, none⟩ ∧ w.rangeAt b (o + i * 9) (nd9 (N.getD i default)) ∧ (N.getD i default).s < 2 ^ 256 := by
  obtain ⟨b, o, e, h1, h2⟩ := h.at hi
  exact ⟨b, o, e, h1, h2.s⟩
theorem sizeNodeL (X : Nd) : (Tryd.prog.info? 96).map (·.size) = some (nd9 X).length := by rw [← List.size_toArray]; exact sizeNode X
theorem sizePartL (X : Int × Bool) : (Tryd.prog.info? 78).map (·.size) = some (pt2 X).length := by rw [show (pt2 X).length = 2 from rfl]; kernel_rfl
end Go.Proofs.YtcgllipcnmlkbaaDoor
