/- Several texts in one. -/
import Derived.Test.YtbmoanhdpnaocaaDoorPkL
import Derived.Test.YtbmoanhdpnaocaaDoorPkB
namespace Go.Proofs.YtbmoanhdpnaocaaDoor
namespace Rx
open Sets Tr
/-- m begins as l does, up to the place r, of which more is said. -/
structure Bg (l m : List Nat) (r : Nat) : Prop where
  ag : ∀ i, i ≤ r → pk m i = pk l i
  lt : r < l.length
  lm : r < m.length
  bs : pk l r ≠ 92
  dg : ¬ (48 ≤ pk l r ∧ pk l r ≤ 57)
  rg : 0 < r → pk l (r - 1) ≠ 45
def LX {α : Type} (l m : List Nat) (r p : Nat) (a b : L α) : Prop :=
  match a with
  | .ok _ q => p ≤ q ∧ q ≤ l.length ∧ (Bg l m r → q ≤ r → b = a)
  | .bad q => p ≤ q ∧ q ≤ l.length ∧ (Bg l m r → q = r → b = a)
theorem hx_ag {l m : List Nat} {r p : Nat} (h : Bg l m r) (hp : p + 3 ≤ r) : hx m p = hx l p := by
  unfold hx
  rw [h.ag _ (by omega), h.ag _ (by omega)]
theorem escape_x {l m k : List Nat} (hk : MOk k) (r p : Nat) (h92 : pk l p = 92) : LX l m r p (escape l k p) (escape m k p) := by
  have hp := pk_lt (l := l) (p := p) (by omega)
  by_cases h1 : k.contains (pk l (p + 1)) = true
  · have e : escape l k p = .ok (pk l (p + 1)) (p + 2) := if_pos h1
    rw [e]
    have := pk_lt (hk _ h1)
    refine ⟨by omega, by omega, fun hb hq => ?_⟩
    unfold escape
    rw [hb.ag (p + 1) (by omega), if_pos h1]
  · by_cases h2 : pk l (p + 1) = 120
    · cases h3 : hx l p with
      | none =>
        have e : escape l k p = .bad p := by unfold escape; rw [if_neg h1, if_pos h2, h3]
        rw [e]
        exact ⟨Nat.le_refl _, by omega, fun hb hq => absurd (hq ▸ h92) hb.bs⟩
      | some x =>
        have e : escape l k p = .ok x (p + 4) := by unfold escape; rw [if_neg h1, if_pos h2, h3]
        rw [e]
        have := hx_some h3
        refine ⟨by omega, by omega, fun hb hq => ?_⟩
        unfold escape
        rw [hb.ag (p + 1) (by omega), if_neg h1, if_pos h2, hx_ag hb (by omega), h3]
    · have e : escape l k p = .bad p := by unfold escape; rw [if_neg h1, if_neg h2]
      rw [e]
      exact ⟨Nat.le_refl _, by omega, fun hb hq => absurd (hq ▸ h92) hb.bs⟩
theorem single_x {l m k : List Nat} (hl : ∀ x ∈ l, x < 256) (hk : MOk k) (r p : Nat) (hp : p ≤ l.length) : LX l m r p (single l k p) (single m k p) := by
  by_cases h1 : pk l p = 256
  · have e : single l k p = .bad p := if_pos h1
    rw [e]
    exact ⟨Nat.le_refl _, hp, fun hb hq => by have := pk_ne (l := l) (p := p) (by have := hb.lt; omega) hl; omega⟩
  · have hlt : p < l.length := by
      rcases Nat.lt_or_ge p l.length with h | h
      · exact h
      · exact absurd (pk_end h) h1
    by_cases h2 : pk l p = 92
    · have e : single l k p = escape l k p := by unfold single; rw [if_neg h1, if_pos h2]
      rw [e]
      have h3 := escape_x (m := m) hk r p h2
      revert h3
      cases hh : escape l k p with
      | ok x q =>
        rintro ⟨h3, h4, h5⟩
        refine ⟨h3, h4, fun hb hq => ?_⟩
        rw [← h5 hb hq]
        unfold single
        rw [hb.ag p (by omega), if_neg h1, if_pos h2]
      | bad q =>
        rintro ⟨h3, h4, h5⟩
        refine ⟨h3, h4, fun hb hq => ?_⟩
        rw [← h5 hb hq]
        unfold single
        rw [hb.ag p (by omega), if_neg h1, if_pos h2]
    · by_cases h3 : k.contains (pk l p) = true
      · have e : single l k p = .bad p := by unfold single; rw [if_neg h1, if_neg h2, if_pos h3]
        rw [e]
        refine ⟨Nat.le_refl _, hp, fun hb hq => ?_⟩
        unfold single
        rw [hb.ag p (by omega), if_neg h1, if_neg h2, if_pos h3]
      · have e : single l k p = .ok (pk l p) (p + 1) := by unfold single; rw [if_neg h1, if_neg h2, if_neg h3]
        rw [e]
        refine ⟨by omega, by omega, fun hb hq => ?_⟩
        unfold single
        rw [hb.ag p (by omega), if_neg h1, if_neg h2, if_neg h3]
theorem digit_x {l m : List Nat} (r p : Nat) (hp : p ≤ l.length) : LX l m r p (digit l p) (digit m p) := by
  by_cases h1 : 48 ≤ pk l p ∧ pk l p ≤ 57
  · have e : digit l p = .ok (pk l p - 48) (p + 1) := if_pos h1
    have := pk_lt (l := l) (p := p) (by omega)
    rw [e]
    refine ⟨by omega, by omega, fun hb hq => ?_⟩
    unfold digit
    rw [hb.ag p (by omega), if_pos h1]
  · have e : digit l p = .bad p := if_neg h1
    rw [e]
    refine ⟨Nat.le_refl _, hp, fun hb hq => ?_⟩
    unfold digit
    rw [hb.ag p (by omega), if_neg h1]
theorem need_x {l m : List Nat} (r c p : Nat) (hc : c < 256) (x : Nat × Nat) (hp : p ≤ l.length) : LX l m r p (need l c p x) (need m c p x) := by
  by_cases h1 : pk l p = c
  · have e : need l c p x = .ok x (p + 1) := if_pos h1
    have := pk_lt (l := l) (p := p) (by omega)
    rw [e]
    refine ⟨by omega, by omega, fun hb hq => ?_⟩
    unfold need
    rw [hb.ag p (by omega), if_pos h1]
  · have e : need l c p x = .bad p := if_neg h1
    rw [e]
    refine ⟨Nat.le_refl _, hp, fun hb hq => ?_⟩
    unfold need
    rw [hb.ag p (by omega), if_neg h1]
/-- one thing, and another one behind it -/
theorem LX.next {α β : Type} {l m : List Nat} {r p : Nat} {a b : L α} {c d : L β} (h : LX l m r p a b)
    (hbad : ∀ q, a = .bad q → c = .bad q ∧ (Bg l m r → q = r → b = a → d = .bad q))
    (hok : ∀ x q, a = .ok x q → p ≤ q → q ≤ l.length → ∃ d', LX l m r q c d' ∧ (Bg l m r → q ≤ r → b = a → d = d')) : LX l m r p c d := by
  cases a with
  | bad q =>
    obtain ⟨h1, h2, h3⟩ := h
    obtain ⟨e, h4⟩ := hbad q rfl
    rw [e]
    exact ⟨h1, h2, fun hb hq => h4 hb hq (h3 hb hq)⟩
  | ok x q =>
    obtain ⟨h1, h2, h3⟩ := h
    obtain ⟨d', h4, h5⟩ := hok x q rfl h1 h2
    cases c with
    | bad q' =>
      obtain ⟨h6, h7, h8⟩ := h4
      exact ⟨by omega, h7, fun hb hq => (h5 hb (by omega) (h3 hb (by omega))).trans (h8 hb hq)⟩
    | ok y q' =>
      obtain ⟨h6, h7, h8⟩ := h4
      exact ⟨by omega, h7, fun hb hq => (h5 hb (by omega) (h3 hb (by omega))).trans (h8 hb hq)⟩
def counts2 (l : List Nat) (a p : Nat) : L (Nat × Nat) :=
  match digit l (p + 1) with
  | .bad q => .bad q
  | .ok b p => if b < a then .bad (p - 1) else need l 125 p (a, b)
def counts1 (l : List Nat) (a p : Nat) : L (Nat × Nat) := if pk l p = 44 then counts2 l a p else need l 125 p (a, a)
theorem counts_eq (l : List Nat) (p : Nat) : counts l p = match digit l p with | .bad q => .bad q | .ok a p => counts1 l a p := by
  unfold counts counts1 counts2
  rfl
theorem counts2_x {l m : List Nat} (r a p : Nat) (hp : p < l.length) : LX l m r (p + 1) (counts2 l a p) (counts2 m a p) := by
  have hd := digit_x (l := l) (m := m) r (p + 1) (by omega)
  cases e : digit l (p + 1) with
  | bad q =>
    rw [e] at hd
    obtain ⟨h1, h2, h3⟩ := hd
    have e1 : counts2 l a p = .bad q := by unfold counts2; rw [e]
    rw [e1]
    exact ⟨h1, h2, fun hb hq => by unfold counts2; rw [h3 hb hq]⟩
  | ok b q =>
    rw [e] at hd
    obtain ⟨h1, h2, h3⟩ := hd
    have h4 := digit_ok e
    by_cases hba : b < a
    · have e1 : counts2 l a p = .bad (q - 1) := by unfold counts2; rw [e]; exact if_pos hba
      rw [e1]
      refine ⟨by omega, by omega, fun hb hq => ?_⟩
      exfalso
      have : 48 ≤ pk l (p + 1) ∧ pk l (p + 1) ≤ 57 := by
        unfold digit at e
        split at e
        · assumption
        · cases e
      have h5 : r = p + 1 := by omega
      exact hb.dg (h5 ▸ this)
    · have e1 : counts2 l a p = need l 125 q (a, b) := by unfold counts2; rw [e]; exact if_neg hba
      have hn := need_x (l := l) (m := m) r 125 q (by decide) (a, b) h2
      rw [e1]
      cases e2 : need l 125 q (a, b) with
      | bad q' =>
        rw [e2] at hn
        refine ⟨by have := hn.1; omega, hn.2.1, fun hb hq => ?_⟩
        have h6 := hn.1
        unfold counts2
        rw [h3 hb (by omega)]
        simp only [if_neg hba]
        exact hn.2.2 hb hq
      | ok x q' =>
        rw [e2] at hn
        refine ⟨by have := hn.1; omega, hn.2.1, fun hb hq => ?_⟩
        have h6 := hn.1
        unfold counts2
        rw [h3 hb (by omega)]
        simp only [if_neg hba]
        exact hn.2.2 hb hq
theorem LX.low {α : Type} {l m : List Nat} {r p p' : Nat} {a b : L α} (h : LX l m r p a b) (hp : p' ≤ p) : LX l m r p' a b := by
  cases a with
  | bad q => exact ⟨Nat.le_trans hp h.1, h.2⟩
  | ok x q => exact ⟨Nat.le_trans hp h.1, h.2⟩
/-- the same head byte -/
theorem LX.head {α : Type} {l m : List Nat} {r p : Nat} {a b b' : L α} (h : LX l m r p a b') (e : Bg l m r → p ≤ r → b = b') : LX l m r p a b := by
  cases a with
  | bad q => exact ⟨h.1, h.2.1, fun hb hq => (e hb (by have := h.1; omega)).trans (h.2.2 hb hq)⟩
  | ok x q => exact ⟨h.1, h.2.1, fun hb hq => (e hb (by have := h.1; omega)).trans (h.2.2 hb hq)⟩
theorem LX.ok1 {α : Type} {l m : List Nat} {r p : Nat} (x : α) (hp : p < l.length) : LX l m r p (.ok x (p + 1)) (.ok x (p + 1)) := ⟨by omega, by omega, fun _ _ => rfl⟩
theorem counts1_x {l m : List Nat} (r a p : Nat) (hp : p ≤ l.length) : LX l m r p (counts1 l a p) (counts1 m a p) := by
  by_cases h : pk l p = 44
  · have hlt := pk_lt (l := l) (p := p) (by omega)
    have e : counts1 l a p = counts2 l a p := if_pos h
    rw [e]
    exact LX.head ((counts2_x r a p hlt).low (by omega)) (fun hb hq => by unfold counts1; rw [hb.ag p hq, if_pos h])
  · have e : counts1 l a p = need l 125 p (a, a) := if_neg h
    rw [e]
    exact LX.head (need_x r 125 p (by decide) (a, a) hp) (fun hb hq => by unfold counts1; rw [hb.ag p hq, if_neg h])
theorem counts_x {l m : List Nat} (r p : Nat) (hp : p ≤ l.length) : LX l m r p (counts l p) (counts m p) := by
  rw [counts_eq l, counts_eq m]
  refine (digit_x (m := m) r p hp).next (fun q e => ⟨by rw [e], fun _ _ e2 => by rw [e2, e]⟩) (fun a q e h1 h2 => ⟨counts1 m a q, ?_, fun hb hq e2 => by rw [e2, e]⟩)
  rw [e]
  exact counts1_x r a q h2
def timesC (l : List Nat) (p : Nat) : L (Option (Int × Int)) := match counts l (p + 1) with | .ok (a, b) q => .ok (some ((a : Int), (b : Int))) q | .bad q => .bad q
theorem timesC_x {l m : List Nat} (r p : Nat) (hp : p < l.length) : LX l m r (p + 1) (timesC l p) (timesC m p) := by
  refine (counts_x (m := m) r (p + 1) hp).next (fun q e => ⟨by unfold timesC; rw [e], fun _ _ e2 => by unfold timesC; rw [e2, e]⟩) (fun a q e h1 h2 => ⟨.ok (some ((a.1 : Int), (a.2 : Int))) q, ?_, fun hb hq e2 => by unfold timesC; rw [e2, e]⟩)
  have e1 : timesC l p = .ok (some ((a.1 : Int), (a.2 : Int))) q := by unfold timesC; rw [e]
  rw [e1]
  exact ⟨Nat.le_refl _, h2, fun _ _ => rfl⟩
theorem times_x {l m : List Nat} (r p : Nat) (hp : p ≤ l.length) : LX l m r p (times l p) (times m p) := by
  by_cases h1 : pk l p = 42
  · have hlt := pk_lt (l := l) (p := p) (by omega)
    have e : times l p = .ok (some (0, -1)) (p + 1) := if_pos h1
    rw [e]
    exact (LX.ok1 _ hlt).head (fun hb hq => by unfold times; rw [hb.ag p hq, if_pos h1])
  · by_cases h2 : pk l p = 43
    · have hlt := pk_lt (l := l) (p := p) (by omega)
      have e : times l p = .ok (some (1, -1)) (p + 1) := by unfold times; rw [if_neg h1, if_pos h2]
      rw [e]
      exact (LX.ok1 _ hlt).head (fun hb hq => by unfold times; rw [hb.ag p hq, if_neg h1, if_pos h2])
    · by_cases h3 : pk l p = 63
      · have hlt := pk_lt (l := l) (p := p) (by omega)
        have e : times l p = .ok (some (0, 1)) (p + 1) := by unfold times; rw [if_neg h1, if_neg h2, if_pos h3]
        rw [e]
        exact (LX.ok1 _ hlt).head (fun hb hq => by unfold times; rw [hb.ag p hq, if_neg h1, if_neg h2, if_pos h3])
      · by_cases h4 : pk l p = 123
        · have hlt := pk_lt (l := l) (p := p) (by omega)
          have e : times l p = timesC l p := by unfold times; rw [if_neg h1, if_neg h2, if_neg h3, if_pos h4]; rfl
          rw [e]
          exact ((timesC_x r p hlt).low (by omega)).head (fun hb hq => by unfold times; rw [hb.ag p hq, if_neg h1, if_neg h2, if_neg h3, if_pos h4]; rfl)
        · have e : times l p = .ok none p := by unfold times; rw [if_neg h1, if_neg h2, if_neg h3, if_neg h4]
          rw [e]
          exact ⟨Nat.le_refl _, hp, fun hb hq => by unfold times; rw [hb.ag p hq, if_neg h1, if_neg h2, if_neg h3, if_neg h4]⟩
theorem inner_ok : MOk inner := fun _ => inner_lt
theorem marks_ok : MOk marks := fun _ => marks_lt
def item2 (l : List Nat) (a p : Nat) : L Nat := match single l inner (p + 1) with | .bad q => .bad q | .ok b q => if b < a then .bad (p + 1) else .ok (rangeN a b) q
def item1 (l : List Nat) (a p : Nat) : L Nat := if pk l p = 45 then item2 l a p else .ok (2 ^ a) p
theorem item_eq (l : List Nat) (p : Nat) : item l p = match single l inner p with | .bad q => .bad q | .ok a p => item1 l a p := by
  unfold item item1 item2
  rfl
theorem item2_x {l m : List Nat} (hl : ∀ x ∈ l, x < 256) (r a p : Nat) (hp : p < l.length) (h45 : pk l p = 45) : LX l m r (p + 1) (item2 l a p) (item2 m a p) := by
  have hd := single_x (m := m) hl inner_ok r (p + 1) (by omega)
  cases e : single l inner (p + 1) with
  | bad q =>
    rw [e] at hd
    obtain ⟨h1, h2, h3⟩ := hd
    have e1 : item2 l a p = .bad q := by unfold item2; rw [e]
    rw [e1]
    exact ⟨h1, h2, fun hb hq => by unfold item2; rw [h3 hb hq]⟩
  | ok b q =>
    rw [e] at hd
    obtain ⟨h1, h2, h3⟩ := hd
    by_cases hba : b < a
    · have e1 : item2 l a p = .bad (p + 1) := by unfold item2; rw [e]; exact if_pos hba
      rw [e1]
      refine ⟨by omega, by omega, fun hb hq => ?_⟩
      exfalso
      have := hb.rg (by omega)
      rw [← hq] at this
      exact this h45
    · have e1 : item2 l a p = .ok (rangeN a b) q := by unfold item2; rw [e]; exact if_neg hba
      rw [e1]
      refine ⟨h1, h2, fun hb hq => ?_⟩
      unfold item2
      rw [h3 hb hq]
      exact if_neg hba
theorem item1_x {l m : List Nat} (hl : ∀ x ∈ l, x < 256) (r a p : Nat) (hp : p ≤ l.length) : LX l m r p (item1 l a p) (item1 m a p) := by
  by_cases h : pk l p = 45
  · have hlt := pk_lt (l := l) (p := p) (by omega)
    have e : item1 l a p = item2 l a p := if_pos h
    rw [e]
    exact LX.head ((item2_x hl r a p hlt h).low (by omega)) (fun hb hq => by unfold item1; rw [hb.ag p hq, if_pos h])
  · have e : item1 l a p = .ok (2 ^ a) p := if_neg h
    rw [e]
    exact ⟨Nat.le_refl _, hp, fun hb hq => by unfold item1; rw [hb.ag p hq, if_neg h]⟩
theorem item_x {l m : List Nat} (hl : ∀ x ∈ l, x < 256) (r p : Nat) (hp : p ≤ l.length) : LX l m r p (item l p) (item m p) := by
  rw [item_eq l, item_eq m]
  refine (single_x (m := m) hl inner_ok r p hp).next (fun q e => ⟨by rw [e], fun _ _ e2 => by rw [e2, e]⟩) (fun a q e h1 h2 => ⟨item1 m a q, ?_, fun hb hq e2 => by rw [e2, e]⟩)
  rw [e]
  exact item1_x hl r a q h2
theorem clsL_x {l m : List Nat} (hl : ∀ x ∈ l, x < 256) (r : Nat) : ∀ (f g S p : Nat), p ≤ l.length → l.length < p + f → (p ≤ r → r < m.length → m.length < p + g) → LX l m r p (clsL l f S p) (clsL m g S p)
  | 0, _, _, _, h1, h2, _ => by omega
  | f + 1, g, S, p, hp, hf, hg => by
    have hg1 : Bg l m r → p ≤ r → ∃ g', g = g' + 1 := fun hb hq => ⟨g - 1, by have := hg hq hb.lm; have := hb.lm; omega⟩
    by_cases h : pk l p = 93
    · have hlt := pk_lt (l := l) (p := p) (by omega)
      have e : clsL l (f + 1) S p = .ok S (p + 1) := if_pos h
      rw [e]
      refine (LX.ok1 _ hlt).head (fun hb hq => ?_)
      obtain ⟨g', rfl⟩ := hg1 hb hq
      unfold clsL
      rw [hb.ag p hq, if_pos h]
    · have e : clsL l (f + 1) S p = match item l p with | .bad q => .bad q | .ok T q => clsL l f (S ||| T) q := if_neg h
      rw [e]
      refine (item_x (m := m) hl r p hp).next (fun q e1 => ⟨by rw [e1], fun hb hq e2 => ?_⟩) (fun T q e1 h1 h2 => ⟨clsL m (g - 1) (S ||| T) q, ?_, fun hb hq e2 => ?_⟩)
      · have hpq : p ≤ r := by
          have := item_x (m := m) hl r p hp
          rw [e1] at this
          have := this.1
          omega
        obtain ⟨g', rfl⟩ := hg1 hb hpq
        unfold clsL
        rw [hb.ag p hpq, if_neg h, e2, e1]
      · rw [e1]
        have h3 := item_ok hl e1
        refine clsL_x hl r f (g - 1) (S ||| T) q h2 (by omega) (fun h4 h5 => ?_)
        have := hg (by omega) h5
        omega
      · obtain ⟨g', rfl⟩ := hg1 hb (by omega)
        show clsL m (g' + 1) S p = clsL m g' (S ||| T) q
        rw [show clsL m (g' + 1) S p = _ from rfl, clsL, hb.ag p (by omega), if_neg h, e2, e1]
def cls1 (l : List Nat) (f p : Nat) : L Nat := match clsL l f 0 p with | .ok S q => .ok (full ^^^ S) q | .bad q => .bad q
theorem cls_x {l m : List Nat} (hl : ∀ x ∈ l, x < 256) (r p : Nat) (hp : p ≤ l.length) : LX l m r p (cls l p) (cls m p) := by
  by_cases h : pk l p = 94
  · have hlt := pk_lt (l := l) (p := p) (by omega)
    have e : cls l p = cls1 l (l.length + 1) (p + 1) := if_pos h
    rw [e]
    refine LX.head (b' := cls1 m (m.length + 1) (p + 1)) (LX.low (p := p + 1) ?_ (by omega)) (fun hb hq => by unfold cls; rw [hb.ag p hq, if_pos h]; rfl)
    refine (clsL_x (m := m) hl r (l.length + 1) (m.length + 1) 0 (p + 1) hlt (by omega) (fun _ _ => by omega)).next (fun q e => ⟨by unfold cls1; rw [e], fun _ _ e2 => by unfold cls1; rw [e2, e]⟩) (fun S q e h1 h2 => ⟨.ok (full ^^^ S) q, ?_, fun hb hq e2 => by unfold cls1; rw [e2, e]⟩)
    have e1 : cls1 l (l.length + 1) (p + 1) = .ok (full ^^^ S) q := by unfold cls1; rw [e]
    rw [e1]
    exact ⟨Nat.le_refl _, h2, fun _ _ => rfl⟩
  · have e : cls l p = clsL l (l.length + 1) 0 p := if_neg h
    rw [e]
    exact (clsL_x (m := m) hl r (l.length + 1) (m.length + 1) 0 p hp (by omega) (fun _ _ => by omega)).head (fun hb hq => by unfold cls; rw [hb.ag p hq, if_neg h])
def GX (l m : List Nat) (r p t : Nat) (a b : G) : Prop :=
  match a with
  | .ok _ q _ => p + t ≤ q ∧ q ≤ l.length ∧ (Bg l m r → q ≤ r → b = a)
  | .bad _ q => p ≤ q ∧ q ≤ l.length ∧ (Bg l m r → q = r → b = a)
theorem GX.low {l m : List Nat} {r p p' t t' : Nat} {a b : G} (h : GX l m r p t a b) (hp : p' ≤ p) (ht : p' + t' ≤ p + t) : GX l m r p' t' a b := by
  cases a with
  | bad lg q => exact ⟨Nat.le_trans hp h.1, h.2⟩
  | ok n q ns => exact ⟨Nat.le_trans ht h.1, h.2⟩
theorem GX.head {l m : List Nat} {r p t : Nat} {a b b' : G} (h : GX l m r p t a b') (e : Bg l m r → p ≤ r → b = b') : GX l m r p t a b := by
  cases a with
  | bad lg q => exact ⟨h.1, h.2.1, fun hb hq => (e hb (by have := h.1; omega)).trans (h.2.2 hb hq)⟩
  | ok n q ns => exact ⟨h.1, h.2.1, fun hb hq => (e hb (by have := h.1; omega)).trans (h.2.2 hb hq)⟩
theorem GX.bind {l m : List Nat} {r p t u : Nat} {a b : G} {k k' : Nat → Nat → List Nd → G} (h : GX l m r p t a b) (hu : u ≤ t)
    (hk : ∀ n q ns, a = .ok n q ns → p + t ≤ q → q ≤ l.length → GX l m r q 0 (k n q ns) (k' n q ns)) : GX l m r p u (a.bind k) (b.bind k') := by
  cases a with
  | bad lg q =>
    obtain ⟨h1, h2, h3⟩ := h
    exact ⟨h1, h2, fun hb hq => by rw [h3 hb hq]; rfl⟩
  | ok n q ns =>
    obtain ⟨h1, h2, h3⟩ := h
    have h4 := hk n q ns rfl h1 h2
    show GX l m r p u (k n q ns) (b.bind k')
    cases e : k n q ns with
    | bad lg q' =>
      rw [e] at h4
      obtain ⟨h5, h6, h7⟩ := h4
      exact ⟨by omega, h6, fun hb hq => by rw [h3 hb (by omega)]; exact h7 hb hq⟩
    | ok n' q' ns' =>
      rw [e] at h4
      obtain ⟨h5, h6, h7⟩ := h4
      exact ⟨by omega, h6, fun hb hq => by rw [h3 hb (by omega)]; exact h7 hb hq⟩
theorem LX.bind {α : Type} {l m : List Nat} {r p t : Nat} {a b : L α} {k k' : α → Nat → G} (h : LX l m r p a b)
    (hk : ∀ x q, a = .ok x q → p ≤ q → q ≤ l.length → GX l m r q 0 (k x q) (k' x q)) (ht : ∀ x q, a = .ok x q → p + t ≤ q) : GX l m r p t (a.bind k) (b.bind k') := by
  cases a with
  | bad q =>
    obtain ⟨h1, h2, h3⟩ := h
    exact ⟨h1, h2, fun hb hq => by rw [h3 hb hq]; rfl⟩
  | ok x q =>
    obtain ⟨h1, h2, h3⟩ := h
    have h4 := hk x q rfl h1 h2
    have h8 := ht x q rfl
    show GX l m r p t (k x q) (b.bind k')
    cases e : k x q with
    | bad lg q' =>
      rw [e] at h4
      obtain ⟨h5, h6, h7⟩ := h4
      exact ⟨by omega, h6, fun hb hq => by rw [h3 hb (by omega)]; exact h7 hb hq⟩
    | ok n' q' ns' =>
      rw [e] at h4
      obtain ⟨h5, h6, h7⟩ := h4
      exact ⟨by omega, h6, fun hb hq => by rw [h3 hb (by omega)]; exact h7 hb hq⟩
theorem GX.ok {l m : List Nat} {r p q t : Nat} (n : Nat) (ns : List Nd) (h1 : p + t ≤ q) (h2 : q ≤ l.length) : GX l m r p t (.ok n q ns) (.ok n q ns) := ⟨h1, h2, fun _ _ => rfl⟩
theorem GX.bad {l m : List Nat} {r p t : Nat} (lg : Bool) (h2 : p ≤ l.length) : GX l m r p t (.bad lg p) (.bad lg p) := ⟨Nat.le_refl _, h2, fun _ _ => rfl⟩
theorem ends_ag {l m : List Nat} {r p : Nat} (hb : Bg l m r) (hp : p ≤ r) : ends m p = ends l p := by unfold ends; rw [hb.ag p hp]
theorem not_ends_lt {l : List Nat} {p : Nat} (h : ends l p = false) : p < l.length := by
  rcases Nat.lt_or_ge p l.length with h1 | h1
  · exact h1
  · unfold ends at h
    rw [pk_end h1] at h
    exact absurd h (by decide)
theorem go_x {l m : List Nat} (hl : ∀ x ∈ l, x < 256) (r : Nat) : ∀ (f g : Nat) (md : Md) (o p : Nat) (ns : List Nd), p ≤ l.length → 5 * (l.length - p) + md.c < f → (p ≤ r → r < m.length → 5 * (m.length - p) + md.c < g) → GX l m r p md.t (go l f md o p ns) (go m g md o p ns) := by
  intro f
  induction f with
  | zero => intro g md o p ns _ h _; omega
  | succ f ih =>
    intro g md o p ns hp hf hg
    have hg1 : Bg l m r → p ≤ r → ∃ g', g = g' + 1 := fun hb hq => ⟨g - 1, by have := hg hq hb.lm; omega⟩
    have hgq : ∀ {q : Nat} {md' : Md}, (p < q ∧ md'.c < md.c + 5 ∨ p ≤ q ∧ md'.c < md.c) → q ≤ r → r < m.length → 5 * (m.length - q) + md'.c < g - 1 := fun {q md'} h1 h2 h3 => by
      have := hg (by omega) h3
      omega
    cases md with
    | pat =>
      have e : go l (f + 1) .pat o p ns = (go l f .bra o p ns).bind fun n p ns => go l f (.patL n) o p ns := by rw [go]
      rw [e]
      refine GX.head (b' := (go m (g - 1) .bra o p ns).bind fun n p ns => go m (g - 1) (.patL n) o p ns) ?_ (fun hb hq => by obtain ⟨g', rfl⟩ := hg1 hb hq; rw [go]; rfl)
      refine (ih (g - 1) .bra o p ns hp (by simp only [Md.c] at *; omega) (fun h1 h2 => hgq (.inr ⟨Nat.le_refl _, by simp [Md.c]⟩) h1 h2)).bind (Nat.le_refl _) (fun n q ns' _ h1 h2 => ?_)
      exact (ih (g - 1) (.patL n) o q ns' h2 (by simp only [Md.c, Md.t] at *; omega) (fun h3 h4 => hgq (.inr ⟨by simp only [Md.t] at h1; omega, by simp [Md.c]⟩) h3 h4)).low (Nat.le_refl _) (Nat.le_refl _)
    | patL n =>
      by_cases h : pk l p = 124
      · have hlt := pk_lt (l := l) (p := p) (by omega)
        have e : go l (f + 1) (.patL n) o p ns = (go l f .bra o (p + 1) ns).bind fun m p ns => go l f (.patL ns.length) o p (ns ++ [⟨4, 0, n, m, 0, 0⟩]) := by rw [go, if_pos h]
        rw [e]
        refine GX.head (b' := (go m (g - 1) .bra o (p + 1) ns).bind fun k p ns => go m (g - 1) (.patL ns.length) o p (ns ++ [⟨4, 0, n, k, 0, 0⟩])) (GX.low (p := p + 1) (t := 0) ?_ (by omega) (by simp only [Md.t]; omega)) (fun hb hq => by obtain ⟨g', rfl⟩ := hg1 hb hq; rw [go, hb.ag p hq, if_pos h]; rfl)
        refine (ih (g - 1) .bra o (p + 1) ns hlt (by simp only [Md.c] at *; omega) (fun h1 h2 => hgq (.inl ⟨by omega, by simp [Md.c]⟩) h1 h2)).bind (Nat.le_refl _) (fun k q ns' _ h1 h2 => ?_)
        exact (ih (g - 1) (.patL ns'.length) o q _ h2 (by simp only [Md.c, Md.t] at *; omega) (fun h3 h4 => hgq (.inl ⟨by simp only [Md.t] at h1; omega, by simp [Md.c]⟩) h3 h4)).low (Nat.le_refl _) (Nat.le_refl _)
      · have e : go l (f + 1) (.patL n) o p ns = .ok n p ns := by rw [go, if_neg h]
        rw [e]
        exact GX.head (b' := .ok n p ns) (GX.ok n ns (Nat.le_refl _) hp) (fun hb hq => by obtain ⟨g', rfl⟩ := hg1 hb hq; rw [go, hb.ag p hq, if_neg h])
    | bra =>
      by_cases h : ends l p = true
      · have e : go l (f + 1) .bra o p ns = add ⟨1, 0, 0, 0, 0, 0⟩ p ns := by rw [go, if_pos h]
        rw [e]
        exact GX.head (b' := add ⟨1, 0, 0, 0, 0, 0⟩ p ns) (GX.ok _ _ (Nat.le_refl _) hp) (fun hb hq => by obtain ⟨g', rfl⟩ := hg1 hb hq; rw [go, ends_ag hb hq, if_pos h])
      · have hlt := not_ends_lt (by simpa using h)
        have e : go l (f + 1) .bra o p ns = (go l f .pie o p ns).bind fun n p ns => go l f (.braL n) o p ns := by rw [go, if_neg h]
        rw [e]
        refine GX.head (b' := (go m (g - 1) .pie o p ns).bind fun n p ns => go m (g - 1) (.braL n) o p ns) ?_ (fun hb hq => by obtain ⟨g', rfl⟩ := hg1 hb hq; rw [go, ends_ag hb hq, if_neg h]; rfl)
        refine (ih (g - 1) .pie o p ns hp (by simp only [Md.c] at *; omega) (fun h1 h2 => hgq (.inr ⟨Nat.le_refl _, by simp [Md.c]⟩) h1 h2)).bind (by simp [Md.t]) (fun k q ns' _ h1 h2 => ?_)
        exact (ih (g - 1) (.braL k) o q _ h2 (by simp only [Md.c, Md.t] at *; omega) (fun h3 h4 => hgq (.inl ⟨by simp only [Md.t] at h1; omega, by simp [Md.c]⟩) h3 h4)).low (Nat.le_refl _) (Nat.le_refl _)
    | braL n =>
      by_cases h : ends l p = true
      · have e : go l (f + 1) (.braL n) o p ns = .ok n p ns := by rw [go, if_pos h]
        rw [e]
        exact GX.head (b' := .ok n p ns) (GX.ok n ns (Nat.le_refl _) hp) (fun hb hq => by obtain ⟨g', rfl⟩ := hg1 hb hq; rw [go, ends_ag hb hq, if_pos h])
      · have hlt := not_ends_lt (by simpa using h)
        have e : go l (f + 1) (.braL n) o p ns = (go l f .pie o p ns).bind fun m p ns => go l f (.braL ns.length) o p (ns ++ [⟨3, 0, n, m, 0, 0⟩]) := by rw [go, if_neg h]
        rw [e]
        refine GX.head (b' := (go m (g - 1) .pie o p ns).bind fun k p ns => go m (g - 1) (.braL ns.length) o p (ns ++ [⟨3, 0, n, k, 0, 0⟩])) ?_ (fun hb hq => by obtain ⟨g', rfl⟩ := hg1 hb hq; rw [go, ends_ag hb hq, if_neg h]; rfl)
        refine (ih (g - 1) .pie o p ns hp (by simp only [Md.c] at *; omega) (fun h1 h2 => hgq (.inr ⟨Nat.le_refl _, by simp [Md.c]⟩) h1 h2)).bind (by simp [Md.t]) (fun k q ns' _ h1 h2 => ?_)
        exact (ih (g - 1) (.braL ns'.length) o q _ h2 (by simp only [Md.c, Md.t] at *; omega) (fun h3 h4 => hgq (.inl ⟨by simp only [Md.t] at h1; omega, by simp [Md.c]⟩) h3 h4)).low (Nat.le_refl _) (Nat.le_refl _)
    | pie =>
      have e : go l (f + 1) .pie o p ns = (go l f .ato o p ns).bind fun n p ns => (times l p).bind fun r p => match r with | none => .ok n p ns | some (a, b) => add ⟨5, 0, n, 0, a, b⟩ p ns := by rw [go]; rfl
      rw [e]
      refine GX.head (b' := (go m (g - 1) .ato o p ns).bind fun n p ns => (times m p).bind fun r p => match r with | none => .ok n p ns | some (a, b) => add ⟨5, 0, n, 0, a, b⟩ p ns) ?_ (fun hb hq => by obtain ⟨g', rfl⟩ := hg1 hb hq; rw [go]; rfl)
      refine (ih (g - 1) .ato o p ns hp (by simp only [Md.c] at *; omega) (fun h1 h2 => hgq (.inr ⟨Nat.le_refl _, by simp [Md.c]⟩) h1 h2)).bind (Nat.le_refl _) (fun k q ns' _ h1 h2 => ?_)
      refine (times_x (m := m) r q h2).bind (fun x q' _ h3 h4 => ?_) (fun x q' e2 => (times_ok e2 h2).1)
      cases x with
      | none => exact GX.ok _ _ (Nat.le_refl _) h4
      | some ab => exact GX.ok _ _ (Nat.le_refl _) h4
    | ato =>
      by_cases h40 : pk l p = 40
      · have hlt := pk_lt (l := l) (p := p) (by omega)
        by_cases h16 : o = 16
        · have e : go l (f + 1) .ato o p ns = .bad true p := by rw [go, if_pos h40, if_pos h16]
          rw [e]
          exact (GX.bad true hp).head (fun hb hq => by obtain ⟨g', rfl⟩ := hg1 hb hq; rw [go, hb.ag p hq, if_pos h40, if_pos h16])
        · have e : go l (f + 1) .ato o p ns = (go l f .pat (o + 1) (p + 1) ns).bind fun n p ns => if pk l p = 41 then .ok n (p + 1) ns else .bad false p := by rw [go, if_pos h40, if_neg h16]
          rw [e]
          refine GX.head (b' := (go m (g - 1) .pat (o + 1) (p + 1) ns).bind fun n p ns => if pk m p = 41 then .ok n (p + 1) ns else .bad false p) (GX.low (p := p + 1) (t := 0) ?_ (by omega) (by simp only [Md.t]; omega)) (fun hb hq => by obtain ⟨g', rfl⟩ := hg1 hb hq; rw [go, hb.ag p hq, if_pos h40, if_neg h16]; rfl)
          refine (ih (g - 1) .pat (o + 1) (p + 1) ns hlt (by simp only [Md.c] at *; omega) (fun h1 h2 => hgq (.inl ⟨by omega, by simp [Md.c]⟩) h1 h2)).bind (Nat.le_refl _) (fun k q ns' _ h1 h2 => ?_)
          by_cases h41 : pk l q = 41
          · have hlt2 := pk_lt (l := l) (p := q) (by omega)
            rw [if_pos h41]
            exact GX.head (b' := .ok k (q + 1) ns') (GX.ok _ _ (by omega) hlt2) (fun hb hq => by rw [hb.ag q hq, if_pos h41])
          · rw [if_neg h41]
            exact (GX.bad false h2).head (fun hb hq => by rw [hb.ag q hq, if_neg h41])
      · by_cases h91 : pk l p = 91
        · have hlt := pk_lt (l := l) (p := p) (by omega)
          have e : go l (f + 1) .ato o p ns = (cls l (p + 1)).bind fun S p => addS S p ns := by rw [go, if_neg h40, if_pos h91]
          rw [e]
          refine GX.head (b' := (cls m (p + 1)).bind fun S p => addS S p ns) (GX.low (p := p + 1) (t := 0) ?_ (by omega) (by simp only [Md.t]; omega)) (fun hb hq => by obtain ⟨g', rfl⟩ := hg1 hb hq; rw [go, hb.ag p hq, if_neg h40, if_pos h91])
          exact (cls_x (m := m) hl r (p + 1) hlt).bind (fun x q _ h1 h2 => GX.ok _ _ (Nat.le_refl _) h2) (fun x q e2 => by have := (cls_ok hl e2).2.1; omega)
        · by_cases h46 : pk l p = 46
          · have hlt := pk_lt (l := l) (p := p) (by omega)
            have e : go l (f + 1) .ato o p ns = addS full (p + 1) ns := by rw [go, if_neg h40, if_neg h91, if_pos h46]
            rw [e]
            exact GX.head (b' := addS full (p + 1) ns) (GX.ok _ _ (by simp only [Md.t]; omega) hlt) (fun hb hq => by obtain ⟨g', rfl⟩ := hg1 hb hq; rw [go, hb.ag p hq, if_neg h40, if_neg h91, if_pos h46])
          · have e : go l (f + 1) .ato o p ns = (single l marks p).bind fun c p => addS (2 ^ c) p ns := by rw [go, if_neg h40, if_neg h91, if_neg h46]
            rw [e]
            refine GX.head (b' := (single m marks p).bind fun c p => addS (2 ^ c) p ns) ?_ (fun hb hq => by obtain ⟨g', rfl⟩ := hg1 hb hq; rw [go, hb.ag p hq, if_neg h40, if_neg h91, if_neg h46])
            exact (single_x (m := m) hl marks_ok r p hp).bind (fun x q _ h1 h2 => GX.ok _ _ (Nat.le_refl _) h2) (fun x q e2 => by have := (single_ok marks_ok hl e2).2.1; simp only [Md.t]; omega)
theorem nots_ag {l m : List Nat} {r : Nat} (hb : Bg l m r) : ∀ (f g : Nat) (b : Bool) (p : Nat), p ≤ l.length → l.length < p + f → m.length < p + g → (nots l f b p).2 ≤ r → nots m g b p = nots l f b p
  | 0, g, b, p, h, hf, hg, hr => by omega
  | f + 1, g, b, p, h, hf, hg, hr => by
    have h0 := nots_ok (l := l) (f + 1) b p h hf
    obtain ⟨g', rfl⟩ : ∃ g', g = g' + 1 := ⟨g - 1, by have := hb.lm; omega⟩
    by_cases h1 : pk l p = 33
    · have hlt := pk_lt (l := l) (p := p) (by omega)
      have e : nots l (f + 1) b p = nots l f (!b) (p + 1) := by rw [nots, if_pos h1]
      rw [e] at hr h0 ⊢
      rw [nots, hb.ag p (by omega), if_pos h1]
      exact nots_ag hb f g' (!b) (p + 1) hlt (by omega) (by omega) hr
    · rw [nots, hb.ag p (by omega), if_neg h1, nots, if_neg h1]
def PX (l m : List Nat) (r p : Nat) (a b : P) : Prop :=
  match a with
  | .ok q _ _ => p ≤ q ∧ q ≤ l.length ∧ (Bg l m r → q ≤ r → b = a)
  | .bad _ q => p ≤ q ∧ q ≤ l.length ∧ (Bg l m r → q = r → b = a)
theorem prt_x {l m : List Nat} (hl : ∀ x ∈ l, x < 256) (r p : Nat) (ns : List Nd) (ps : List (Int × Bool)) (hp : p ≤ l.length) : PX l m r p (prt l p ns ps) (prt m p ns ps) := by
  have h0 := nots_ok (l := l) (l.length + 1) false p hp (by omega)
  have h1 : Bg l m r → (nots l (l.length + 1) false p).2 ≤ r → nots m (m.length + 1) false p = nots l (l.length + 1) false p := fun hb hr =>
    nots_ag hb _ _ false p hp (by omega) (by have := hb.lm; omega) hr
  unfold prt
  generalize nots l (l.length + 1) false p = x at *
  obtain ⟨b, q⟩ := x
  simp only at *
  have h2 := go_x (m := m) hl r (fl l) (fl m) .pat 0 q ns h0.2.1 (by unfold fl; simp only [Md.c]; omega) (fun _ _ => by unfold fl; simp only [Md.c]; omega)
  unfold prtE
  cases e : go l (fl l) .pat 0 q ns with
  | bad lg q' =>
    rw [e] at h2
    obtain ⟨h3, h4, h5⟩ := h2
    exact ⟨by omega, h4, fun hb hq => by rw [h1 hb (by omega)]; simp only; rw [h5 hb hq]⟩
  | ok n q' ns' =>
    rw [e] at h2
    obtain ⟨h3, h4, h5⟩ := h2
    simp only [Md.t] at h3
    exact ⟨by omega, h4, fun hb hq => by rw [h1 hb (by omega)]; simp only; rw [h5 hb hq]⟩
theorem prtsL_x {l m : List Nat} (hl : ∀ x ∈ l, x < 256) (r : Nat) : ∀ (f g p : Nat) (ns : List Nd) (ps : List (Int × Bool)), p ≤ l.length → l.length < p + f → (p ≤ r → r < m.length → m.length < p + g) → PX l m r p (prtsL l f p ns ps) (prtsL m g p ns ps)
  | 0, g, p, ns, ps, hp, hf, hg => by omega
  | f + 1, g, p, ns, ps, hp, hf, hg => by
    have hg1 : Bg l m r → p ≤ r → ∃ g', g = g' + 1 := fun hb hq => ⟨g - 1, by have := hg hq hb.lm; have := hb.lm; omega⟩
    by_cases h38 : pk l p = 38
    · have hlt := pk_lt (l := l) (p := p) (by omega)
      by_cases h20 : ps.length = 20
      · have e : prtsL l (f + 1) p ns ps = .bad true p := by rw [prtsL, if_pos h38, if_pos h20]
        rw [e]
        exact ⟨Nat.le_refl _, hp, fun hb hq => by obtain ⟨g', rfl⟩ := hg1 hb (by omega); rw [prtsL, hb.ag p (by omega), if_pos h38, if_pos h20]⟩
      · have h1 := prt_x (m := m) hl r (p + 1) ns ps hlt
        cases e1 : prt l (p + 1) ns ps with
        | bad lg q =>
          rw [e1] at h1
          obtain ⟨h2, h3, h4⟩ := h1
          have e : prtsL l (f + 1) p ns ps = .bad lg q := by rw [prtsL, if_pos h38, if_neg h20, e1]
          rw [e]
          exact ⟨by omega, h3, fun hb hq => by obtain ⟨g', rfl⟩ := hg1 hb (by omega); rw [prtsL, hb.ag p (by omega), if_pos h38, if_neg h20, h4 hb hq]⟩
        | ok q ns1 ps1 =>
          rw [e1] at h1
          obtain ⟨h2, h3, h4⟩ := h1
          have e : prtsL l (f + 1) p ns ps = prtsL l f q ns1 ps1 := by rw [prtsL, if_pos h38, if_neg h20, e1]
          rw [e]
          have h5 := prtsL_x (m := m) hl r f (g - 1) q ns1 ps1 h3 (by omega) (fun h6 h7 => by have := hg (by omega) h7; omega)
          cases e2 : prtsL l f q ns1 ps1 with
          | bad lg q' =>
            rw [e2] at h5
            obtain ⟨h6, h7, h8⟩ := h5
            exact ⟨by omega, h7, fun hb hq => by obtain ⟨g', rfl⟩ := hg1 hb (by omega); rw [prtsL, hb.ag p (by omega), if_pos h38, if_neg h20, h4 hb (by omega)]; exact h8 hb hq⟩
          | ok q' ns2 ps2 =>
            rw [e2] at h5
            obtain ⟨h6, h7, h8⟩ := h5
            exact ⟨by omega, h7, fun hb hq => by obtain ⟨g', rfl⟩ := hg1 hb (by omega); rw [prtsL, hb.ag p (by omega), if_pos h38, if_neg h20, h4 hb (by omega)]; exact h8 hb hq⟩
    · have e : prtsL l (f + 1) p ns ps = .ok p ns ps := by rw [prtsL, if_neg h38]
      rw [e]
      exact ⟨Nat.le_refl _, hp, fun hb hq => by obtain ⟨g', rfl⟩ := hg1 hb (by omega); rw [prtsL, hb.ag p (by omega), if_neg h38]⟩
/-- Where a text of at most 200 bytes goes wrong, and that those which begin so do. -/
theorem cons_x {l m : List Nat} (hl : ∀ x ∈ l, x < 256) (h200 : l.length ≤ 200) (hm : m.length ≤ 200) {lg : Bool} {r : Nat} (h : cons l = .bad lg r) : r ≤ l.length ∧ (Bg l m r → cons m = .bad lg r) := by
  unfold cons at h ⊢
  rw [if_neg (by omega)] at h ⊢
  have h1 := prt_x (m := m) hl r 0 [] [] (Nat.zero_le _)
  cases e1 : prt l 0 [] [] with
  | bad lg1 q =>
    rw [e1] at h h1
    obtain ⟨h2, h3, h4⟩ := h1
    simp only at h
    injection h with h5 h6
    subst h5 h6
    exact ⟨h3, fun hb => by rw [h4 hb rfl]⟩
  | ok q ns ps =>
    rw [e1] at h h1
    obtain ⟨h2, h3, h4⟩ := h1
    simp only at h
    have h5 := prtsL_x (m := m) hl r (l.length + 1) (m.length + 1) q ns ps h3 (by omega) (fun _ _ => by omega)
    cases e2 : prtsL l (l.length + 1) q ns ps with
    | bad lg1 q' =>
      rw [e2] at h h5
      obtain ⟨h6, h7, h8⟩ := h5
      simp only at h
      injection h with h9 h10
      subst h9 h10
      exact ⟨h7, fun hb => by rw [h4 hb (by omega)]; simp only; rw [h8 hb rfl]⟩
    | ok q' ns' ps' =>
      rw [e2] at h h5
      obtain ⟨h6, h7, h8⟩ := h5
      simp only at h
      by_cases hq : q' < l.length
      · rw [if_pos hq] at h
        injection h with h9 h10
        subst h9 h10
        exact ⟨h7, fun hb => by rw [h4 hb (by omega)]; simp only; rw [h8 hb (Nat.le_refl _)]; simp only; rw [if_pos hb.lm]⟩
      · rw [if_neg hq] at h
        split at h
        · injection h with h9 h10
          subst h10
          exact ⟨h7, fun hb => absurd hb.lt hq⟩
        · cases h
theorem prt_parts {l : List Nat} {p q : Nat} {ns ns' : List Nd} {ps ps' : List (Int × Bool)} (h : prt l p ns ps = .ok q ns' ps') : ps.length < ps'.length := by
  unfold prt prtE at h
  split at h
  · injection h with _ _ h
    subst h
    simp
  · cases h
theorem prtsL_parts {l : List Nat} : ∀ (f p : Nat) {q : Nat} {ns ns' : List Nd} {ps ps' : List (Int × Bool)}, prtsL l f p ns ps = .ok q ns' ps' → ps.length ≤ ps'.length
  | 0, _, _, _, _, _, _, h => by unfold prtsL at h; cases h
  | f + 1, p, q, ns, ns', ps, ps', h => by
    unfold prtsL at h
    split at h
    · split at h
      · cases h
      · split at h
        · rename_i h1
          have := prt_parts h1
          have := prtsL_parts f _ h
          omega
        · cases h
    · injection h with _ _ h
      subst h
      exact Nat.le_refl _
theorem cons_parts {l : List Nat} {q : Nat} {ns : List Nd} {ps : List (Int × Bool)} (h : cons l = .ok q ns ps) : 0 < ps.length := by
  unfold cons at h
  split at h
  · cases h
  · split at h
    · cases h
    · rename_i h1
      split at h
      · cases h
      · rename_i h2
        have h3 := prt_parts h1
        have h4 := prtsL_parts _ _ h2
        split at h
        · cases h
        · split at h
          · cases h
          · injection h with _ _ h
            subst h
            simp at h3
            omega
/-- A text that is read: its nodes are few. -/
theorem cons_good {l : List Nat} (hl : ∀ x ∈ l, x < 256) {q : Nat} {ns : List Nd} {ps : List (Int × Bool)} (h : cons l = .ok q ns ps) :
    l.length ≤ 200 ∧ ns.length ≤ 401 ∧ (∀ x ∈ ns, NK x) ∧ ps.length ≤ 20 ∧ (∀ x ∈ ps, 0 ≤ x.1 ∧ x.1 ≤ 1000) ∧ plOf ns ps ≤ 63 := by
  unfold cons at h
  split at h
  · cases h
  · rename_i h200
    have hin : In2 l 0 [] [] (3 + 297) := ⟨⟨Nat.zero_le _, by rw [List.length_nil]; omega, by simp⟩, by simp, by simp⟩
    have hg := prt_good hl hin (by simp)
    split at h
    · cases h
    · rename_i p1 ns1 ps1 h1
      rw [h1] at hg
      obtain ⟨-, h3, h4⟩ := hg
      have hg2 := prtsL_good hl (l.length + 1) (p := p1) (c := 297) (ns := ns1) (ps := ps1) h3
      split at h
      · cases h
      · rename_i p2 ns2 ps2 h2
        rw [h2] at hg2
        obtain ⟨-, h5⟩ := hg2
        split at h
        · cases h
        · split at h
          · cases h
          · injection h with e1 e2 e3
            subst e2 e3
            exact ⟨by omega, by have := h5.inn.fit; omega, h5.inn.ok, h5.few, h5.ok, by omega⟩
end Rx
end Go.Proofs.YtbmoanhdpnaocaaDoor
namespace Go.Proofs.YtbmoanhdpnaocaaDoor
namespace Rx
open Sets Tr
def toI (n : Nat) : List Int := (List.range n).map fun i : Nat => (i : Int)
theorem toI_succ (n : Nat) : toI (n + 1) = toI n ++ [(n : Int)] := by unfold toI; rw [List.range_succ, List.map_append]; rfl
theorem mem_toI {n : Nat} {c : Int} : c ∈ toI n ↔ 0 ≤ c ∧ c < n := by
  unfold toI
  rw [List.mem_map]
  constructor
  · rintro ⟨i, hi, rfl⟩
    have := List.mem_range.1 hi
    omega
  · intro h
    exact ⟨c.toNat, List.mem_range.2 (by omega), by omega⟩
theorem toI_nodup (n : Nat) : (toI n).Nodup := by
  unfold toI
  refine List.pairwise_map.2 (List.Pairwise.imp (fun {a b} h e => h (by omega)) (List.nodup_range (n := n)))
/-- Each node is sound, leads down, and each is named once: by a node, or by what is held yet. -/
structure Ri (N : List Nd) (K : List Int) : Prop where
  snd : ∀ i, i < N.length → sound (N.getD i default) = true
  low : ∀ i, i < N.length → ∀ c ∈ kids (N.getD i default), 0 ≤ c ∧ c < i
  per : (edges N ++ K).Perm (toI N.length)
theorem Ri.nil : Ri [] [] := ⟨fun i h => by simp at h, fun i h => by simp at h, List.Perm.refl _⟩
theorem edges_snoc (N : List Nd) (x : Nd) : edges (N ++ [x]) = edges N ++ kids x := by unfold edges; simp
theorem Ri.add {N : List Nd} {K : List Int} (x : Nd) (h : Ri N (K ++ kids x)) (hs : sound x = true) : Ri (N ++ [x]) (K ++ [(N.length : Int)]) := by
  have hg : ∀ i, i < N.length → (N ++ [x]).getD i default = N.getD i default := fun i hi => by
    rw [List.getD_eq_getElem?_getD, List.getElem?_append_left hi, ← List.getD_eq_getElem?_getD]
  have hg2 : (N ++ [x]).getD N.length default = x := by simp [List.getD_eq_getElem?_getD]
  refine ⟨fun i hi => ?_, fun i hi c hc => ?_, ?_⟩
  · rw [List.length_append, List.length_singleton] at hi
    rcases Nat.lt_or_ge i N.length with h1 | h1
    · rw [hg i h1]; exact h.snd i h1
    · rw [show i = N.length from by omega, hg2]; exact hs
  · rw [List.length_append, List.length_singleton] at hi
    rcases Nat.lt_or_ge i N.length with h1 | h1
    · rw [hg i h1] at hc; exact h.low i h1 c hc
    · have e : i = N.length := by omega
      subst e
      rw [hg2] at hc
      exact mem_toI.1 (h.per.mem_iff.1 (List.mem_append_right _ (List.mem_append_right _ hc)))
  · rw [edges_snoc, List.length_append, List.length_singleton, toI_succ]
    have h1 : (edges N ++ kids x ++ (K ++ [(N.length : Int)])).Perm (edges N ++ (K ++ kids x) ++ [(N.length : Int)]) := by
      rw [← List.append_assoc, List.append_assoc (edges N), ]
      exact ((List.perm_append_comm).append_left _).append_right _
    exact h1.trans (h.per.append_right _)
def Md.held : Md → List Int
  | .patL n => [(n : Int)]
  | .braL n => [(n : Int)]
  | _ => []
def GR (K : List Int) : G → Prop
  | .ok n _ ns => Ri ns (K ++ [(n : Int)])
  | .bad _ _ => True
theorem GR.bind {K K' : List Int} {g : G} {k : Nat → Nat → List Nd → G} (h : GR K g) (hk : ∀ n p ns, g = .ok n p ns → Ri ns (K ++ [(n : Int)]) → GR K' (k n p ns)) : GR K' (g.bind k) := by
  cases g with
  | ok n p ns => exact hk n p ns rfl h
  | bad _ _ => trivial
theorem times_count {l : List Nat} {p q : Nat} {a b : Int} (h : times l p = .ok (some (a, b)) q) : countable a b = true := by
  rcases Nat.lt_or_ge l.length p with h1 | h1
  · have : pk l p = 256 := pk_end (by omega)
    unfold times at h
    rw [this] at h
    simp at h
  · exact ((times_ok h h1).2.2.2 a b rfl).1
theorem ri_set {N : List Nd} {K : List Int} (S p : Nat) (h : Ri N K) : GR K (addS S p N) := by
  have : Ri N (K ++ kids ⟨2, S, 0, 0, 0, 0⟩) := by rw [show kids ⟨2, S, 0, 0, 0, 0⟩ = [] from rfl, List.append_nil]; exact h
  exact this.add _ (by simp [sound])
theorem go_ri {l : List Nat} : ∀ (f : Nat) (md : Md) (o p : Nat) (ns : List Nd) (K : List Int), Ri ns (K ++ md.held) → GR K (go l f md o p ns) := by
  intro f
  induction f with
  | zero => intro md o p ns K _; unfold go; trivial
  | succ f ih =>
    intro md o p ns K h
    cases md with
    | pat =>
      unfold go
      exact (ih .bra o p ns K h).bind fun n p ns _ h1 => ih (.patL n) o p ns K h1
    | patL n =>
      unfold go
      split
      · refine (ih .bra o (p + 1) ns (K ++ [(n : Int)]) (by simpa [Md.held] using h)).bind fun m p ns _ h1 => ih (.patL ns.length) o p _ K ?_
        refine Ri.add ⟨4, 0, n, m, 0, 0⟩ ?_ (by simp [sound])
        simpa [kids] using h1
      · exact h
    | bra =>
      unfold go
      split
      · have : Ri ns (K ++ kids ⟨1, 0, 0, 0, 0, 0⟩) := h
        exact this.add _ (by simp [sound])
      · exact (ih .pie o p ns K h).bind fun n p ns _ h1 => ih (.braL n) o p ns K h1
    | braL n =>
      unfold go
      split
      · exact h
      · refine (ih .pie o p ns (K ++ [(n : Int)]) (by simpa [Md.held] using h)).bind fun m p ns _ h1 => ih (.braL ns.length) o p _ K ?_
        refine Ri.add ⟨3, 0, n, m, 0, 0⟩ ?_ (by simp [sound])
        simpa [kids] using h1
    | pie =>
      unfold go
      refine (ih .ato o p ns K h).bind fun n p ns _ h1 => ?_
      cases ht : times l p with
      | bad _ => trivial
      | ok x q =>
        cases x with
        | none => exact h1
        | some ab =>
          obtain ⟨a, b⟩ := ab
          have := times_count ht
          exact Ri.add ⟨5, 0, n, 0, a, b⟩ (by simpa [kids] using h1) (by simp [sound, this])
    | ato =>
      have h' : Ri ns K := by simpa [Md.held] using h
      unfold go
      split
      · split
        · trivial
        · refine (ih .pat (o + 1) (p + 1) ns K h).bind fun n p ns _ h1 => ?_
          split
          · exact h1
          · trivial
      · split
        · cases hc : cls l (p + 1) with
          | bad _ => trivial
          | ok S q => exact ri_set S q h'
        · split
          · exact ri_set _ _ h'
          · cases hc : single l marks p with
            | bad _ => trivial
            | ok S q => exact ri_set _ q h'
theorem prt_ri {l : List Nat} {p q : Nat} {ns ns' : List Nd} {ps ps' : List (Int × Bool)} (h : Ri ns (roots ps)) (e : prt l p ns ps = .ok q ns' ps') : Ri ns' (roots ps') := by
  unfold prt prtE at e
  generalize nots l (l.length + 1) false p = x at e
  have h1 := go_ri (l := l) (fl l) .pat 0 x.2 ns (roots ps) (by simpa [Md.held] using h)
  split at e
  · rename_i n p1 ns1 e1
    rw [e1] at h1
    injection e with _ e2 e3
    subst e2 e3
    simpa [roots, GR] using h1
  · cases e
theorem prtsL_ri {l : List Nat} : ∀ (f p : Nat) {q : Nat} {ns ns' : List Nd} {ps ps' : List (Int × Bool)}, Ri ns (roots ps) → prtsL l f p ns ps = .ok q ns' ps' → Ri ns' (roots ps')
  | 0, _, _, _, _, _, _, _, h => by unfold prtsL at h; cases h
  | f + 1, p, q, ns, ns', ps, ps', hr, h => by
    unfold prtsL at h
    split at h
    · split at h
      · cases h
      · split at h
        · rename_i h1
          exact prtsL_ri f _ (prt_ri hr h1) h
        · cases h
    · injection h with _ h1 h2
      subst h1 h2
      exact hr
theorem Ri.right {N : List Nd} {R : List (Int × Bool)} (h : Ri N (roots R)) (h1 : 1 ≤ R.length) (h20 : R.length ≤ 20) (h600 : N.length ≤ 600) : Right N R :=
  ⟨⟨h1, h20, h600⟩, h.snd, h.low, fun c hc => mem_toI.1 (h.per.mem_iff.1 (List.mem_append_right _ hc)), h.per.nodup_iff.2 (toI_nodup _), fun j hj => h.per.mem_iff.2 (mem_toI.2 ⟨by omega, by omega⟩)⟩
/-- What is told is right. -/
theorem cons_right {l : List Nat} (hl : ∀ x ∈ l, x < 256) {q : Nat} {ns : List Nd} {ps : List (Int × Bool)} (h : cons l = .ok q ns ps) : Right ns ps := by
  have hg := cons_good hl h
  have hp := cons_parts h
  refine Ri.right ?_ hp hg.2.2.2.1 (by omega)
  unfold cons at h
  split at h
  · cases h
  · split at h
    · cases h
    · rename_i h1
      split at h
      · cases h
      · rename_i h2
        have h3 := prt_ri Ri.nil h1
        have h4 := prtsL_ri _ _ h3 h2
        split at h
        · cases h
        · split at h
          · cases h
          · injection h with _ e1 e2
            subst e1 e2
            exact h4
/-- places by number, with fuel -/
def plF (N : List Nd) : Nat → Nat → Nat
  | 0, _ => 0
  | f + 1, i =>
    if (N.getD i default).k = 2 then 1
    else if (N.getD i default).k = 3 ∨ (N.getD i default).k = 4 then min (plF N f (N.getD i default).a.toNat + plF N f (N.getD i default).b.toNat) cap
    else if (N.getD i default).k = 5 then min (plF N f (N.getD i default).a.toNat * (if (N.getD i default).mx = -1 then 1 else (N.getD i default).mx.toNat)) cap
    else 0
theorem plF_two {N : List Nd} {f i : Nat} (h : (N.getD i default).k = 2) : plF N (f + 1) i = 1 := by rw [plF, if_pos h]
theorem plF_one {N : List Nd} {f i : Nat} (h : (N.getD i default).k = 5) : plF N (f + 1) i = min (plF N f (N.getD i default).a.toNat * (if (N.getD i default).mx = -1 then 1 else (N.getD i default).mx.toNat)) cap := by
  rw [plF, if_neg (by omega), if_neg (by omega), if_pos h]
theorem plF_kid {N : List Nd} {f i : Nat} (h : (N.getD i default).k = 3 ∨ (N.getD i default).k = 4) : plF N (f + 1) i = min (plF N f (N.getD i default).a.toNat + plF N f (N.getD i default).b.toNat) cap := by
  rw [plF, if_neg (by omega), if_pos h]
theorem plF_no {N : List Nd} {f i : Nat} (h2 : (N.getD i default).k ≠ 2) (h3 : ¬ ((N.getD i default).k = 3 ∨ (N.getD i default).k = 4)) (h5 : (N.getD i default).k ≠ 5) : plF N (f + 1) i = 0 := by
  rw [plF, if_neg h2, if_neg h3, if_neg h5]
theorem pl_plF (N : List Nd) : ∀ (t : T) (f : Nat), Is N t → t.root ≤ f → pl N t = plF N (f + 1) t.root := by
  intro t
  induction t with
  | leaf i =>
    intro f h hf
    obtain ⟨-, h2⟩ := h
    show (if (N.getD i default).k = 2 then 1 else 0) = plF N (f + 1) i
    unfold kids at h2
    by_cases h3 : (N.getD i default).k = 2
    · rw [if_pos h3, plF_two h3]
    · rw [if_neg h3]
      split at h2
      · cases h2
      · rename_i h4
        split at h2
        · cases h2
        · rename_i h5
          rw [plF_no h3 h4 h5]
  | one i a ih =>
    intro f h hf
    obtain ⟨-, h2, h3, h4⟩ := h
    simp only [T.root] at hf
    obtain ⟨f, rfl⟩ : ∃ g, f = g + 1 := ⟨f - 1, by omega⟩
    show min (pl N a * (if (N.getD i default).mx = -1 then 1 else (N.getD i default).mx.toNat)) cap = plF N (f + 1 + 1) i
    unfold kids at h2
    split at h2
    · simp at h2
    · split at h2
      · rename_i h6
        simp only [List.cons.injEq, and_true] at h2
        rw [plF_one h6, h2, Int.toNat_natCast, ← ih f h4 (by omega)]
      · cases h2
  | two i a b ih1 ih2 =>
    intro f h hf
    obtain ⟨-, h2, h3, h4, h5, h6⟩ := h
    simp only [T.root] at hf
    obtain ⟨f, rfl⟩ : ∃ g, f = g + 1 := ⟨f - 1, by omega⟩
    show min (pl N a + pl N b) cap = plF N (f + 1 + 1) i
    unfold kids at h2
    split at h2
    · rename_i h7
      simp only [List.cons.injEq, and_true] at h2
      rw [plF_kid h7, h2.1, h2.2, Int.toNat_natCast, Int.toNat_natCast, ← ih1 f h5 (by omega), ← ih2 f h6 (by omega)]
    · split at h2
      · simp at h2
      · cases h2
/-- places, so that they can be computed -/
def plC (N : List Nd) (R : List (Int × Bool)) : Nat := min (R.map fun p => plF N (p.1.toNat + 1) p.1.toNat).sum cap
theorem plOf_eq {N : List Nd} {R : List (Int × Bool)} (h : Right N R) : plOf N R = plC N R := by
  unfold plOf places plC
  rw [rightB_true h, if_pos rfl]
  congr 2
  refine List.map_congr_left (fun p hp => ?_)
  have h1 := h.rts p.1 (List.mem_map.2 ⟨p, hp, rfl⟩)
  obtain ⟨t, ht, hr⟩ := is_of_low h.low p.1.toNat (by omega)
  rw [← hr, tr_of ht, pl_plF N t t.root ht (Nat.le_refl _)]
/-- a constraint, so that it can be computed -/
def consC (l : List Nat) : P :=
  if 200 < l.length then .bad true 200 else match prt l 0 [] [] with
    | .bad lg p => .bad lg p
    | .ok p ns ps => match prtsL l (l.length + 1) p ns ps with
      | .bad lg p => .bad lg p
      | .ok p ns ps => if p < l.length then .bad false p else if 63 < plC ns ps then .bad true p else .ok p ns ps
theorem cons_eq {l : List Nat} (hl : ∀ x ∈ l, x < 256) : cons l = consC l := by
  unfold cons consC
  split
  · rfl
  · rename_i h200
    have hin : In2 l 0 [] [] (3 + 297) := ⟨⟨Nat.zero_le _, by rw [List.length_nil]; omega, by simp⟩, by simp, by simp⟩
    have hg := prt_good hl hin (by simp)
    cases h1 : prt l 0 [] [] with
    | bad _ _ => rfl
    | ok p1 ns1 ps1 =>
      rw [h1] at hg
      obtain ⟨-, h3, h4⟩ := hg
      have hg2 := prtsL_good hl (l.length + 1) (p := p1) (c := 297) (ns := ns1) (ps := ps1) h3
      simp only
      cases h2 : prtsL l (l.length + 1) p1 ns1 ps1 with
      | bad _ _ => rfl
      | ok p2 ns2 ps2 =>
        rw [h2] at hg2
        obtain ⟨-, h5⟩ := hg2
        have h6 := prt_parts h1
        have h7 := prtsL_parts _ _ h2
        have hr : Right ns2 ps2 := (prtsL_ri _ _ (prt_ri Ri.nil h1) h2).right (by omega) h5.few (by have := h5.inn.fit; omega)
        simp only
        rw [plOf_eq hr]
end Rx
end Go.Proofs.YtbmoanhdpnaocaaDoor
namespace Go.Proofs.YtbmoanhdpnaocaaDoor
namespace Rx
open Sets Tr
/-- the text from p on is u -/
def Tx (l : List Nat) (p : Nat) (u : List Nat) : Prop := l.drop p = u
theorem Tx.at0 {l : List Nat} {p a : Nat} {u : List Nat} (h : Tx l p (a :: u)) : pk l p = a := by
  unfold Rx.pk
  rw [List.getD_eq_getElem?_getD]
  have : (l.drop p)[0]? = some a := by rw [h]; rfl
  rw [List.getElem?_drop] at this
  rw [show p = p + 0 from rfl, this]
  rfl
theorem Tx.next {l : List Nat} {p a : Nat} {u : List Nat} (h : Tx l p (a :: u)) : Tx l (p + 1) u := by
  unfold Tx at *
  rw [← List.drop_drop, h]
  rfl
theorem Tx.fin {l : List Nat} {p : Nat} (h : Tx l p []) : pk l p = 256 := pk_end (by have := congrArg List.length h; simp at this; omega)
theorem Tx.app {l : List Nat} {p : Nat} {u v : List Nat} (h : Tx l p (u ++ v)) : Tx l (p + u.length) v := by
  unfold Tx at *
  rw [← List.drop_drop, h, List.drop_left]
theorem Tx.len {l : List Nat} {p : Nat} {u : List Nat} (h : Tx l p u) (hp : p ≤ l.length) : p + u.length = l.length := by
  have := congrArg List.length h
  rw [List.length_drop] at this
  omega
theorem Tx.lt {l : List Nat} {p a : Nat} {u : List Nat} (h : Tx l p (a :: u)) : p < l.length := by
  have := congrArg List.length h
  rw [List.length_drop, List.length_cons] at this
  omega
/-- the head is in L, or it is the end -/
theorem Tx.hd {l : List Nat} {p : Nat} {u L : List Nat} (h : Tx l p u) (hu : Hd L u) : pk l p = 256 ∨ pk l p ∈ L := by
  rcases hu with rfl | ⟨a, t, rfl, ha⟩
  · exact .inl h.fin
  · exact .inr (h.at0 ▸ ha)
theorem val_hex {d : Nat} (h : d < 16) : Pct.val (hex d) = some d := by
  have : d = 0 ∨ d = 1 ∨ d = 2 ∨ d = 3 ∨ d = 4 ∨ d = 5 ∨ d = 6 ∨ d = 7 ∨ d = 8 ∨ d = 9 ∨ d = 10 ∨ d = 11 ∨ d = 12 ∨ d = 13 ∨ d = 14 ∨ d = 15 := by omega
  rcases this with rfl | rfl | rfl | rfl | rfl | rfl | rfl | rfl | rfl | rfl | rfl | rfl | rfl | rfl | rfl | rfl <;> decide
/-- a byte that is printed is read as it -/
theorem single_esc {l m : List Nat} {p c : Nat} {r : List Nat} (hm : 92 ∈ m) (hm2 : 120 ∉ m) (hc : c < 256) (h : Tx l p (esc m c ++ r)) : single l m p = .ok c (p + (esc m c).length) := by
  unfold esc at h ⊢
  by_cases h1 : m.contains c = true
  · rw [if_pos h1] at h ⊢
    have e0 := h.at0
    have e1 := h.next.at0
    unfold single escape
    rw [e0, if_neg (by decide), if_pos rfl, e1, if_pos h1]
    rfl
  · rw [if_neg h1] at h ⊢
    by_cases h2 : c < 33 ∨ 126 < c
    · rw [if_pos h2] at h ⊢
      have e0 := h.at0
      have e1 := h.next.at0
      have e2 := h.next.next.at0
      have e3 := h.next.next.next.at0
      have e4 : hx l p = some c := by
        unfold hx
        rw [e2, e3, val_hex (by omega), val_hex (by omega)]
        simp only
        congr 1
        omega
      unfold single escape
      rw [e0, if_neg (by decide), if_pos rfl, e1, if_neg (by rw [mem_contains]; exact hm2), if_pos rfl, e4]
      rfl
    · rw [if_neg h2] at h ⊢
      have e0 := h.at0
      unfold single
      rw [e0, if_neg (by omega), if_neg (fun e : c = 92 => h1 (mem_contains.2 (e.symm ▸ hm))), if_neg h1]
      rfl
theorem esc_pos (m : List Nat) (c : Nat) : 1 ≤ (esc m c).length := by
  obtain ⟨t, a, e, -⟩ := esc_head (m := m) c
  rw [e]; simp
theorem item_one {l : List Nat} {p c : Nat} {r : List Nat} (hc : c < 256) (h : Tx l p (esc inner c ++ r)) (hr : ∃ a t, r = a :: t ∧ a ≠ 45) : item l p = .ok (2 ^ c) (p + (esc inner c).length) := by
  obtain ⟨a, t, rfl, ha⟩ := hr
  have h1 := single_esc mem92 nom120 hc h
  have h2 := h.app.at0
  unfold item
  rw [h1]
  simp only
  rw [h2, if_neg ha]
theorem item_two {l : List Nat} {p c d : Nat} {r : List Nat} (hc : c < 256) (hd : d < 256) (hcd : c ≤ d) (h : Tx l p (esc inner c ++ (45 :: (esc inner d ++ r)))) : item l p = .ok (rangeN c d) (p + ((esc inner c).length + 1 + (esc inner d).length)) := by
  have h1 := single_esc mem92 nom120 hc h
  have h2 := h.app.at0
  have h3 := single_esc mem92 nom120 hd h.app.next
  unfold item
  rw [h1]
  simp only
  rw [h2, if_pos rfl, h3]
  simp only
  rw [if_neg (by omega)]
  congr 1
  omega
theorem clsL_item {l : List Nat} {f S T p q : Nat} (h93 : pk l p ≠ 93) (hi : item l p = .ok T q) : clsL l (f + 1) S p = clsL l f (S ||| T) q := by
  rw [clsL, if_neg h93, hi]
theorem ofN_cons_aux (l : List Nat) : ∀ (A : Nat), l.foldl (fun S c => S ||| 2 ^ c) A = A ||| ofN l := by
  intro A
  apply Nat.eq_of_testBit_eq
  intro i
  rw [ofN_testBit_aux, Nat.testBit_or, ofN_testBit]
theorem ofN_append (l m : List Nat) : ofN (l ++ m) = ofN l ||| ofN m := by
  unfold ofN
  rw [List.foldl_append, ofN_cons_aux]
  rfl
theorem ofN_run (a n : Nat) (hn : 1 ≤ n) : ofN ((List.range n).map (a + ·)) = rangeN a (a + (n - 1)) := by
  apply Nat.eq_of_testBit_eq
  intro i
  rw [ofN_testBit, testBit_rangeN, Bool.eq_iff_iff, mem_contains, Bool.and_eq_true, decide_eq_true_eq, decide_eq_true_eq, List.mem_map]
  constructor
  · rintro ⟨j, hj, rfl⟩
    have := List.mem_range.1 hj
    omega
  · intro h
    exact ⟨i - a, List.mem_range.2 (by omega), by omega⟩
/-- one run of bytes, read -/
theorem run_read {l : List Nat} {f S p a n : Nat} {r : List Nat} (hn : 1 ≤ n) (ha : a + (n - 1) < 256) (hr : ∃ b t, r = b :: t ∧ b ≠ 45)
    (h : Tx l p (oneRun ((List.range n).map (a + ·)) ++ r)) (hf : (oneRun ((List.range n).map (a + ·))).length ≤ f) : ∃ g, f ≤ g + (oneRun ((List.range n).map (a + ·))).length ∧ clsL l f S p = clsL l g (S ||| ofN ((List.range n).map (a + ·))) (p + (oneRun ((List.range n).map (a + ·))).length) := by
  rw [oneRun_eq a n hn] at h hf ⊢
  rw [ofN_run a n hn]
  have l1 := esc_pos inner a
  have l2 := esc_pos inner (a + (n - 1))
  obtain ⟨b0, t0, e0, hb0, -⟩ := esc_inner_head a []
  rw [List.append_nil] at e0
  have h93 : pk l p ≠ 93 := by
    have : Tx l p (b0 :: (t0 ++ (((if 2 < n then [45] else []) ++ (if 1 < n then esc inner (a + (n - 1)) else [])) ++ r))) := by
      rw [List.append_assoc, e0] at h
      exact h
    rw [this.at0]; exact hb0
  by_cases h1 : n = 1
  · subst h1
    simp only [Nat.lt_irrefl, if_false, List.append_nil, Nat.reduceLT] at h hf ⊢
    refine ⟨f - 1, by omega, ?_⟩
    obtain ⟨f, rfl⟩ : ∃ k, f = k + 1 := ⟨f - 1, by omega⟩
    rw [clsL_item h93 (item_one (by omega) h hr)]
    have e : rangeN a (a + (1 - 1)) = 2 ^ a := by
      unfold rangeN
      rw [if_pos (by omega), Nat.sub_self, Nat.add_zero, Nat.pow_succ]
      omega
    rw [e]
    rfl
  · by_cases h2 : n = 2
    · subst h2
      simp only [Nat.lt_irrefl, if_false, List.nil_append, Nat.reduceLT, if_true, List.append_assoc, Nat.reduceSub] at h hf ⊢
      rw [List.length_append] at hf ⊢
      rw [show 2 - 1 = 1 from rfl] at l2
      refine ⟨f - 2, by omega, ?_⟩
      obtain ⟨f, rfl⟩ : ∃ k, f = k + 2 := ⟨f - 2, by omega⟩
      obtain ⟨b1, t1, e1, hb1, hb2⟩ := esc_inner_head (a + 1) r
      have i1 := item_one (by omega) h ⟨b1, t1, e1, hb2⟩
      have hx := h.app
      have h93' : pk l (p + (esc inner a).length) ≠ 93 := by
        have : Tx l (p + (esc inner a).length) (b1 :: t1) := by rw [← e1]; exact hx
        rw [this.at0]; exact hb1
      have i2 := item_one (by omega) hx hr
      rw [show f + 2 = f + 1 + 1 from rfl, clsL_item h93 i1, clsL_item h93' i2]
      have e : S ||| 2 ^ a ||| 2 ^ (a + 1) = S ||| rangeN a (a + 1) := by
        rw [Nat.or_assoc]
        congr 1
        have h3 := ofN_run a 2 (by omega)
        rw [show 2 - 1 = 1 from rfl] at h3
        rw [← h3]
        simp [ofN, List.range_succ]
      rw [e, Nat.add_assoc]
      rfl
    · have h3 : 2 < n := by omega
      have h4 : 1 < n := by omega
      simp only [h3, h4, if_true, List.append_assoc, List.cons_append, List.nil_append] at h hf ⊢
      rw [List.length_append, List.length_cons] at hf ⊢
      refine ⟨f - 1, by omega, ?_⟩
      obtain ⟨f, rfl⟩ : ∃ k, f = k + 1 := ⟨f - 1, by omega⟩
      rw [clsL_item h93 (item_two (by omega) ha (by omega) h)]
      congr 1
      omega
theorem runs_head94 (f : Nat) (L r : List Nat) : ∃ a t, runs f L ++ 93 :: r = a :: t ∧ a ≠ 94 ∧ a ≠ 45 := by
  cases f with
  | zero => exact ⟨93, r, rfl, by decide, by decide⟩
  | succ f =>
    cases L with
    | nil => exact ⟨93, r, rfl, by decide, by decide⟩
    | cons x L =>
      simp only [runs]
      rw [take_run, oneRun_eq _ _ (runLen_pos x L)]
      obtain ⟨t, a, e, h⟩ := esc_head (m := inner) ((x :: L).getD 0 0)
      rw [e]
      refine ⟨a, _, rfl, ?_, ?_⟩
      · rcases h with rfl | ⟨rfl, h2, -⟩
        · decide
        · intro e; rw [e] at h2; simp [inner] at h2
      · rcases h with rfl | ⟨rfl, h2, -⟩
        · decide
        · intro e; rw [e] at h2; simp [inner] at h2
/-- all runs, read -/
theorem runs_rd {l : List Nat} : ∀ (k : Nat) (L : List Nat) (f S p : Nat) (r : List Nat), L.length ≤ k → (∀ c ∈ L, c < 256) → Tx l p (runs k L ++ 93 :: r) → (runs k L).length < f → clsL l f S p = .ok (S ||| ofN L) (p + (runs k L).length + 1) := by
  have nil : ∀ (k f S p : Nat) (r : List Nat), runs k [] = [] → Tx l p (runs k [] ++ 93 :: r) → (runs k []).length < f → clsL l f S p = .ok (S ||| ofN []) (p + (runs k []).length + 1) := by
    intro k f S p r e h hf
    rw [e] at h hf ⊢
    obtain ⟨f, rfl⟩ : ∃ g, f = g + 1 := ⟨f - 1, by omega⟩
    have h0 : Tx l p (93 :: r) := h
    rw [clsL, if_pos h0.at0]
    simp [ofN]
  intro k
  induction k with
  | zero =>
    intro L f S p r hk _ h hf
    have : L = [] := List.length_eq_zero_iff.1 (by omega)
    subst this
    exact nil 0 f S p r rfl h hf
  | succ k ih =>
    intro L f S p r hk hb h hf
    cases L with
    | nil => exact nil (k + 1) f S p r rfl h hf
    | cons x L =>
      have hpos := runLen_pos x L
      have hle := runLen_le (x :: L)
      have htk := take_run (x :: L)
      have hA : (x :: L).getD 0 0 + (runLen (x :: L) - 1) < 256 := by
        have hm : (x :: L).getD 0 0 + (runLen (x :: L) - 1) ∈ (x :: L).take (runLen (x :: L)) := by
          rw [htk]
          exact List.mem_map.2 ⟨runLen (x :: L) - 1, List.mem_range.2 (by omega), rfl⟩
        exact hb _ (List.mem_of_mem_take hm)
      have e : runs (k + 1) (x :: L) = oneRun ((List.range (runLen (x :: L))).map ((x :: L).getD 0 0 + ·)) ++ runs k ((x :: L).drop (runLen (x :: L))) := by
        rw [runs, htk]
      have eo : ofN (x :: L) = ofN ((List.range (runLen (x :: L))).map ((x :: L).getD 0 0 + ·)) ||| ofN ((x :: L).drop (runLen (x :: L))) := by
        rw [← htk, ← ofN_append, List.take_append_drop]
      rw [e, List.append_assoc] at h
      rw [e, List.length_append] at hf ⊢
      obtain ⟨b, t, eb, -, hb45⟩ := runs_head94 k ((x :: L).drop (runLen (x :: L))) r
      obtain ⟨g, hg, h1⟩ := run_read (S := S) (f := f) hpos hA ⟨b, t, eb, hb45⟩ h (by omega)
      rw [h1, ih _ g _ _ r (by rw [List.length_drop]; simp only [List.length_cons] at hk ⊢; omega) (fun c hc => hb c (List.mem_of_mem_drop hc)) h.app (by omega), eo, Nat.or_assoc]
      congr 1
      omega
/-- a class, read -/
theorem cls_rd {l : List Nat} {S p : Nat} {r : List Nat} (hS : S < 2 ^ 256) (h : Tx l p (runs 256 (listN S) ++ 93 :: r)) (hp : p ≤ l.length) : cls l p = .ok S (p + (runs 256 (listN S)).length + 1) := by
  obtain ⟨a, t, e, ha, -⟩ := runs_head94 256 (listN S) r
  have h0 : pk l p = a := by
    have : Tx l p (a :: t) := by rw [← e]; exact h
    exact this.at0
  have hlen := h.len hp
  rw [List.length_append, List.length_cons] at hlen
  unfold cls
  rw [if_neg (by omega), runs_rd 256 (listN S) (l.length + 1) 0 p r (by rw [listN_length]; exact cnt_le S) (fun c hc => ((mem_listN S c).1 hc).1) h (by omega), ofN_listN S hS, Nat.zero_or]
/-- an atom that is a set, read -/
theorem ato_set {l : List Nat} {f o S p : Nat} {ns : List Nd} {r : List Nat} (hS : S < 2 ^ 256) (h : Tx l p (setPr S ++ r)) : go l (f + 1) .ato o p ns = addS S (p + (setPr S).length) ns := by
  unfold setPr at h ⊢
  by_cases h1 : S = full
  · rw [if_pos h1] at h ⊢
    have h0 : pk l p = 46 := h.at0
    rw [go, h0, if_neg (by decide), if_neg (by decide), if_pos rfl, h1]
    rfl
  · rw [if_neg h1] at h ⊢
    by_cases h2 : (listN S).length = 1
    · rw [if_pos h2] at h ⊢
      have hl := len_one h2
      have hc : (listN S).getD 0 0 < 256 := ((mem_listN S _).1 (by rw [hl]; simp)).1
      have h3 := single_esc m92 m120 hc h
      obtain ⟨t, a, e, ha⟩ := esc_head (m := marks) ((listN S).getD 0 0)
      have h0 : pk l p = a := by
        have : Tx l p (a :: (t ++ r)) := by rw [e] at h; exact h
        exact this.at0
      have hn : a ≠ 40 ∧ a ≠ 91 ∧ a ≠ 46 := by
        rcases ha with rfl | ⟨rfl, ha, -⟩
        · decide
        · refine ⟨fun e => ?_, fun e => ?_, fun e => ?_⟩ <;> (rw [e] at ha; revert ha; decide)
      have hs : 2 ^ ((listN S).getD 0 0) = S := by
        have := ofN_listN S hS
        rw [hl] at this
        have h5 : ∀ x, ofN [x] = 2 ^ x := fun x => by simp [ofN]
        exact (h5 _).symm.trans this
      rw [go, h0, if_neg hn.1, if_neg hn.2.1, if_neg hn.2.2, h3]
      simp only [L.bind]
      rw [hs]
    · rw [if_neg h2] at h ⊢
      have h0 : pk l p = 91 := h.at0
      have h3 : Tx l (p + 1) (runs 256 (listN S) ++ 93 :: r) := by
        have := Tx.next (a := 91) (u := runs 256 (listN S) ++ [93] ++ r) h
        rwa [List.append_assoc] at this
      have hlt := pk_lt (l := l) (p := p) (by omega)
      rw [go, h0, if_neg (by decide), if_pos rfl, cls_rd hS h3 hlt]
      simp only [L.bind, List.length_cons, List.length_append, List.length_nil]
      congr 1
      omega
end Rx
end Go.Proofs.YtbmoanhdpnaocaaDoor
namespace Go.Proofs.YtbmoanhdpnaocaaDoor
namespace Rx
open Sets Tr
theorem G.bind_congr {g : G} {k k' : Nat → Nat → List Nd → G} (h : ∀ n p ns, g = .ok n p ns → k n p ns = k' n p ns) : g.bind k = g.bind k' := by
  cases g with
  | ok n p ns => exact h n p ns rfl
  | bad _ _ => rfl
theorem go_ok {l : List Nat} (hl : ∀ x ∈ l, x < 256) {f : Nat} {md : Md} {o p n q : Nat} {ns ns' : List Nd} (hp : p ≤ l.length) (hf : 5 * (l.length - p) + md.c < f) (h : go l f md o p ns = .ok n q ns') : p + md.t ≤ q ∧ q ≤ l.length := by
  have := go_x (m := l) hl 0 f f md o p ns hp hf (fun _ _ => hf)
  rw [h] at this
  exact ⟨this.1, this.2.1⟩
/-- fuel that is enough is enough -/
theorem go_fuel {l : List Nat} (hl : ∀ x ∈ l, x < 256) : ∀ (f g : Nat) (md : Md) (o p : Nat) (ns : List Nd), p ≤ l.length → 5 * (l.length - p) + md.c < f → 5 * (l.length - p) + md.c < g → go l f md o p ns = go l g md o p ns := by
  intro f
  induction f with
  | zero => intro g md o p ns _ h _; omega
  | succ f ih =>
    intro g md o p ns hp hf hg
    obtain ⟨g, rfl⟩ : ∃ k, g = k + 1 := ⟨g - 1, by omega⟩
    cases md with
    | pat =>
      simp only [Md.c] at hf hg
      rw [go, go, ih g .bra o p ns hp (by simp only [Md.c]; omega) (by simp only [Md.c]; omega)]
      refine G.bind_congr (fun n q ns' e => ?_)
      have := go_ok hl hp (by simp only [Md.c]; omega) e
      simp only [Md.t] at this
      exact ih g _ o q ns' this.2 (by simp only [Md.c]; omega) (by simp only [Md.c]; omega)
    | patL n =>
      simp only [Md.c] at hf hg
      rw [go, go]
      split
      · rename_i h
        have hlt := pk_lt (l := l) (p := p) (by omega)
        rw [ih g .bra o (p + 1) ns hlt (by simp only [Md.c]; omega) (by simp only [Md.c]; omega)]
        refine G.bind_congr (fun n q ns' e => ?_)
        have := go_ok hl hlt (by simp only [Md.c]; omega) e
        simp only [Md.t] at this
        exact ih g _ o q _ this.2 (by simp only [Md.c]; omega) (by simp only [Md.c]; omega)
      · rfl
    | bra =>
      simp only [Md.c] at hf hg
      rw [go, go]
      split
      · rfl
      · rw [ih g .pie o p ns hp (by simp only [Md.c]; omega) (by simp only [Md.c]; omega)]
        refine G.bind_congr (fun n q ns' e => ?_)
        have := go_ok hl hp (by simp only [Md.c]; omega) e
        simp only [Md.t] at this
        exact ih g _ o q ns' this.2 (by simp only [Md.c]; omega) (by simp only [Md.c]; omega)
    | braL n =>
      simp only [Md.c] at hf hg
      rw [go, go]
      split
      · rfl
      · rw [ih g .pie o p ns hp (by simp only [Md.c]; omega) (by simp only [Md.c]; omega)]
        refine G.bind_congr (fun n q ns' e => ?_)
        have := go_ok hl hp (by simp only [Md.c]; omega) e
        simp only [Md.t] at this
        exact ih g _ o q _ this.2 (by simp only [Md.c]; omega) (by simp only [Md.c]; omega)
    | pie =>
      simp only [Md.c] at hf hg
      rw [go, go, ih g .ato o p ns hp (by simp only [Md.c]; omega) (by simp only [Md.c]; omega)]
    | ato =>
      simp only [Md.c] at hf hg
      rw [go, go]
      split
      · rename_i h
        have hlt := pk_lt (l := l) (p := p) (by omega)
        split
        · rfl
        · rw [ih g .pat (o + 1) (p + 1) ns hlt (by simp only [Md.c]; omega) (by simp only [Md.c]; omega)]
      · rfl
/-- the reader, with fuel enough -/
def gp (l : List Nat) (md : Md) (o p : Nat) (ns : List Nd) : G := go l (5 * (l.length - p) + md.c + 1) md o p ns
theorem go_gp {l : List Nat} (hl : ∀ x ∈ l, x < 256) {f : Nat} {md : Md} {o p : Nat} {ns : List Nd} (hp : p ≤ l.length) (hf : 5 * (l.length - p) + md.c < f) : go l f md o p ns = gp l md o p ns := go_fuel hl _ _ md o p ns hp hf (by omega)
theorem gp_ok {l : List Nat} (hl : ∀ x ∈ l, x < 256) {md : Md} {o p n q : Nat} {ns ns' : List Nd} (hp : p ≤ l.length) (h : gp l md o p ns = .ok n q ns') : p + md.t ≤ q ∧ q ≤ l.length := go_ok hl hp (by omega) h
theorem gp_pat {l : List Nat} (hl : ∀ x ∈ l, x < 256) {o p : Nat} {ns : List Nd} (hp : p ≤ l.length) : gp l .pat o p ns = (gp l .bra o p ns).bind fun n p ns => gp l (.patL n) o p ns := by
  rw [gp, go, go_gp hl hp (by simp only [Md.c]; omega)]
  refine G.bind_congr (fun n q ns' e => ?_)
  have := gp_ok hl hp e
  simp only [Md.t] at this
  exact go_gp hl this.2 (by simp only [Md.c]; omega)
theorem gp_patL0 {l : List Nat} {n o p : Nat} {ns : List Nd} (h : pk l p ≠ 124) : gp l (.patL n) o p ns = .ok n p ns := by rw [gp, go, if_neg h]
theorem gp_patL1 {l : List Nat} (hl : ∀ x ∈ l, x < 256) {n o p : Nat} {ns : List Nd} (h : pk l p = 124) : gp l (.patL n) o p ns = (gp l .bra o (p + 1) ns).bind fun m p ns => gp l (.patL ns.length) o p (ns ++ [⟨4, 0, n, m, 0, 0⟩]) := by
  have hlt := pk_lt (l := l) (p := p) (by omega)
  rw [gp, go, if_pos h, go_gp hl hlt (by simp only [Md.c]; omega)]
  refine G.bind_congr (fun m q ns' e => ?_)
  have := gp_ok hl hlt e
  simp only [Md.t] at this
  exact go_gp hl this.2 (by simp only [Md.c]; omega)
theorem gp_bra0 {l : List Nat} {o p : Nat} {ns : List Nd} (h : ends l p = true) : gp l .bra o p ns = add ⟨1, 0, 0, 0, 0, 0⟩ p ns := by rw [gp, go, if_pos h]
theorem gp_bra1 {l : List Nat} (hl : ∀ x ∈ l, x < 256) {o p : Nat} {ns : List Nd} (h : ends l p = false) : gp l .bra o p ns = (gp l .pie o p ns).bind fun n p ns => gp l (.braL n) o p ns := by
  have hlt := not_ends_lt h
  rw [gp, go, if_neg (by rw [h]; decide), go_gp hl (by omega) (by simp only [Md.c]; omega)]
  refine G.bind_congr (fun m q ns' e => ?_)
  have := gp_ok hl (by omega) e
  simp only [Md.t] at this
  exact go_gp hl this.2 (by simp only [Md.c]; omega)
theorem gp_braL0 {l : List Nat} {n o p : Nat} {ns : List Nd} (h : ends l p = true) : gp l (.braL n) o p ns = .ok n p ns := by rw [gp, go, if_pos h]
theorem gp_braL1 {l : List Nat} (hl : ∀ x ∈ l, x < 256) {n o p : Nat} {ns : List Nd} (h : ends l p = false) : gp l (.braL n) o p ns = (gp l .pie o p ns).bind fun m p ns => gp l (.braL ns.length) o p (ns ++ [⟨3, 0, n, m, 0, 0⟩]) := by
  have hlt := not_ends_lt h
  rw [gp, go, if_neg (by rw [h]; decide), go_gp hl (by omega) (by simp only [Md.c]; omega)]
  refine G.bind_congr (fun m q ns' e => ?_)
  have := gp_ok hl (by omega) e
  simp only [Md.t] at this
  exact go_gp hl this.2 (by simp only [Md.c]; omega)
theorem gp_pie {l : List Nat} (hl : ∀ x ∈ l, x < 256) {o p : Nat} {ns : List Nd} (hp : p ≤ l.length) : gp l .pie o p ns = (gp l .ato o p ns).bind fun n p ns => (times l p).bind fun r p => match r with | none => .ok n p ns | some (a, b) => add ⟨5, 0, n, 0, a, b⟩ p ns := by
  rw [gp, go, go_gp hl hp (by simp only [Md.c]; omega)]
  rfl
theorem gp_ato_long {l : List Nat} {p : Nat} {ns : List Nd} (h : pk l p = 40) : gp l .ato 16 p ns = .bad true p := by rw [gp, go, if_pos h, if_pos rfl]
theorem gp_ato_open {l : List Nat} (hl : ∀ x ∈ l, x < 256) {o p : Nat} {ns : List Nd} (h : pk l p = 40) (ho : o ≠ 16) : gp l .ato o p ns = (gp l .pat (o + 1) (p + 1) ns).bind fun n p ns => if pk l p = 41 then .ok n (p + 1) ns else .bad false p := by
  have hlt := pk_lt (l := l) (p := p) (by omega)
  rw [gp, go, if_pos h, if_neg ho, go_gp hl hlt (by simp only [Md.c]; omega)]
theorem gp_ato_set {l : List Nat} {o S p : Nat} {ns : List Nd} {r : List Nat} (hS : S < 2 ^ 256) (h : Tx l p (setPr S ++ r)) : gp l .ato o p ns = addS S (p + (setPr S).length) ns := ato_set hS h
/-- node n of N says x -/
def Rp (N : List Nd) (n : Nat) (x : X) : Prop := ∃ t, Is N t ∧ t.root = n ∧ abs N t = x
theorem getD_app {N M : List Nd} {i : Nat} (h : i < N.length) : (N ++ M).getD i default = N.getD i default := by
  rw [List.getD_eq_getElem?_getD, List.getElem?_append_left h, ← List.getD_eq_getElem?_getD]
theorem is_app {N : List Nd} (M : List Nd) : ∀ t : T, Is N t → Is (N ++ M) t ∧ abs (N ++ M) t = abs N t := by
  intro t
  induction t with
  | leaf i =>
    rintro ⟨h1, h2⟩
    refine ⟨⟨by rw [List.length_append]; omega, by rw [getD_app h1]; exact h2⟩, ?_⟩
    simp only [abs]
    rw [getD_app h1]
  | one i a ih =>
    rintro ⟨h1, h2, h3, h4⟩
    refine ⟨⟨by rw [List.length_append]; omega, by rw [getD_app h1]; exact h2, h3, (ih h4).1⟩, ?_⟩
    simp only [abs]
    rw [getD_app h1, (ih h4).2]
  | two i a b ih1 ih2 =>
    rintro ⟨h1, h2, h3, h4, h5, h6⟩
    refine ⟨⟨by rw [List.length_append]; omega, by rw [getD_app h1]; exact h2, h3, h4, (ih1 h5).1, (ih2 h6).1⟩, ?_⟩
    simp only [abs]
    rw [getD_app h1, (ih1 h5).2, (ih2 h6).2]
theorem Rp.more {N : List Nd} {n : Nat} {x : X} (h : Rp N n x) (M : List Nd) : Rp (N ++ M) n x := by
  obtain ⟨t, h1, h2, h3⟩ := h
  exact ⟨t, (is_app M t h1).1, h2, ((is_app M t h1).2).trans h3⟩
theorem Rp.lt {N : List Nd} {n : Nat} {x : X} (h : Rp N n x) : n < N.length := by
  obtain ⟨t, h1, h2, -⟩ := h
  have := h1.lt
  omega
theorem getD_new (N : List Nd) (x : Nd) : (N ++ [x]).getD N.length default = x := by simp [List.getD_eq_getElem?_getD]
theorem Rp.emp (N : List Nd) : Rp (N ++ [⟨1, 0, 0, 0, 0, 0⟩]) N.length .emp := by
  refine ⟨.leaf N.length, ⟨by simp, by rw [getD_new]; rfl⟩, rfl, ?_⟩
  simp only [abs]
  rw [getD_new, if_pos rfl]
theorem Rp.set (N : List Nd) (S : Nat) : Rp (N ++ [⟨2, S, 0, 0, 0, 0⟩]) N.length (.set S) := by
  refine ⟨.leaf N.length, ⟨by simp, by rw [getD_new]; rfl⟩, rfl, ?_⟩
  simp only [abs]
  rw [getD_new]
  exact if_neg (show ¬ ((2 : Nat) = 1) from by decide)
theorem Rp.seq {N : List Nd} {n m : Nat} {x y : X} (hx : Rp N n x) (hy : Rp N m y) : Rp (N ++ [⟨3, 0, n, m, 0, 0⟩]) N.length (.seq x y) := by
  have h1 := hx.lt
  have h2 := hy.lt
  obtain ⟨t, a1, a2, a3⟩ := hx.more [⟨3, 0, n, m, 0, 0⟩]
  obtain ⟨u, b1, b2, b3⟩ := hy.more [⟨3, 0, n, m, 0, 0⟩]
  refine ⟨.two N.length t u, ⟨by simp, by rw [getD_new, a2, b2]; rfl, by omega, by omega, a1, b1⟩, rfl, ?_⟩
  simp only [abs]
  rw [getD_new, if_pos rfl, a3, b3]
theorem Rp.alt {N : List Nd} {n m : Nat} {x y : X} (hx : Rp N n x) (hy : Rp N m y) : Rp (N ++ [⟨4, 0, n, m, 0, 0⟩]) N.length (.alt x y) := by
  have h1 := hx.lt
  have h2 := hy.lt
  obtain ⟨t, a1, a2, a3⟩ := hx.more [⟨4, 0, n, m, 0, 0⟩]
  obtain ⟨u, b1, b2, b3⟩ := hy.more [⟨4, 0, n, m, 0, 0⟩]
  refine ⟨.two N.length t u, ⟨by simp, by rw [getD_new, a2, b2]; rfl, by omega, by omega, a1, b1⟩, rfl, ?_⟩
  simp only [abs]
  rw [getD_new, a3, b3]
  exact if_neg (show ¬ ((4 : Nat) = 3) from by decide)
theorem Rp.tim {N : List Nd} {n : Nat} {x : X} {a b : Int} (hx : Rp N n x) : Rp (N ++ [⟨5, 0, n, 0, a, b⟩]) N.length (.tim x a b) := by
  have h1 := hx.lt
  obtain ⟨t, a1, a2, a3⟩ := hx.more [⟨5, 0, n, 0, a, b⟩]
  refine ⟨.one N.length t, ⟨by simp, by rw [getD_new, a2]; rfl, by omega, a1⟩, rfl, ?_⟩
  simp only [abs]
  rw [getD_new, a3]
/-- how many ( of a print are open at once -/
def dW (c : Bool) (n : Nat) : Nat := if c then n + 1 else n
def dX : X → Nat
  | .emp => 1
  | .set _ => 0
  | .seq a b => max (dW (a.kd == 4) (dX a)) (dW (b.kd == 4 || b.kd == 3) (dX b))
  | .alt a b => max (dX a) (dW (b.kd == 4) (dX b))
  | .tim a _ _ => dW (decide (2 < a.kd)) (dX a)
def dAt (z : X) : Nat := dW (decide (2 < z.kd)) (dX z)
def dPc (z : X) : Nat := dW (z.kd == 4 || z.kd == 3) (dX z)
def dBr (z : X) : Nat := dW (z.kd == 4) (dX z)
/-- what is read of a text that says x and ends at q -/
def Out (o d : Nat) (ns : List Nd) (q : Nat) (x : X) (g : G) : Prop :=
  if o + d ≤ 16 then ∃ n M, g = .ok n q (ns ++ M) ∧ Rp (ns ++ M) n x else ∃ q', g = .bad true q'
theorem Out.yes {o d : Nat} {ns : List Nd} {q : Nat} {x : X} {g : G} (h : Out o d ns q x g) (hd : o + d ≤ 16) : ∃ n M, g = .ok n q (ns ++ M) ∧ Rp (ns ++ M) n x := by rwa [Out, if_pos hd] at h
theorem Out.no {o d : Nat} {ns : List Nd} {q : Nat} {x : X} {g : G} (h : Out o d ns q x g) (hd : ¬ o + d ≤ 16) : ∃ q', g = .bad true q' := by rwa [Out, if_neg hd] at h
theorem Out.mk1 {o d : Nat} {ns : List Nd} {q n : Nat} {x : X} {g : G} (hd : o + d ≤ 16) (M : List Nd) (e : g = .ok n q (ns ++ M)) (h : Rp (ns ++ M) n x) : Out o d ns q x g := by
  rw [Out, if_pos hd]; exact ⟨n, M, e, h⟩
theorem Out.mk0 {o d : Nat} {ns : List Nd} {q q' : Nat} {x : X} {g : G} (hd : ¬ o + d ≤ 16) (e : g = .bad true q') : Out o d ns q x g := by
  rw [Out, if_neg hd]; exact ⟨q', e⟩
/-- x is read from its print -/
def TopR (l : List Nat) (x : X) : Prop := ∀ (o p : Nat) (ns : List Nd) (r : List Nat), o ≤ 16 → Tx l p (prX x ++ r) → Hd [41, 38] r → p ≤ l.length → Out o (dX x) ns (p + (prX x).length) x (gp l .pat o p ns)
theorem atom_rd {l : List Nat} (hl : ∀ x ∈ l, x < 256) {z : X} (hz : OkX z) (hT : 2 < z.kd → TopR l z) {o p : Nat} {ns : List Nd} {r : List Nat} (ho : o ≤ 16) (h : Tx l p (atomP z ++ r)) : Out o (dAt z) ns (p + (atomP z).length) z (gp l .ato o p ns) := by
  rcases kd_cases z with rfl | ⟨t, rfl⟩ | hk
  · have h' : Tx l p (40 :: 41 :: r) := h
    have e : dAt .emp = 1 := rfl
    have e2 : (atomP .emp).length = 2 := rfl
    rw [e, e2]
    by_cases h16 : o = 16
    · subst h16
      exact .mk0 (by omega) (gp_ato_long h'.at0)
    · refine .mk1 (by omega) [⟨1, 0, 0, 0, 0, 0⟩] (n := ns.length) ?_ (Rp.emp ns)
      have h1 : pk l (p + 1) = 41 := h'.next.at0
      have hlt := h'.lt
      have he : ends l (p + 1) = true := by unfold ends; rw [h1]; rfl
      rw [gp_ato_open hl h'.at0 h16, gp_pat hl hlt, gp_bra0 he]
      simp only [add, G.bind]
      rw [gp_patL0 (by omega)]
      simp only
      rw [if_pos h1]
  · have h' : Tx l p (setPr t ++ r) := h
    have e : dAt (.set t) = 0 := rfl
    rw [e]
    exact .mk1 (by omega) [⟨2, t, 0, 0, 0, 0⟩] (n := ns.length) (gp_ato_set hz h') (Rp.set ns t)
  · have e : atomP z = 40 :: (prX z ++ [41]) := by unfold atomP; rw [decide_eq_true hk]; rfl
    have ed : dAt z = dX z + 1 := by unfold dAt; rw [decide_eq_true hk]; rfl
    rw [e] at h ⊢
    rw [ed]
    have h0 : Tx l p (40 :: (prX z ++ (41 :: r))) := by simpa using h
    by_cases h16 : o = 16
    · subst h16
      exact .mk0 (by omega) (gp_ato_long h0.at0)
    · have hlt := h0.lt
      have hO := hT hk (o + 1) (p + 1) ns (41 :: r) (by omega) h0.next (.inr ⟨41, r, rfl, by decide⟩) hlt
      rw [gp_ato_open hl h0.at0 h16]
      by_cases hd : o + (dX z + 1) ≤ 16
      · obtain ⟨n, M, e1, e2⟩ := hO.yes (by omega)
        have h41 : pk l (p + 1 + (prX z).length) = 41 := h0.next.app.at0
        refine .mk1 hd M ?_ e2
        rw [e1]
        simp only [G.bind]
        rw [if_pos h41]
        simp only [List.length_cons, List.length_append, List.length_nil]
        congr 1
        omega
      · obtain ⟨q', e1⟩ := hO.no (by omega)
        refine .mk0 hd ?_ (q' := q')
        rw [e1]
        rfl
theorem dig_digit {m : Int} (h0 : 0 ≤ m) (h9 : m ≤ 9) {l : List Nat} {p : Nat} (h : pk l p = dig m) : digit l p = .ok m.toNat (p + 1) := by
  unfold digit
  unfold dig at h
  rw [if_pos (by omega), h]
  congr 1
  omega
/-- what says how often, read -/
theorem times_rd {l : List Nat} {m n : Int} (hc : countable m n = true) {p : Nat} {r : List Nat} (h : Tx l p (tm m n ++ r)) : times l p = .ok (some (m, n)) (p + (tm m n).length) := by
  unfold tm at h ⊢
  by_cases h1 : n = -1
  · rw [if_pos h1] at h ⊢
    unfold countable at hc
    rw [if_pos h1] at hc
    have hm := of_decide_eq_true hc
    by_cases h2 : m = 0
    · rw [if_pos h2] at h ⊢
      have h0 : pk l p = 42 := h.at0
      rw [times, h0, if_pos rfl, h1, h2]
      rfl
    · rw [if_neg h2] at h ⊢
      have h0 : pk l p = 43 := h.at0
      rw [times, h0, if_neg (by decide), if_pos rfl, h1, show m = 1 from by omega]
      rfl
  · rw [if_neg h1] at h ⊢
    unfold countable at hc
    rw [if_neg h1] at hc
    have hm := of_decide_eq_true hc
    by_cases h2 : m = 0 ∧ n = 1
    · rw [if_pos h2] at h ⊢
      have h0 : pk l p = 63 := h.at0
      rw [times, h0, if_neg (by decide), if_neg (by decide), if_pos rfl, h2.1, h2.2]
      rfl
    · rw [if_neg h2] at h ⊢
      have h0 : pk l p = 123 := h.at0
      have h3 := dig_digit hm.1 (by omega) (Tx.at0 (h.next))
      by_cases h4 : n ≠ m
      · rw [if_pos h4] at h ⊢
        have hx : Tx l p (123 :: dig m :: 44 :: dig n :: 125 :: r) := by simpa using h
        have h5 : pk l (p + 1 + 1) = 44 := hx.next.next.at0
        have h6 := dig_digit (m := n) (by omega) (by omega) hx.next.next.next.at0
        have h7 : pk l (p + 1 + 1 + 1 + 1) = 125 := hx.next.next.next.next.at0
        rw [times, h0, if_neg (by decide), if_neg (by decide), if_neg (by decide), if_pos rfl]
        unfold counts need
        rw [h3]
        simp only
        rw [if_pos h5, h6]
        simp only
        rw [if_neg (by omega), if_pos h7]
        simp only [List.length_cons, List.length_append, List.length_nil]
        congr 3
        · omega
        · omega
      · have h4' : n = m := by omega
        rw [if_neg h4] at h ⊢
        have hx : Tx l p (123 :: dig m :: 125 :: r) := by simpa using h
        have h5 : pk l (p + 1 + 1) = 125 := hx.next.next.at0
        rw [times, h0, if_neg (by decide), if_neg (by decide), if_neg (by decide), if_pos rfl]
        unfold counts need
        rw [h3]
        simp only
        rw [if_neg (by omega), if_pos h5]
        simp only [List.length_cons, List.length_append, List.length_nil]
        congr 3
        · omega
        · omega
theorem times_no {l : List Nat} {p : Nat} {u : List Nat} (h : Tx l p u) (hu : Nt TH u) : times l p = .ok none p := by
  have h0 : pk l p ≠ 42 ∧ pk l p ≠ 43 ∧ pk l p ≠ 63 ∧ pk l p ≠ 123 := by
    rcases hu with rfl | ⟨a, t, rfl, ha⟩
    · rw [h.fin]; decide
    · rw [h.at0]
      refine ⟨?_, ?_, ?_, ?_⟩ <;> (intro e; rw [e] at ha; revert ha; decide)
  rw [times, if_neg h0.1, if_neg h0.2.1, if_neg h0.2.2.1, if_neg h0.2.2.2]
end Rx
end Go.Proofs.YtbmoanhdpnaocaaDoor
namespace Go.Proofs.YtbmoanhdpnaocaaDoor
namespace Rx
open Sets Tr
theorem atom_pos (z : X) : 1 ≤ (atomP z).length := by
  obtain ⟨a, t, e, -⟩ := head_wr (decide (2 < z.kd)) (head_prX z)
  unfold atomP
  rw [e]; simp
/-- a piece, read -/
theorem piece_rd {l : List Nat} (hl : ∀ x ∈ l, x < 256) {n : Nat} (H : ∀ z, z.sz < n → OkX z → TopR l z) {z : X} (hz : PO n z) {o p : Nat} {ns : List Nd} {r : List Nat} (ho : o ≤ 16) (h : Tx l p (pieceP z ++ r)) (hr : Nt TH r) (hp : p ≤ l.length) :
    Out o (dPc z) ns (p + (pieceP z).length) z (gp l .pie o p ns) := by
  obtain ⟨hok, hc⟩ := hz
  rw [gp_pie hl hp]
  rcases tim_or z with ⟨a, m, k, rfl⟩ | h5
  · have hsz : a.sz < n := by
      rcases hc with hc | hc | hc
      · simp [X.kd] at hc
      · have := hc.2; simp only [X.sz] at this; omega
      · simp only [X.sz] at hc; omega
    have ed : dPc (.tim a m k) = dAt a := rfl
    rw [piece_tim] at h ⊢
    rw [ed]
    rw [List.append_assoc] at h
    have hA := atom_rd hl hok.1 (fun _ => H a hsz hok.1) (ns := ns) ho h
    by_cases hd : o + dAt a ≤ 16
    · obtain ⟨i, M, e1, e2⟩ := hA.yes hd
      refine .mk1 hd (M ++ [⟨5, 0, i, 0, m, k⟩]) (n := (ns ++ M).length) ?_ ?_
      · rw [e1]
        simp only [G.bind]
        rw [times_rd hok.2 h.app]
        simp only [L.bind, add, List.length_append, List.append_assoc]
        congr 1
        omega
      · rw [← List.append_assoc]
        exact e2.tim
    · obtain ⟨q', e1⟩ := hA.no hd
      exact .mk0 hd (q' := q') (by rw [e1]; rfl)
  · have ed : dPc z = dAt z := by
      unfold dPc dAt
      cases z <;> first | rfl | exact absurd rfl h5
    rw [piece_other h5] at h ⊢
    rw [ed]
    have hA := atom_rd hl hok (fun hk => by
      rcases hc with hc | hc | hc
      · omega
      · exact absurd hc.1 h5
      · exact H z hc hok) (ns := ns) ho h
    by_cases hd : o + dAt z ≤ 16
    · obtain ⟨i, M, e1, e2⟩ := hA.yes hd
      refine .mk1 hd M (n := i) ?_ e2
      rw [e1]
      simp only [G.bind]
      rw [times_no h.app hr]
      rfl
    · obtain ⟨q', e1⟩ := hA.no hd
      exact .mk0 hd (q' := q') (by rw [e1]; rfl)
def dL (d : X → Nat) : List X → Nat
  | [] => 0
  | b :: t => max (d b) (dL d t)
theorem dL_snoc (d : X → Nat) (t : List X) (b : X) : dL d (t ++ [b]) = max (dL d t) (d b) := by
  induction t with
  | nil => simp [dL]
  | cons c t ih => rw [List.cons_append, dL, ih, dL]; omega
theorem dBr_pcs (z : X) : dBr z = dL dPc (pcs z) := by
  induction z with
  | seq a b iha ihb =>
    rw [pcs, dL_snoc, ← iha]
    rfl
  | emp => simp [pcs, dL, dBr, dPc, X.kd]
  | set s => simp [pcs, dL, dBr, dPc, X.kd]
  | alt a b => simp [pcs, dL, dBr, dPc, X.kd]
  | tim a m n => simp [pcs, dL, dBr, dPc, X.kd]
theorem dX_brs (z : X) : dX z = dL dBr (brs z) := by
  induction z with
  | alt a b iha ihb =>
    rw [brs, dL_snoc, ← iha]
    rfl
  | emp => simp [brs, dL, dBr, X.kd, dW]
  | set s => simp [brs, dL, dBr, X.kd, dW]
  | seq a b => simp [brs, dL, dBr, X.kd, dW]
  | tim a m n => simp [brs, dL, dBr, X.kd, dW]
theorem ends_hd {l : List Nat} {p : Nat} {u : List Nat} (h : Tx l p u) (hu : Hd [41, 38, 124] u) : ends l p = true := by
  unfold ends
  rcases h.hd hu with e | e
  · rw [e]; rfl
  · simp only [List.mem_cons, List.not_mem_nil, or_false] at e
    rcases e with e | e | e <;> rw [e] <;> rfl
theorem ends_pc {l : List Nat} (hl : ∀ x ∈ l, x < 256) {p : Nat} {z : X} {u : List Nat} (h : Tx l p (pieceP z ++ u)) : ends l p = false := by
  obtain ⟨a, t, e, ha⟩ := head_piece z
  rw [e] at h
  have h0 : Tx l p (a :: (t ++ u)) := h
  have h1 := h0.at0
  have h2 := pk_ne h0.lt hl
  unfold ends
  rw [h1] at h2 ⊢
  have hn : a ≠ 124 ∧ a ≠ 38 ∧ a ≠ 41 := by refine ⟨?_, ?_, ?_⟩ <;> (intro e; rw [e] at ha; revert ha; decide)
  simp only [Bool.or_eq_false_iff, beq_eq_false_iff_ne]
  exact ⟨⟨⟨by omega, hn.1⟩, hn.2.1⟩, hn.2.2⟩
theorem nt_pcs {ps : List X} {u : List Nat} (hu : Hd [41, 38, 124] u) : Nt TH (ps.flatMap pieceP ++ u) := by
  cases ps with
  | nil => exact hu.nt (by decide)
  | cons z l =>
    rw [List.flatMap_cons, List.append_assoc]
    exact nt_of_head (head_piece z) th_b0
/-- the further pieces of a branch, read -/
theorem pcs_rd {l : List Nat} (hl : ∀ x ∈ l, x < 256) {n : Nat} (H : ∀ z, z.sz < n → OkX z → TopR l z) : ∀ (ps : List X) (o p i : Nat) (ns : List Nd) (x : X) (r : List Nat), (∀ b ∈ ps, PO n b) → o ≤ 16 → Rp ns i x →
    Tx l p (ps.flatMap pieceP ++ r) → Hd [41, 38, 124] r → p ≤ l.length → Out o (dL dPc ps) ns (p + (ps.flatMap pieceP).length) (ps.foldl X.seq x) (gp l (.braL i) o p ns) := by
  intro ps
  induction ps with
  | nil =>
    intro o p i ns x r _ ho hx h hr hp
    refine .mk1 (by simp only [dL]; omega) [] (n := i) ?_ (by rw [List.append_nil]; exact hx)
    rw [gp_braL0 (ends_hd h hr), List.append_nil]
    rfl
  | cons b ps ih =>
    intro o p i ns x r hb ho hx h hr hp
    rw [List.flatMap_cons, List.append_assoc] at h
    have hP := piece_rd hl H (hb b (by simp)) (ns := ns) ho h (nt_pcs hr) hp
    rw [gp_braL1 hl (ends_pc hl h)]
    by_cases hd : o + dPc b ≤ 16
    · obtain ⟨j, M, e1, e2⟩ := hP.yes hd
      have hq := h.app
      have hple : p + (pieceP b).length ≤ l.length := by
        have := gp_ok hl hp e1
        exact this.2
      have hI := ih o (p + (pieceP b).length) (ns ++ M).length (ns ++ M ++ [⟨3, 0, i, j, 0, 0⟩]) (.seq x b) r (fun c hc => hb c (by simp [hc])) ho ((hx.more M).seq e2) hq hr hple
      rw [e1]
      simp only [G.bind]
      by_cases hd2 : o + dL dPc ps ≤ 16
      · obtain ⟨k, M2, e3, e4⟩ := hI.yes hd2
        refine .mk1 (by simp only [dL]; omega) (M ++ [⟨3, 0, i, j, 0, 0⟩] ++ M2) (n := k) ?_ ?_
        · rw [e3, List.flatMap_cons, List.length_append]
          simp only [List.append_assoc]
          congr 1
          omega
        · simp only [← List.append_assoc]
          exact e4
      · obtain ⟨q', e3⟩ := hI.no hd2
        exact .mk0 (by simp only [dL]; omega) e3
    · obtain ⟨q', e1⟩ := hP.no hd
      exact .mk0 (by simp only [dL]; omega) (q' := q') (by rw [e1]; rfl)
/-- a branch, read -/
theorem br_rd {l : List Nat} (hl : ∀ x ∈ l, x < 256) {n : Nat} (H : ∀ z, z.sz < n → OkX z → TopR l z) {b : X} (hb : OkX b) (hbs : b.sz ≤ n) (hb4 : b.kd = 4 → b.sz < n) {o p : Nat} {ns : List Nd} {r : List Nat} (ho : o ≤ 16)
    (h : Tx l p (brP b ++ r)) (hr : Hd [41, 38, 124] r) (hp : p ≤ l.length) : Out o (dBr b) ns (p + (brP b).length) b (gp l .bra o p ns) := by
  have hpo : ∀ p ∈ pcs b, PO n p := fun p hp => by
    obtain ⟨h1, h2, h3⟩ := pcs_ok b hb p hp
    refine ⟨h1, ?_⟩
    have hk : p.kd ≤ 2 ∨ p.kd = 3 ∨ p.kd = 4 ∨ p.kd = 5 := by cases p <;> simp [X.kd]
    rcases hk with hk | hk | hk | hk
    · exact .inl hk
    · rcases h3 (.inl hk) with h | h
      · exact .inr (.inr (by omega))
      · have := hb4 h; exact .inr (.inr (by omega))
    · rcases h3 (.inr hk) with h | h
      · exact .inr (.inr (by omega))
      · have := hb4 h; exact .inr (.inr (by omega))
    · exact .inr (.inl ⟨hk, by omega⟩)
  obtain ⟨z, t, e1, e2⟩ := pcs_back b
  rw [dBr_pcs]
  rw [brP_pcs] at h ⊢
  rw [e1] at h hpo ⊢
  rw [List.flatMap_cons, List.append_assoc] at h
  have hP := piece_rd hl H (hpo z (by simp)) (ns := ns) ho h (nt_pcs hr) hp
  rw [gp_bra1 hl (ends_pc hl h)]
  by_cases hd : o + dPc z ≤ 16
  · obtain ⟨j, M, e3, e4⟩ := hP.yes hd
    have hq := h.app
    have hple := (gp_ok hl hp e3).2
    have hI := pcs_rd hl H t o (p + (pieceP z).length) j (ns ++ M) z r (fun c hc => hpo c (by simp [hc])) ho e4 hq hr hple
    rw [e3]
    simp only [G.bind]
    by_cases hd2 : o + dL dPc t ≤ 16
    · obtain ⟨k, M2, e5, e6⟩ := hI.yes hd2
      refine .mk1 (by simp only [dL]; omega) (M ++ M2) (n := k) ?_ ?_
      · rw [e5, List.flatMap_cons, List.length_append]
        simp only [List.append_assoc]
        congr 1
        omega
      · rw [← List.append_assoc, e2]
        exact e6
    · obtain ⟨q', e5⟩ := hI.no hd2
      exact .mk0 (by simp only [dL]; omega) e5
  · obtain ⟨q', e3⟩ := hP.no hd
    exact .mk0 (by simp only [dL]; omega) (q' := q') (by rw [e3]; rfl)
theorem hd_brs {t : List X} {u : List Nat} (hu : Hd [41, 38] u) : Hd [41, 38, 124] (t.flatMap (fun b => 124 :: brP b) ++ u) := by
  cases t with
  | nil =>
    refine hu.imp id (fun ⟨a, t, e, ha⟩ => ⟨a, t, e, ?_⟩)
    revert ha
    simp only [List.mem_cons, List.not_mem_nil, or_false]
    rintro (rfl | rfl) <;> simp
  | cons z l => exact .inr ⟨124, _, rfl, by decide⟩
/-- the further branches of a pattern, read -/
theorem brs_rd {l : List Nat} (hl : ∀ x ∈ l, x < 256) {n : Nat} (H : ∀ z, z.sz < n → OkX z → TopR l z) : ∀ (bs : List X) (o p i : Nat) (ns : List Nd) (x : X) (r : List Nat), (∀ b ∈ bs, OkX b ∧ b.sz ≤ n ∧ (b.kd = 4 → b.sz < n)) → o ≤ 16 → Rp ns i x →
    Tx l p (bs.flatMap (fun b => 124 :: brP b) ++ r) → Hd [41, 38] r → p ≤ l.length → Out o (dL dBr bs) ns (p + (bs.flatMap (fun b => 124 :: brP b)).length) (bs.foldl X.alt x) (gp l (.patL i) o p ns) := by
  intro bs
  induction bs with
  | nil =>
    intro o p i ns x r _ ho hx h hr hp
    refine .mk1 (by simp only [dL]; omega) [] (n := i) ?_ (by rw [List.append_nil]; exact hx)
    have hn : pk l p ≠ 124 := by
      have h' : Tx l p r := h
      rcases h'.hd hr with e | e
      · omega
      · intro e2; rw [e2] at e; revert e; decide
    rw [gp_patL0 hn, List.append_nil]
    rfl
  | cons b bs ih =>
    intro o p i ns x r hb ho hx h hr hp
    rw [List.flatMap_cons, List.append_assoc] at h
    have h0 : Tx l p (124 :: (brP b ++ (bs.flatMap (fun b => 124 :: brP b) ++ r))) := h
    have hlt := h0.lt
    have hb1 := hb b (by simp)
    have hP := br_rd hl H hb1.1 hb1.2.1 hb1.2.2 (ns := ns) ho h0.next (hd_brs hr) hlt
    rw [gp_patL1 hl h0.at0]
    by_cases hd : o + dBr b ≤ 16
    · obtain ⟨j, M, e1, e2⟩ := hP.yes hd
      have hq := h0.next.app
      have hple := (gp_ok hl hlt e1).2
      have hI := ih o (p + 1 + (brP b).length) (ns ++ M).length (ns ++ M ++ [⟨4, 0, i, j, 0, 0⟩]) (.alt x b) r (fun c hc => hb c (by simp [hc])) ho ((hx.more M).alt e2) hq hr hple
      rw [e1]
      simp only [G.bind]
      by_cases hd2 : o + dL dBr bs ≤ 16
      · obtain ⟨k, M2, e3, e4⟩ := hI.yes hd2
        refine .mk1 (by simp only [dL]; omega) (M ++ [⟨4, 0, i, j, 0, 0⟩] ++ M2) (n := k) ?_ ?_
        · rw [e3, List.flatMap_cons, List.length_append, List.length_cons]
          simp only [List.append_assoc]
          congr 1
          omega
        · simp only [← List.append_assoc]
          exact e4
      · obtain ⟨q', e3⟩ := hI.no hd2
        exact .mk0 (by simp only [dL]; omega) e3
    · obtain ⟨q', e1⟩ := hP.no hd
      exact .mk0 (by simp only [dL]; omega) (q' := q') (by rw [e1]; rfl)
/-- each tree is read from its print -/
theorem top_rd {l : List Nat} (hl : ∀ x ∈ l, x < 256) : ∀ (n : Nat) (x : X), x.sz ≤ n → OkX x → TopR l x := by
  intro n
  induction n with
  | zero => intro x hx; have := X.sz_pos x; omega
  | succ n ih =>
    intro x hx hox o p ns r ho h hr hp
    have H : ∀ z, z.sz < x.sz → OkX z → TopR l z := fun z hz hz2 => ih z (by omega) hz2
    obtain ⟨b, t, e1, e2⟩ := prX_brs x
    obtain ⟨b', t', e3, e4⟩ := brs_back x
    rw [e1] at e3
    injection e3 with e5 e6
    subst e5 e6
    have okx := brs_ok x hox
    rw [e1] at okx
    rw [dX_brs, e1]
    rw [e2, List.append_assoc] at h
    rw [e2]
    have hb1 := okx b (by simp)
    have hP := br_rd hl H hb1.1 hb1.2.1 hb1.2.2 (ns := ns) ho h (hd_brs hr) hp
    rw [gp_pat hl hp]
    by_cases hd : o + dBr b ≤ 16
    · obtain ⟨j, M, e7, e8⟩ := hP.yes hd
      have hq := h.app
      have hple := (gp_ok hl hp e7).2
      have hI := brs_rd hl H t o (p + (brP b).length) j (ns ++ M) b r (fun c hc => okx c (by simp [hc])) ho e8 hq hr hple
      rw [e7]
      simp only [G.bind]
      by_cases hd2 : o + dL dBr t ≤ 16
      · obtain ⟨k, M2, e9, e10⟩ := hI.yes hd2
        refine .mk1 (by simp only [dL]; omega) (M ++ M2) (n := k) ?_ ?_
        · rw [e9, List.length_append]
          simp only [List.append_assoc]
          congr 1
          omega
        · rw [← List.append_assoc, e4]
          exact e10
      · obtain ⟨q', e9⟩ := hI.no hd2
        exact .mk0 (by simp only [dL]; omega) e9
    · obtain ⟨q', e7⟩ := hP.no hd
      exact .mk0 (by simp only [dL]; omega) (q' := q') (by rw [e7]; rfl)
end Rx
end Go.Proofs.YtbmoanhdpnaocaaDoor
namespace Go.Proofs.YtbmoanhdpnaocaaDoor
namespace Rx
open Sets Tr
/-- parts of N that say xs -/
def Rps (N : List Nd) : List (Int × Bool) → List (X × Bool) → Prop
  | [], [] => True
  | p :: ps, x :: xs => (∃ n : Nat, p.1 = (n : Int) ∧ Rp N n x.1) ∧ p.2 = x.2 ∧ Rps N ps xs
  | _, _ => False
theorem Rps.more {N : List Nd} (M : List Nd) : ∀ {ps : List (Int × Bool)} {xs : List (X × Bool)}, Rps N ps xs → Rps (N ++ M) ps xs
  | [], [], _ => trivial
  | _ :: _, _ :: _, ⟨⟨n, h1, h2⟩, h3, h4⟩ => ⟨⟨n, h1, h2.more M⟩, h3, h4.more M⟩
theorem Rps.snoc {N : List Nd} {n : Nat} {b : Bool} {x : X} (hn : Rp N n x) : ∀ {ps : List (Int × Bool)} {xs : List (X × Bool)}, Rps N ps xs → Rps N (ps ++ [((n : Int), b)]) (xs ++ [(x, b)])
  | [], [], _ => ⟨⟨n, rfl, hn⟩, rfl, trivial⟩
  | _ :: _, _ :: _, ⟨h1, h3, h4⟩ => ⟨h1, h3, h4.snoc hn⟩
theorem Rps.len {N : List Nd} : ∀ {ps : List (Int × Bool)} {xs : List (X × Bool)}, Rps N ps xs → ps.length = xs.length
  | [], [], _ => rfl
  | _ :: _, _ :: _, ⟨_, _, h4⟩ => by rw [List.length_cons, List.length_cons, h4.len]
theorem Rps.parts {N : List Nd} : ∀ {ps : List (Int × Bool)} {xs : List (X × Bool)}, Rps N ps xs → parts N ps = xs
  | [], [], _ => rfl
  | p :: ps, x :: xs, ⟨⟨n, h1, t, h2, h3, h5⟩, h6, h4⟩ => by
    have h7 := h4.parts
    unfold Tr.parts at h7 ⊢
    rw [List.map_cons, h7, h1, Int.toNat_natCast, ← h3, tr_of h2, h5, h6]
theorem nots_no {l : List Nat} {f p : Nat} {b : Bool} (h : pk l p ≠ 33) : nots l (f + 1) b p = (b, p) := by rw [nots, if_neg h]
/-- one part, read -/
theorem prt_rd {l : List Nat} (hl : ∀ x ∈ l, x < 256) {x : X} {b : Bool} (hx : OkX x) {p : Nat} {ns : List Nd} {ps : List (Int × Bool)} {r : List Nat}
    (h : Tx l p ((if b then [33] else []) ++ (prX x ++ r))) (hr : Hd [41, 38] r) (hp : p ≤ l.length) :
    if dX x ≤ 16 then ∃ (n : Nat) (M : List Nd), prt l p ns ps = .ok (p + ((if b then [33] else []) ++ prX x).length) (ns ++ M) (ps ++ [((n : Int), b)]) ∧ Rp (ns ++ M) n x else ∃ q, prt l p ns ps = .bad true q := by
  obtain ⟨a, t, e, ha⟩ := head_prX x
  have h33 : ∀ q, Tx l q (prX x ++ r) → pk l q ≠ 33 := fun q hq => by
    rw [e] at hq
    have : Tx l q (a :: (t ++ r)) := hq
    rw [this.at0]
    intro e2
    rw [e2] at ha
    revert ha
    decide
  have main : ∀ q, Tx l q (prX x ++ r) → q ≤ l.length → if dX x ≤ 16 then ∃ (n : Nat) (M : List Nd), prtE l ns ps b q = .ok (q + (prX x).length) (ns ++ M) (ps ++ [((n : Int), b)]) ∧ Rp (ns ++ M) n x else ∃ q', prtE l ns ps b q = .bad true q' := fun q hq hql => by
    have hO := top_rd hl x.sz x (Nat.le_refl _) hx 0 q ns r (by omega) hq hr hql
    have eg : go l (fl l) .pat 0 q ns = gp l .pat 0 q ns := go_gp hl hql (by unfold fl; simp only [Md.c]; omega)
    by_cases hd : dX x ≤ 16
    · rw [if_pos hd]
      obtain ⟨n, M, e1, e2⟩ := hO.yes (by omega)
      refine ⟨n, M, ?_, e2⟩
      unfold prtE
      rw [eg, e1]
    · rw [if_neg hd]
      obtain ⟨q', e1⟩ := hO.no (by omega)
      refine ⟨q', ?_⟩
      unfold prtE
      rw [eg, e1]
  unfold prt
  cases b
  · have h0 : Tx l p (prX x ++ r) := h
    rw [nots_no (h33 p h0)]
    exact main p h0 hp
  · have h0 : Tx l p (33 :: (prX x ++ r)) := h
    have hlt := h0.lt
    have en : nots l (l.length + 1) false p = (true, p + 1) := by
      rw [nots, if_pos h0.at0]
      obtain ⟨f, hf⟩ : ∃ f, l.length = f + 1 := ⟨l.length - 1, by omega⟩
      rw [hf, nots_no (h33 (p + 1) h0.next)]
      rfl
    rw [en]
    have := main (p + 1) h0.next hlt
    simp only [if_true, List.length_append, List.length_cons, List.length_nil] at this ⊢
    rw [show p + (0 + 1 + (prX x).length) = p + 1 + (prX x).length from by omega]
    exact this
def dP : List (X × Bool) → Nat
  | [] => 0
  | x :: xs => max (dX x.1) (dP xs)
theorem hd_parts (k : Nat) (z : List (X × Bool)) : Hd [41, 38] (prParts (k + 1) z) := by
  cases z with
  | nil => exact .inl rfl
  | cons z0 z => exact .inr ⟨38, _, by rw [prParts, if_pos (Nat.succ_pos k)]; rfl, by decide⟩
/-- the further parts, read -/
theorem prtsL_rd {l : List Nat} (hl : ∀ x ∈ l, x < 256) : ∀ (xs ys : List (X × Bool)) (f p : Nat) (ns : List Nd) (ps : List (Int × Bool)), (∀ x ∈ xs, OkX x.1) → Rps ns ps ys → ps.length + xs.length ≤ 20 → Tx l p (prParts 1 xs) → p ≤ l.length → xs.length < f →
    if dP xs ≤ 16 then ∃ ns' ps', prtsL l f p ns ps = .ok l.length ns' ps' ∧ Rps ns' ps' (ys ++ xs) else ∃ q, prtsL l f p ns ps = .bad true q := by
  intro xs
  induction xs with
  | nil =>
    intro ys f p ns ps _ hR _ h hp hf
    obtain ⟨f, rfl⟩ : ∃ g, f = g + 1 := ⟨f - 1, by omega⟩
    have h0 : Tx l p [] := h
    have hlen := h0.len hp
    rw [if_pos (show dP [] ≤ 16 from by decide)]
    refine ⟨ns, ps, ?_, by rw [List.append_nil]; exact hR⟩
    rw [prtsL, if_neg (by rw [h0.fin]; decide)]
    congr 1
  | cons x xs ih =>
    intro ys f p ns ps hx hR hk h hp hf
    obtain ⟨f, rfl⟩ : ∃ g, f = g + 1 := ⟨f - 1, by omega⟩
    rw [List.length_cons] at hk hf
    have h0 : Tx l p (38 :: ((if x.2 then [33] else []) ++ (prX x.1 ++ prParts (1 + 1) xs))) := by
      rw [prParts, if_pos (Nat.succ_pos 0)] at h
      exact h
    have hlt := h0.lt
    have hP := prt_rd hl (b := x.2) (hx x (by simp)) (ns := ns) (ps := ps) h0.next (hd_parts 1 xs) hlt
    have h20 : ¬ ps.length = 20 := by omega
    have eD : dP (x :: xs) = max (dX x.1) (dP xs) := rfl
    rw [prtsL, if_pos h0.at0, if_neg h20, eD]
    by_cases hd : dX x.1 ≤ 16
    · rw [if_pos hd] at hP
      obtain ⟨n, M, e1, e2⟩ := hP
      rw [e1]
      simp only
      have h1 : Tx l (p + 1 + ((if x.2 then [33] else []) ++ prX x.1).length) (prParts 1 xs) := by
        have h2 := h0.next
        rw [← List.append_assoc] at h2
        have h3 := h2.app
        rwa [prParts_pos xs 1] at h3
      have hle : p + 1 + ((if x.2 then [33] else []) ++ prX x.1).length ≤ l.length := by
        have h2 := h0.next.len hlt
        rw [← List.append_assoc, List.length_append] at h2
        omega
      have hI := ih (ys ++ [x]) f _ (ns ++ M) (ps ++ [((n : Int), x.2)]) (fun y hy => hx y (by simp [hy])) ((hR.more M).snoc e2) (by rw [List.length_append, List.length_singleton]; omega) h1 hle (by omega)
      by_cases hd2 : dP xs ≤ 16
      · rw [if_pos hd2] at hI
        rw [if_pos (show max (dX x.1) (dP xs) ≤ 16 from by omega)]
        obtain ⟨ns', ps', e3, e4⟩ := hI
        exact ⟨ns', ps', e3, by rw [List.append_assoc] at e4; exact e4⟩
      · rw [if_neg hd2] at hI
        rw [if_neg (show ¬ max (dX x.1) (dP xs) ≤ 16 from by omega)]
        exact hI
    · rw [if_neg hd] at hP
      rw [if_neg (show ¬ max (dX x.1) (dP xs) ≤ 16 from by omega)]
      obtain ⟨q, e1⟩ := hP
      exact ⟨q, by rw [e1]⟩
def plX : X → Nat
  | .emp => 0
  | .set _ => 1
  | .seq a b => min (plX a + plX b) cap
  | .alt a b => min (plX a + plX b) cap
  | .tim a _ n => min (plX a * (if n = -1 then 1 else n.toNat)) cap
theorem pl_X {N : List Nd} (hs : ∀ i, i < N.length → sound (N.getD i default) = true) : ∀ t : T, Is N t → pl N t = plX (abs N t) := by
  intro t
  induction t with
  | leaf i =>
    rintro ⟨h1, h2⟩
    have hk := hs i h1
    have h3 : (N.getD i default).k = 1 ∨ (N.getD i default).k = 2 := by
      unfold kids at h2
      split at h2
      · cases h2
      · rename_i h4
        split at h2
        · cases h2
        · rename_i h5
          unfold sound at hk
          split at hk
          · omega
          · split at hk
            · omega
            · cases hk
    simp only [pl, abs]
    rcases h3 with h3 | h3
    · rw [if_neg (by omega), if_pos h3]; rfl
    · rw [if_pos h3, if_neg (by omega)]; rfl
  | one i a ih =>
    rintro ⟨h1, h2, h3, h4⟩
    simp only [pl, abs, plX]
    rw [ih h4]
  | two i a b ih1 ih2 =>
    rintro ⟨h1, h2, h3, h4, h5, h6⟩
    simp only [pl, abs]
    rw [ih1 h5, ih2 h6]
    split <;> rfl
theorem plOf_X {N : List Nd} {R : List (Int × Bool)} (h : Right N R) : plOf N R = min ((parts N R).map fun x => plX x.1).sum cap := by
  unfold plOf places parts
  rw [rightB_true h, if_pos rfl, List.map_map]
  congr 2
  refine List.map_congr_left (fun p hp => ?_)
  have h1 := h.rts p.1 (List.mem_map.2 ⟨p, hp, rfl⟩)
  obtain ⟨t, ht, hr⟩ := is_of_low h.low p.1.toNat (by omega)
  simp only [Function.comp]
  rw [← hr, tr_of ht]
  exact pl_X h.snd t ht
/-- The print of parts, read. -/
theorem cons_print {xs : List (X × Bool)} (hx : ∀ x ∈ xs, OkX x.1) (h1 : xs ≠ []) (h20 : xs.length ≤ 20) (hl : ∀ x ∈ prParts 0 xs, x < 256) :
    if (prParts 0 xs).length ≤ 200 ∧ dP xs ≤ 16 then ∃ ns ps, Right ns ps ∧ parts ns ps = xs ∧ cons (prParts 0 xs) = (if 63 < plOf ns ps then .bad true (prParts 0 xs).length else .ok (prParts 0 xs).length ns ps)
    else ∃ q, cons (prParts 0 xs) = .bad true q := by
  by_cases h200 : (prParts 0 xs).length ≤ 200
  case neg =>
    rw [if_neg (fun h => h200 h.1)]
    exact ⟨200, by unfold cons; rw [if_pos (by omega)]⟩
  obtain ⟨l, hll⟩ : ∃ l, l = prParts 0 xs := ⟨_, rfl⟩
  rw [← hll] at hl h200 ⊢
  cases xs with
  | nil => exact absurd rfl h1
  | cons x xs =>
    have hT : Tx l 0 ((if x.2 then [33] else []) ++ (prX x.1 ++ prParts 1 xs)) := by
      unfold Tx
      rw [List.drop_zero, hll, prParts, if_neg (Nat.lt_irrefl 0), List.nil_append]
    have hP := prt_rd hl (b := x.2) (hx x (by simp)) (ns := []) (ps := []) hT (hd_parts 0 xs) (Nat.zero_le _)
    have hin : In2 l 0 [] [] (3 + 297) := ⟨⟨Nat.zero_le _, by rw [List.length_nil]; omega, by simp⟩, by simp, by simp⟩
    have hg := prt_good hl hin (by simp)
    unfold cons
    simp only [if_neg (show ¬ 200 < l.length from by omega)]
    by_cases hd : dX x.1 ≤ 16
    · rw [if_pos hd] at hP
      obtain ⟨n, M, e1, e2⟩ := hP
      rw [Nat.zero_add, List.nil_append, List.nil_append] at e1
      rw [List.nil_append] at e2
      rw [e1]
      rw [e1] at hg
      obtain ⟨-, h3, -⟩ := hg
      simp only
      have hT1 : Tx l ((if x.2 then [33] else []) ++ prX x.1).length (prParts 1 xs) := by
        rw [← List.append_assoc] at hT
        have := hT.app
        rwa [Nat.zero_add] at this
      have hle : ((if x.2 then [33] else []) ++ prX x.1).length ≤ l.length := by
        have h2 := hT.len (Nat.zero_le _)
        rw [← List.append_assoc, List.length_append] at h2
        omega
      have hxl : xs.length ≤ l.length := by
        have hk : ∀ (ys : List (X × Bool)), ys.length ≤ (prParts 1 ys).length := by
          intro ys
          induction ys with
          | nil => simp
          | cons y ys ih =>
            rw [prParts, if_pos (Nat.succ_pos 0), prParts_pos ys 1]
            simp only [List.length_append, List.length_cons, List.length_nil]
            omega
        have := hT1.len hle
        have := hk xs
        omega
      have hI := prtsL_rd hl xs [x] (l.length + 1) _ M [((n : Int), x.2)] (fun y hy => hx y (by simp [hy])) (⟨⟨n, rfl, e2⟩, rfl, trivial⟩ : Rps M [((n : Int), x.2)] [x]) (by simp only [List.length_cons, List.length_nil] at h20 ⊢; omega) hT1 hle (by omega)
      by_cases hd2 : dP xs ≤ 16
      · rw [if_pos hd2] at hI
        rw [if_pos (show l.length ≤ 200 ∧ dP (x :: xs) ≤ 16 from ⟨h200, by simp only [dP]; omega⟩)]
        obtain ⟨ns, ps, e3, e4⟩ := hI
        have hg2 := prtsL_good hl (l.length + 1) (c := 297) h3
        rw [e3] at hg2
        obtain ⟨-, h5⟩ := hg2
        have h6 := prtsL_parts _ _ e3
        have hr : Right ns ps := (prtsL_ri _ _ (prt_ri Ri.nil e1) e3).right (by simp only [List.length_cons, List.length_nil] at h6; omega) h5.few (by have := h5.inn.fit; omega)
        refine ⟨ns, ps, hr, by have := e4.parts; simpa using this, ?_⟩
        rw [e3]
        simp only
        rw [if_neg (Nat.lt_irrefl _)]
      · rw [if_neg hd2] at hI
        rw [if_neg (show ¬ (l.length ≤ 200 ∧ dP (x :: xs) ≤ 16) from fun h => by have := h.2; simp only [dP] at this; omega)]
        obtain ⟨q, e3⟩ := hI
        exact ⟨q, by rw [e3]⟩
    · rw [if_neg hd] at hP
      rw [if_neg (show ¬ (l.length ≤ 200 ∧ dP (x :: xs) ≤ 16) from fun h => by have := h.2; simp only [dP] at this; omega)]
      obtain ⟨q, e1⟩ := hP
      exact ⟨q, by rw [e1]⟩
end Rx
end Go.Proofs.YtbmoanhdpnaocaaDoor
namespace Go.Proofs.YtbmoanhdpnaocaaDoor
namespace Rx
open Sets Tr
/-- what is passed over, whether within [ ], how many are open, how many were at most -/
def opn : List Nat → Bool → Bool → Int → Int → Int
  | [], _, _, _, m => m
  | _ :: r, true, b, n, m => opn r false b n m
  | c :: r, false, b, n, m =>
    if c = 92 then opn r true b n m
    else if b then opn r false (decide (c ≠ 93)) n m
    else if c = 91 then opn r false true n m
    else if c = 40 then opn r false false (n + 1) (max m (n + 1))
    else if c = 41 then opn r false false (n - 1) m
    else opn r false false n m
/-- outside, l opens d at once -/
def Dp (l : List Nat) (d : Nat) : Prop := ∀ (n m : Int) (r : List Nat), n ≤ m → opn (l ++ r) false false n m = opn r false false n (max m (n + d))
/-- within [ ], l changes nothing -/
def Di (l : List Nat) : Prop := ∀ (n m : Int) (r : List Nat), opn (l ++ r) false true n m = opn r false true n m
theorem max_zero {n m : Int} (h : n ≤ m) : max m (n + ((0 : Nat) : Int)) = m := by omega
theorem Dp.nil : Dp [] 0 := fun n m r h => by rw [max_zero h]; rfl
theorem Di.nil : Di [] := fun _ _ _ => rfl
theorem Dp.append {l k : List Nat} {d e : Nat} (h : Dp l d) (h' : Dp k e) : Dp (l ++ k) (max d e) := fun n m r hn => by
  rw [List.append_assoc, h n m _ hn, h' n _ r (by omega)]
  congr 1
  omega
theorem Di.append {l m : List Nat} (h : Di l) (k : Di m) : Di (l ++ m) := fun o q r => by rw [List.append_assoc, h, k]
theorem Dp.app0 {l k : List Nat} (h : Dp l 0) (h' : Dp k 0) : Dp (l ++ k) 0 := h.append h'
theorem Dp.cons0 {a : Nat} {l : List Nat} (h : Dp [a] 0) (k : Dp l 0) : Dp (a :: l) 0 := Dp.app0 h k
theorem Di.cons {a : Nat} {l : List Nat} (h : Di [a]) (k : Di l) : Di (a :: l) := Di.append h k
theorem dp_one {a : Nat} (h : a ≠ 92 ∧ a ≠ 91 ∧ a ≠ 40 ∧ a ≠ 41) : Dp [a] 0 := by
  intro n m r hn
  rw [max_zero hn]
  simp [opn, h.1, h.2.1, h.2.2.1, h.2.2.2]
theorem di_one {a : Nat} (h : a ≠ 92 ∧ a ≠ 93) : Di [a] := by
  intro n m r
  simp [opn, h.1, h.2]
theorem dp_skip (a : Nat) : Dp [92, a] 0 := by intro n m r hn; rw [max_zero hn]; simp [opn]
theorem di_skip (a : Nat) : Di [92, a] := by intro n m r; simp [opn]
theorem esc_dp (c : Nat) (hc : c < 256) : Dp (esc marks c) 0 := by
  have h1 := hex_ne (c / 16) (by omega)
  have h2 := hex_ne (c % 16) (by omega)
  unfold esc
  split
  · exact dp_skip c
  · rename_i hm
    split
    · exact Dp.app0 (dp_skip 120) ((dp_one ⟨h1.1, h1.2.1, h1.2.2.1, h1.2.2.2.1⟩).cons0 (dp_one ⟨h2.1, h2.2.1, h2.2.2.1, h2.2.2.2.1⟩))
    · refine dp_one ⟨?_, ?_, ?_, ?_⟩ <;> (intro e; rw [e] at hm; exact hm (by decide))
theorem esc_di (c : Nat) (hc : c < 256) : Di (esc inner c) := by
  have h1 := hex_ne (c / 16) (by omega)
  have h2 := hex_ne (c % 16) (by omega)
  unfold esc
  split
  · exact di_skip c
  · rename_i hm
    split
    · exact Di.append (di_skip 120) ((di_one ⟨h1.1, h1.2.2.2.2⟩).cons (di_one ⟨h2.1, h2.2.2.2.2⟩))
    · refine di_one ⟨?_, ?_⟩ <;> (intro e; rw [e] at hm; exact hm (by decide))
theorem oneRun_di (l : List Nat) (h : ∀ c ∈ l, c < 256) : Di (oneRun l) := by
  unfold oneRun
  refine (esc_di _ (getD_lt256 h _)).append (Di.append ?_ ?_)
  · split
    · exact di_one (by decide)
    · exact Di.nil
  · split
    · exact esc_di _ (getD_lt256 h _)
    · exact Di.nil
theorem runs_di : ∀ (f : Nat) (l : List Nat), (∀ c ∈ l, c < 256) → Di (runs f l) := by
  intro f
  induction f with
  | zero => intro l _; exact Di.nil
  | succ f ih =>
    intro l h
    cases l with
    | nil => exact Di.nil
    | cons a l => exact (oneRun_di _ (fun c hc => h c (List.mem_of_mem_take hc))).append (ih _ (fun c hc => h c (List.mem_of_mem_drop hc)))
theorem setPr_dp (s : Nat) : Dp (setPr s) 0 := by
  have hl : ∀ c ∈ listN s, c < 256 := fun c hc => ((mem_listN s c).1 hc).1
  unfold setPr
  split
  · exact dp_one (by decide)
  · split
    · exact esc_dp _ (getD_lt256 hl _)
    · intro n m r hn
      have := runs_di 256 (listN s) hl n m (93 :: r)
      rw [max_zero hn]
      simp only [List.cons_append, List.append_assoc, List.nil_append]
      rw [opn, if_neg (by decide), if_neg (by decide), if_pos rfl, this]
      simp [opn]
theorem wr_dp (c : Bool) {l : List Nat} {d : Nat} (h : Dp l d) : Dp (wr c l) (dW c d) := by
  cases c
  · exact h
  · intro n m r hn
    have := h (n + 1) (max m (n + 1)) (41 :: r) (by omega)
    simp only [wr, if_true, List.cons_append, List.append_assoc, List.nil_append, dW]
    rw [opn, if_neg (by decide), if_neg (by decide), if_neg (by decide), if_pos rfl, this, opn, if_neg (by decide), if_neg (by decide), if_neg (by decide), if_neg (by decide), if_pos rfl]
    congr 1
    · omega
    · omega
theorem tm_dp (m n : Int) (h : countable m n = true) : Dp (tm m n) 0 := by
  unfold countable at h
  unfold tm
  split
  · split <;> exact dp_one (by decide)
  · rename_i h1
    rw [if_neg h1] at h
    have h2 := of_decide_eq_true h
    split
    · exact dp_one (by decide)
    · refine (dp_one (by decide)).cons0 ((dp_one (by unfold dig; omega)).cons0 (Dp.app0 ?_ (dp_one (by decide))))
      split
      · exact (dp_one (by decide)).cons0 (dp_one (by unfold dig; omega))
      · exact Dp.nil
theorem prX_dp : ∀ x : X, OkX x → Dp (prX x) (dX x) := by
  intro x
  induction x with
  | emp =>
    intro _ n m r hn
    simp only [prX, List.cons_append, List.nil_append, dX]
    rw [opn, if_neg (by decide), if_neg (by decide), if_neg (by decide), if_pos rfl, opn, if_neg (by decide), if_neg (by decide), if_neg (by decide), if_neg (by decide), if_pos rfl]
    congr 1
    omega
  | set s => intro _; exact setPr_dp s
  | seq a b iha ihb => intro h; exact (wr_dp _ (iha h.1)).append (wr_dp _ (ihb h.2))
  | alt a b iha ihb =>
    intro h
    have := (iha h.1).append ((dp_one (a := 124) (by decide)).append (wr_dp (b.kd == 4) (ihb h.2)))
    rw [Nat.zero_max] at this
    exact this
  | tim a m n ih =>
    intro h
    have := (wr_dp (decide (2 < a.kd)) (ih h.1)).append (tm_dp m n h.2)
    rw [Nat.max_zero] at this
    exact this
theorem prParts_dp : ∀ (l : List (X × Bool)) (i : Nat), (∀ p ∈ l, OkX p.1) → Dp (prParts i l) (dP l) := by
  intro l
  induction l with
  | nil => intro i _; exact Dp.nil
  | cons p l ih =>
    intro i h
    have h1 : Dp (if 0 < i then [38] else []) 0 := by
      split
      · exact dp_one (by decide)
      · exact Dp.nil
    have h2 : Dp (if p.2 then [33] else []) 0 := by
      split
      · exact dp_one (by decide)
      · exact Dp.nil
    have := h1.append (h2.append ((prX_dp _ (h p (by simp))).append (ih (i + 1) (fun q hq => h q (by simp [hq])))))
    rw [Nat.zero_max, Nat.zero_max] at this
    exact this
/-- of a print -/
theorem opn_print {l : List (X × Bool)} (h : ∀ p ∈ l, OkX p.1) : opn (prParts 0 l) false false 0 0 = (dP l : Int) := by
  have := prParts_dp l 0 h 0 0 [] (Int.le_refl _)
  rw [List.append_nil] at this
  rw [this, opn]
  omega
end Rx
end Go.Proofs.YtbmoanhdpnaocaaDoor
