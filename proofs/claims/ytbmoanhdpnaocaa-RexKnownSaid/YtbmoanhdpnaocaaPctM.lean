/- Texts with escapes, as lists of bytes: what Valid, Decode, Encode and Upper tell. No program in it. -/
import Derived.Laws.Strings
import Derived.Lib.Strings
namespace Go.Proofs.Ytbmoanhdpnaocaa
namespace Pct
/-- The value of a hex digit. -/
def val (c : Nat) : Option Nat :=
  if 48 ≤ c ∧ c ≤ 57 then some (c - 48) else if 97 ≤ c ∧ c ≤ 102 then some (c - 87) else if 65 ≤ c ∧ c ≤ 70 then some (c - 55) else none
/-- The digit of a value, A to F great. -/
def dig (n : Nat) : UInt8 := if n < 10 then UInt8.ofNat (48 + n) else UInt8.ofNat (55 + n)
/-- What the escape at a text's beginning says. -/
def esc : List UInt8 → Option Nat
  | p :: a :: b :: _ => if p = 37 then (match val a.toNat, val b.toNat with | some x, some y => some (16 * x + y) | _, _ => none) else none
  | _ => none
def valid : List UInt8 → Bool
  | [] => true
  | c :: r => (c != 37 || (esc (c :: r)).isSome) && valid r
/-- The text decoded, its first k bytes left out. -/
def dec : List UInt8 → Nat → Option (List UInt8)
  | [], _ => some []
  | _ :: r, k + 1 => dec r k
  | c :: r, 0 => match esc (c :: r) with
    | some b => (dec r 2).map (UInt8.ofNat b :: ·)
    | none => if c = 37 then none else (dec r 0).map (c :: ·)
def encB (S : Nat) (c : UInt8) : List UInt8 := if c ≠ 37 ∧ S.testBit c.toNat = true then [c] else [37, dig (c.toNat / 16), dig (c.toNat % 16)]
def enc (S : Nat) (l : List UInt8) : List UInt8 := l.flatMap (encB S)
def up : List UInt8 → Nat → List UInt8
  | [], _ => []
  | _ :: r, k + 1 => up r k
  | c :: r, 0 => match esc (c :: r) with
    | some b => 37 :: dig (b / 16) :: dig (b % 16) :: up r 2
    | none => c :: up r 0
theorem val_lt {c x : Nat} (h : val c = some x) : x < 16 := by
  unfold val at h; split at h
  · simp at h; omega
  · split at h
    · simp at h; omega
    · split at h
      · simp at h; omega
      · simp at h
theorem val_37 : val 37 = none := by decide
theorem val_dig (n : Nat) (h : n < 16) : val (dig n).toNat = some n := by
  have : ∀ n, n < 16 → val (dig n).toNat = some n := by decide
  exact this n h
theorem esc_cons (p a b : UInt8) (r : List UInt8) : esc (p :: a :: b :: r) = if p = 37 then (match val a.toNat, val b.toNat with | some x, some y => some (16 * x + y) | _, _ => none) else none := rfl
theorem esc_some {l : List UInt8} {b : Nat} (h : esc l = some b) : ∃ a c r x y, l = 37 :: a :: c :: r ∧ val a.toNat = some x ∧ val c.toNat = some y ∧ b = 16 * x + y ∧ x < 16 ∧ y < 16 := by
  match l, h with
  | p :: a :: c :: r, h =>
    rw [esc_cons] at h
    by_cases hp : p = 37
    · rw [if_pos hp] at h
      subst hp
      cases hx : val a.toNat with
      | none => rw [hx] at h; simp at h
      | some x =>
        cases hy : val c.toNat with
        | none => rw [hx, hy] at h; simp at h
        | some y =>
          rw [hx, hy] at h
          simp at h
          exact ⟨a, c, r, x, y, rfl, hx, hy, h.symm, val_lt hx, val_lt hy⟩
    · rw [if_neg hp] at h; cases h
theorem esc_lt {l : List UInt8} {b : Nat} (h : esc l = some b) : b < 256 := by
  obtain ⟨_, _, _, x, y, -, -, -, rfl, h1, h2⟩ := esc_some h
  omega
theorem esc_mk (a c : UInt8) (r : List UInt8) (x y : Nat) (hx : val a.toNat = some x) (hy : val c.toNat = some y) : esc (37 :: a :: c :: r) = some (16 * x + y) := by simp [esc, hx, hy]
theorem esc_ne {c : UInt8} (h : c ≠ 37) (r : List UInt8) : esc (c :: r) = none := by
  match r with
  | [] => rfl
  | [_] => rfl
  | _ :: _ :: _ => simp [esc, h]
theorem esc_app {l : List UInt8} {b : Nat} (h : esc l = some b) (t : List UInt8) : esc (l ++ t) = some b := by
  obtain ⟨a, c, r, x, y, rfl, hx, hy, rfl, -, -⟩ := esc_some h
  exact esc_mk _ _ _ _ _ hx hy
theorem val_ne {c : UInt8} {x : Nat} (h : val c.toNat = some x) : c ≠ 37 := by
  rintro rfl
  rw [show (37 : UInt8).toNat = 37 from rfl, val_37] at h; cases h
theorem dec_skip : ∀ (l : List UInt8) (k : Nat), dec l k = dec (l.drop k) 0
  | [], 0 => rfl
  | [], _ + 1 => rfl
  | _ :: _, 0 => rfl
  | _ :: r, k + 1 => by rw [dec, dec_skip r k, List.drop_succ_cons]
theorem up_skip : ∀ (l : List UInt8) (k : Nat), up l k = up (l.drop k) 0
  | [], 0 => rfl
  | [], _ + 1 => rfl
  | _ :: _, 0 => rfl
  | _ :: r, k + 1 => by rw [up, up_skip r k, List.drop_succ_cons]
theorem dec_esc {l : List UInt8} {b : Nat} (h : esc l = some b) : dec l 0 = (dec (l.drop 3) 0).map (UInt8.ofNat b :: ·) := by
  obtain ⟨a, c, r, x, y, rfl, -⟩ := esc_some h
  rw [dec, h]
  simp only [dec_skip (a :: c :: r) 2, List.drop_succ_cons, List.drop_zero]
theorem dec_bad (r : List UInt8) (h : esc (37 :: r) = none) : dec (37 :: r) 0 = none := by
  rw [dec, h]; simp
theorem dec_plain {c : UInt8} (r : List UInt8) (h : c ≠ 37) : dec (c :: r) 0 = (dec r 0).map (c :: ·) := by
  rw [dec, esc_ne h]; simp [h]
theorem up_esc {l : List UInt8} {b : Nat} (h : esc l = some b) : up l 0 = 37 :: dig (b / 16) :: dig (b % 16) :: up (l.drop 3) 0 := by
  obtain ⟨a, c, r, x, y, rfl, -⟩ := esc_some h
  rw [up, h]
  simp only [up_skip (a :: c :: r) 2, List.drop_succ_cons, List.drop_zero]
theorem up_none {c : UInt8} {r : List UInt8} (h : esc (c :: r) = none) : up (c :: r) 0 = c :: up r 0 := by rw [up, h]
theorem dec_valid (l : List UInt8) : (dec l 0).isSome = valid l := by
  induction hn : l.length using Nat.strongRecOn generalizing l with
  | _ n ih =>
  match l with
  | [] => rfl
  | c :: r =>
    cases h : esc (c :: r) with
    | some b =>
      obtain ⟨a, d, t, x, y, he, hx, hy, -⟩ := esc_some h
      injection he with h1 h2
      subst h1 h2
      rw [dec_esc h, Option.isSome_map, List.drop_succ_cons, List.drop_succ_cons, List.drop_succ_cons, List.drop_zero, ih t.length (by subst hn; simp; omega) t rfl]
      have n1 := val_ne hx; have n2 := val_ne hy
      have b1 : (a != 37) = true := bne_iff_ne.2 n1
      have b2 : (d != 37) = true := bne_iff_ne.2 n2
      rw [valid, valid, valid, h, b1, b2]; simp
    | none =>
      by_cases hc : c = 37
      · subst hc; rw [dec_bad r h, valid, h]; rfl
      · rw [dec_plain r hc, Option.isSome_map, ih r.length (by subst hn; simp) r rfl, valid]; simp [hc]
theorem dec_app (s t a : List UInt8) (h : dec s 0 = some a) : dec (s ++ t) 0 = (dec t 0).map (a ++ ·) := by
  induction hn : s.length using Nat.strongRecOn generalizing s a with
  | _ n ih =>
  match s with
  | [] => rw [dec] at h; simp only [Option.some.injEq] at h; subst h; cases ht : dec t 0 <;> simp [ht]
  | c :: r =>
    cases he : esc (c :: r) with
    | some b =>
      obtain ⟨a', d, t', x, y, hl, -⟩ := esc_some he
      rw [dec_esc he] at h
      rw [dec_esc (esc_app he t)]
      injection hl with h1 h2
      subst h1 h2
      simp only [List.drop_succ_cons, List.drop_zero, List.cons_append, Option.map_eq_some_iff] at h ⊢
      obtain ⟨q, hq, rfl⟩ := h
      rw [ih t'.length (by subst hn; simp; omega) t' q hq rfl]
      cases dec t 0 <;> rfl
    | none =>
      by_cases hc : c = 37
      · subst hc; rw [dec_bad r he] at h; cases h
      · rw [dec_plain r hc] at h
        obtain ⟨q, hq, rfl⟩ := Option.map_eq_some_iff.1 h
        rw [List.cons_append, dec_plain _ hc, ih r.length (by subst hn; simp) r q hq rfl]
        cases dec t 0 <;> rfl
theorem enc_cons (S : Nat) (c : UInt8) (l : List UInt8) : enc S (c :: l) = encB S c ++ enc S l := rfl
theorem enc_app (S : Nat) (a b : List UInt8) : enc S (a ++ b) = enc S a ++ enc S b := by simp [enc]
theorem u8_lt (c : UInt8) : c.toNat < 256 := c.toNat_lt
theorem esc_dig (c : UInt8) (r : List UInt8) : esc (37 :: dig (c.toNat / 16) :: dig (c.toNat % 16) :: r) = some c.toNat := by
  have := u8_lt c
  rw [esc_mk _ _ _ _ _ (val_dig _ (by omega)) (val_dig _ (by omega))]
  congr 1; omega
theorem dec_enc (S : Nat) : ∀ l : List UInt8, dec (enc S l) 0 = some l
  | [] => rfl
  | c :: l => by
    rw [enc_cons, encB]
    split
    · rename_i h
      rw [List.cons_append, List.nil_append, dec_plain _ h.1, dec_enc S l]; rfl
    · rw [List.cons_append, List.cons_append, List.cons_append, List.nil_append, dec_esc (esc_dig c _)]
      simp only [List.drop_succ_cons, List.drop_zero, dec_enc S l, Option.map_some, UInt8.ofNat_toNat]
theorem up_enc (S : Nat) : ∀ l : List UInt8, up (enc S l) 0 = enc S l
  | [] => rfl
  | c :: l => by
    rw [enc_cons, encB]
    split
    · rename_i h
      rw [List.cons_append, List.nil_append, up_none (esc_ne h.1 _), up_enc S l]
    · rw [List.cons_append, List.cons_append, List.cons_append, List.nil_append, up_esc (esc_dig c _)]
      simp only [List.drop_succ_cons, List.drop_zero, up_enc S l]
theorem enc_valid (S : Nat) (l : List UInt8) : valid (enc S l) = true := by rw [← dec_valid, dec_enc]; rfl
theorem enc_mem (S : Nat) (l : List UInt8) : ∀ x ∈ enc S l, S.testBit x.toNat = true ∨ x = 37 ∨ (val x.toNat).isSome = true := by
  intro x hx
  obtain ⟨c, -, hc⟩ := List.mem_flatMap.1 hx
  have hlt := u8_lt c
  unfold encB at hc
  split at hc
  · rename_i h; simp at hc; subst hc; exact .inl h.2
  · simp at hc
    rcases hc with rfl | rfl | rfl
    · exact .inr (.inl rfl)
    · exact .inr (.inr (by rw [val_dig _ (by omega)]; rfl))
    · exact .inr (.inr (by rw [val_dig _ (by omega)]; rfl))
theorem encB_len (S : Nat) (c : UInt8) : 1 ≤ (encB S c).length ∧ (encB S c).length ≤ 3 := by unfold encB; split <;> simp
theorem enc_len (S : Nat) : ∀ l : List UInt8, l.length ≤ (enc S l).length ∧ (enc S l).length ≤ 3 * l.length
  | [] => by simp [enc]
  | c :: l => by have := enc_len S l; have := encB_len S c; rw [enc_cons, List.length_append, List.length_cons]; omega
theorem esc_up_tail (c : UInt8) (r : List UInt8) : esc (c :: up r 0) = esc (c :: r) := by
  match r with
  | [] => rfl
  | [a] => rfl
  | a :: b :: t =>
    cases h : esc (a :: b :: t) with
    | some q =>
      obtain ⟨_, _, _, _, _, he, -⟩ := esc_some h
      injection he with h1 _
      subst h1
      rw [up_esc h]
      simp [esc, show (37 : UInt8).toNat = 37 from rfl, val_37]
    | none =>
      rw [up_none h]
      cases h2 : esc (b :: t) with
      | some q =>
        obtain ⟨_, _, _, _, _, he, -⟩ := esc_some h2
        injection he with h1 _
        subst h1
        rw [up_esc h2]
        simp [esc]
      | none => rw [up_none h2]; simp [esc]
theorem up_len (l : List UInt8) : (up l 0).length = l.length := by
  induction hn : l.length using Nat.strongRecOn generalizing l with
  | _ n ih =>
  match l with
  | [] => subst hn; rfl
  | c :: r =>
    cases h : esc (c :: r) with
    | some b =>
      obtain ⟨a, d, t, x, y, he, -⟩ := esc_some h
      injection he with h1 h2
      subst h1 h2
      rw [up_esc h]
      simp only [List.drop_succ_cons, List.drop_zero, List.length_cons] at hn ⊢
      rw [ih t.length (by omega) t rfl]; omega
    | none => rw [up_none h, List.length_cons, ih r.length (by subst hn; simp) r rfl, ← hn, List.length_cons]
theorem esc_fix {l : List UInt8} {b : Nat} (h : esc l = some b) (r : List UInt8) : esc (37 :: dig (b / 16) :: dig (b % 16) :: r) = some b := by
  have := esc_lt h
  rw [esc_mk _ _ _ _ _ (val_dig _ (by omega)) (val_dig _ (by omega))]
  congr 1; omega
theorem dec_up (l : List UInt8) : dec (up l 0) 0 = dec l 0 := by
  induction hn : l.length using Nat.strongRecOn generalizing l with
  | _ n ih =>
  match l with
  | [] => rfl
  | c :: r =>
    cases h : esc (c :: r) with
    | some b =>
      rw [up_esc h, dec_esc h, dec_esc (esc_fix h _)]
      simp only [List.drop_succ_cons, List.drop_zero]
      rw [ih _ (by subst hn; simp; omega) _ rfl]
    | none =>
      rw [up_none h]
      by_cases hc : c = 37
      · subst hc; rw [dec_bad r h, dec_bad _ ((esc_up_tail 37 r).trans h)]
      · rw [dec_plain _ hc, dec_plain _ hc, ih r.length (by subst hn; simp) r rfl]
theorem valid_up (l : List UInt8) : valid (up l 0) = valid l := by rw [← dec_valid, ← dec_valid, dec_up]
theorem up_up (l : List UInt8) : up (up l 0) 0 = up l 0 := by
  induction hn : l.length using Nat.strongRecOn generalizing l with
  | _ n ih =>
  match l with
  | [] => rfl
  | c :: r =>
    cases h : esc (c :: r) with
    | some b =>
      rw [up_esc h, up_esc (esc_fix h _)]
      simp only [List.drop_succ_cons, List.drop_zero]
      rw [ih _ (by subst hn; simp; omega) _ rfl]
    | none => rw [up_none h, up_none ((esc_up_tail c r).trans h), ih r.length (by subst hn; simp) r rfl]
/-- A byte of Upper beside the byte that stood there. -/
def near (u s : UInt8) : Prop := u = s ∨ 65 ≤ u.toNat ∧ u.toNat ≤ 70 ∧ s.toNat = u.toNat + 32
theorem near_dig (a : UInt8) (x : Nat) (h : val a.toNat = some x) : near (dig x) a := by
  have key : ∀ n, n < 256 → ∀ x, val n = some x → (dig x).toNat = n ∨ 65 ≤ (dig x).toNat ∧ (dig x).toNat ≤ 70 ∧ n = (dig x).toNat + 32 := by
    intro n hn x hx
    have hx16 := val_lt hx
    have : ∀ x, x < 16 → (dig x).toNat = if x < 10 then 48 + x else 55 + x := by decide
    rw [this x hx16]
    unfold val at hx
    split at hx
    · simp at hx; subst hx; left; rw [if_pos (by omega)]; omega
    · split at hx
      · simp at hx; subst hx; right; rw [if_neg (by omega)]; omega
      · split at hx
        · simp at hx; subst hx; left; rw [if_neg (by omega)]; omega
        · simp at hx
  rcases key a.toNat (u8_lt a) x h with h | h
  · exact .inl (UInt8.toNat_inj.1 h)
  · exact .inr h
theorem up_near (l : List UInt8) (i : Nat) (hi : i < l.length) : near ((up l 0).getD i 0) (l.getD i 0) := by
  induction hn : l.length using Nat.strongRecOn generalizing l i with
  | _ n ih =>
  match l with
  | [] => simp at hi
  | c :: r =>
    cases h : esc (c :: r) with
    | some b =>
      obtain ⟨a, d, t, x, y, he, hx, hy, rfl, hx1, hy1⟩ := esc_some h
      injection he with h1 h2
      subst h1 h2
      rw [up_esc h]
      have e1 : (16 * x + y) / 16 = x := by omega
      have e2 : (16 * x + y) % 16 = y := by omega
      rw [e1, e2]
      match i with
      | 0 => exact .inl rfl
      | 1 => exact near_dig a x hx
      | 2 => exact near_dig d y hy
      | i + 3 =>
        have := ih t.length (by subst hn; simp; omega) t i (by simpa using hi) rfl
        simpa using this
    | none =>
      rw [up_none h]
      match i with
      | 0 => exact .inl rfl
      | i + 1 => simpa using ih r.length (by subst hn; simp) r i (by simpa using hi) rfl
end Pct
end Go.Proofs.Ytbmoanhdpnaocaa
