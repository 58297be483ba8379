/- Bytes that a relation takes for one: heads, classes numbered by their least bytes. Plain arithmetic; no program. -/
import Derived.Test.YtdhnaldjofpeeaaDoorSets
namespace Go.Proofs.YtdhnaldjofpeeaaDoor
namespace Cls
structure Eqv (E : Nat → Nat → Bool) : Prop where
  refl : ∀ a, E a a = true
  symm : ∀ a b, E a b = true → E b a = true
  trans : ∀ a b c, E a b = true → E b c = true → E a c = true
def head (E : Nat → Nat → Bool) (c : Nat) : Bool := (List.range c).all fun d => !E d c
def nh (E : Nat → Nat → Bool) : Nat → Nat
  | 0 => 0
  | c + 1 => nh E c + (head E c).toNat
def fst (E : Nat → Nat → Bool) (c : Nat) : Nat := ((List.range c).find? fun d => E d c).getD c
def cls (E : Nat → Nat → Bool) (c : Nat) : Nat := nh E (fst E c)
theorem head_iff (E : Nat → Nat → Bool) (c : Nat) : head E c = true ↔ ∀ d, d < c → E d c = false := by
  unfold head; rw [List.all_eq_true]; simp
theorem fst_spec (E : Nat → Nat → Bool) (hE : Eqv E) (c : Nat) : fst E c ≤ c ∧ E (fst E c) c = true ∧ ∀ d, d < fst E c → E d c = false := by
  unfold fst
  cases h : (List.range c).find? fun d => E d c with
  | none =>
    simp at h
    exact ⟨Nat.le_refl _, hE.refl _, fun d hd => h d hd⟩
  | some d =>
    rw [List.find?_range_eq_some] at h
    simp only [Option.getD_some]
    obtain ⟨h1, h2, h3⟩ := h
    have h2' : d < c := by simpa using h2
    exact ⟨Nat.le_of_lt h2', h1, fun e he => by simpa using h3 e he⟩
theorem E_congr {E : Nat → Nat → Bool} (hE : Eqv E) {a b : Nat} (h : E a b = true) (d : Nat) : E d a = E d b := by
  cases h1 : E d a <;> cases h2 : E d b <;> try rfl
  · rw [hE.trans _ _ _ h2 (hE.symm _ _ h)] at h1; cases h1
  · rw [hE.trans _ _ _ h1 h] at h2; cases h2
theorem head_fst (E : Nat → Nat → Bool) (hE : Eqv E) (c : Nat) : head E (fst E c) = true := by
  obtain ⟨-, h2, h3⟩ := fst_spec E hE c
  rw [head_iff]
  intro d hd
  rw [E_congr hE h2]; exact h3 d hd
theorem fst_head (E : Nat → Nat → Bool) (hE : Eqv E) (c : Nat) (h : head E c = true) : fst E c = c := by
  obtain ⟨h1, h2, -⟩ := fst_spec E hE c
  rw [head_iff] at h
  rcases Nat.lt_or_eq_of_le h1 with hl | he
  · rw [h _ hl] at h2; cases h2
  · exact he
theorem fst_lt (E : Nat → Nat → Bool) (hE : Eqv E) (c : Nat) (h : head E c = false) : fst E c < c := by
  obtain ⟨h1, -, -⟩ := fst_spec E hE c
  rcases Nat.lt_or_eq_of_le h1 with hl | he
  · exact hl
  · have := head_fst E hE c; rw [he, h] at this; cases this
theorem nh_mono (E : Nat → Nat → Bool) {a b : Nat} (h : a ≤ b) : nh E a ≤ nh E b := by
  induction b with
  | zero => have : a = 0 := by omega
            subst this; exact Nat.le_refl _
  | succ b ih =>
    rcases Nat.lt_or_eq_of_le h with hl | rfl
    · have := ih (by omega); simp only [nh]; omega
    · exact Nat.le_refl _
theorem nh_le (E : Nat → Nat → Bool) (c : Nat) : nh E c ≤ c := by
  induction c with
  | zero => exact Nat.le_refl _
  | succ c ih => simp only [nh]; have := Bool.toNat_le (head E c); omega
theorem nh_head (E : Nat → Nat → Bool) (c : Nat) (h : head E c = true) : nh E (c + 1) = nh E c + 1 := by simp [nh, h]
theorem nh_not (E : Nat → Nat → Bool) (c : Nat) (h : head E c = false) : nh E (c + 1) = nh E c := by simp [nh, h]
theorem nh_lt (E : Nat → Nat → Bool) {a b : Nat} (h : head E a = true) (hb : a < b) : nh E a < nh E b := by
  have := nh_mono E (show a + 1 ≤ b from hb)
  rw [nh_head E a h] at this; omega
theorem nh_inj (E : Nat → Nat → Bool) {a b : Nat} (ha : head E a = true) (hb : head E b = true) (h : nh E a = nh E b) : a = b := by
  rcases Nat.lt_trichotomy a b with hl | he | hl
  · have := nh_lt E ha hl; omega
  · exact he
  · have := nh_lt E hb hl; omega
theorem cls_head (E : Nat → Nat → Bool) (hE : Eqv E) (c : Nat) (h : head E c = true) : cls E c = nh E c := by unfold cls; rw [fst_head E hE c h]
theorem cls_lt_nh (E : Nat → Nat → Bool) (hE : Eqv E) (c b : Nat) (hb : c < b) : cls E c < nh E b := by
  obtain ⟨h1, -, -⟩ := fst_spec E hE c
  exact nh_lt E (head_fst E hE c) (by omega)
theorem cls_lt (E : Nat → Nat → Bool) (hE : Eqv E) (c : Nat) (h : head E c = false) : cls E c < nh E c := nh_lt E (head_fst E hE c) (fst_lt E hE c h)
theorem cls_le (E : Nat → Nat → Bool) (hE : Eqv E) (c : Nat) : cls E c ≤ c := Nat.le_trans (nh_le E _) (fst_spec E hE c).1
theorem fst_eq (E : Nat → Nat → Bool) (hE : Eqv E) {a b : Nat} (h : E a b = true) : fst E a = fst E b := by
  obtain ⟨-, a2, a3⟩ := fst_spec E hE a
  obtain ⟨-, b2, b3⟩ := fst_spec E hE b
  rcases Nat.lt_trichotomy (fst E a) (fst E b) with hl | he | hl
  · have := b3 _ hl; rw [hE.trans _ _ _ a2 h] at this; cases this
  · exact he
  · have := a3 _ hl; rw [hE.trans _ _ _ b2 (hE.symm _ _ h)] at this; cases this
theorem cls_eq (E : Nat → Nat → Bool) (hE : Eqv E) (a b : Nat) : cls E a = cls E b ↔ E a b = true := by
  constructor
  · intro h
    have := nh_inj E (head_fst E hE a) (head_fst E hE b) h
    obtain ⟨-, a2, -⟩ := fst_spec E hE a
    obtain ⟨-, b2, -⟩ := fst_spec E hE b
    rw [this] at a2
    exact hE.trans _ _ _ (hE.symm _ _ a2) b2
  · intro h; unfold cls; rw [fst_eq E hE h]
theorem head_congr {E F : Nat → Nat → Bool} {N : Nat} (h : ∀ a b, a < N → b < N → E a b = F a b) (c : Nat) (hc : c < N) : head E c = head F c := by
  rw [Bool.eq_iff_iff, head_iff, head_iff]
  constructor <;> intro g d hd
  · rw [← h d c (by omega) hc]; exact g d hd
  · rw [h d c (by omega) hc]; exact g d hd
theorem nh_congr {E F : Nat → Nat → Bool} {N : Nat} (h : ∀ a b, a < N → b < N → E a b = F a b) (c : Nat) (hc : c ≤ N) : nh E c = nh F c := by
  induction c with
  | zero => rfl
  | succ c ih => simp only [nh]; rw [ih (by omega), head_congr h c (by omega)]
theorem cls_congr {E F : Nat → Nat → Bool} {N : Nat} (h : ∀ a b, a < N → b < N → E a b = F a b) (c : Nat) (hc : c < N) : cls E c = cls F c := by
  have hf : fst E c = fst F c := by
    unfold fst
    have : (List.range c).find? (fun d => E d c) = (List.range c).find? (fun d => F d c) := by
      have key : ∀ l : List Nat, (∀ d ∈ l, d < c) → l.find? (fun d => E d c) = l.find? (fun d => F d c) := by
        intro l
        induction l with
        | nil => intro _; rfl
        | cons x l ih =>
          intro hl
          rw [List.find?_cons, List.find?_cons, h x c (by have := hl x (by simp); omega) hc, ih (fun d hd => hl d (by simp [hd]))]
      exact key _ (fun d hd => by simpa using hd)
    rw [this]
  unfold cls
  have hle : fst F c ≤ c := by
    unfold fst
    cases hq : (List.range c).find? fun d => F d c with
    | none => exact Nat.le_refl _
    | some d => have := List.mem_of_find?_eq_some hq; simp at this; simp; omega
  rw [hf, nh_congr h _ (by omega)]
/-- Two bytes that no set of L tells apart. -/
def same (L : List Nat) (a b : Nat) : Bool := L.all fun S => S.testBit a == S.testBit b
theorem same_iff (L : List Nat) (a b : Nat) : same L a b = true ↔ ∀ S ∈ L, S.testBit a = S.testBit b := by
  unfold same; rw [List.all_eq_true]; simp
theorem same_eqv (L : List Nat) : Eqv (same L) :=
  ⟨fun a => (same_iff L a a).2 (fun _ _ => rfl), fun a b h => (same_iff L b a).2 (fun S hS => ((same_iff L a b).1 h S hS).symm),
   fun a b c h g => (same_iff L a c).2 (fun S hS => ((same_iff L a b).1 h S hS).trans ((same_iff L b c).1 g S hS))⟩
theorem same_append (L M : List Nat) (a b : Nat) : same (L ++ M) a b = (same L a b && same M a b) := by unfold same; rw [List.all_append]
/-- The relation of a key. -/
def byKey {α : Type} [DecidableEq α] (f : Nat → α) (a b : Nat) : Bool := decide (f a = f b)
theorem byKey_eqv {α : Type} [DecidableEq α] (f : Nat → α) : Eqv (byKey f) :=
  ⟨fun a => by simp [byKey], fun a b h => by simp [byKey] at *; exact h.symm, fun a b c h g => by simp [byKey] at *; exact h.trans g⟩
/-- The bits of c in the first j sets of L. -/
def inb (L : List Nat) (c : Nat) : Nat → Nat
  | 0 => 0
  | j + 1 => if (L.getD j 0).testBit c then inb L c j ||| 2 ^ j else inb L c j
theorem inb_testBit (L : List Nat) (c i : Nat) : ∀ j, (inb L c j).testBit i = (decide (i < j) && (L.getD i 0).testBit c)
  | 0 => by simp [inb]
  | j + 1 => by
    have ih := inb_testBit L c i j
    simp only [inb]
    split
    · rename_i h
      rw [Nat.testBit_or, ih, Nat.testBit_two_pow]
      by_cases hij : j = i
      · subst hij; rw [h]; simp
      · have : decide (i < j + 1) = decide (i < j) := by rw [decide_eq_decide]; omega
        rw [this]; simp [hij]
    · rename_i h
      rw [ih]
      by_cases hij : i = j
      · subst hij; simp at h; simp [h]
      · have : decide (i < j + 1) = decide (i < j) := by rw [decide_eq_decide]; omega
        rw [this]
theorem inb_lt (L : List Nat) (c j : Nat) : inb L c j < 2 ^ j := by
  apply Nat.lt_pow_two_of_testBit
  intro i hi
  rw [inb_testBit]; simp; omega
theorem inb_eq (L : List Nat) (a b : Nat) : inb L a L.length = inb L b L.length ↔ same L a b = true := by
  rw [same_iff]
  constructor
  · intro h S hS
    obtain ⟨i, hi, rfl⟩ := List.mem_iff_getElem.1 hS
    have := congrArg (fun x => x.testBit i) h
    simp only [inb_testBit, hi, decide_true, Bool.true_and] at this
    rw [List.getD_eq_getElem?_getD, List.getElem?_eq_getElem hi] at this
    exact this
  · intro h
    apply Nat.eq_of_testBit_eq
    intro i
    rw [inb_testBit, inb_testBit]
    by_cases hi : i < L.length
    · rw [List.getD_eq_getElem?_getD, List.getElem?_eq_getElem hi]
      simp only [Option.getD_some]
      rw [h _ (List.getElem_mem hi)]
    · simp [hi]
/-- The key of a byte: its class so far, and its bits. -/
def keyC (E : Nat → Nat → Bool) (L : List Nat) (c : Nat) : Nat × Nat := (cls E c, inb L c L.length)
theorem byKey_keyC (E : Nat → Nat → Bool) (hE : Eqv E) (L : List Nat) (a b : Nat) : byKey (keyC E L) a b = (E a b && same L a b) := by
  rw [Bool.eq_iff_iff]
  unfold byKey keyC
  rw [decide_eq_true_iff, Prod.mk.injEq, cls_eq E hE, inb_eq, Bool.and_eq_true]
/-- The heads below c. -/
def heads (E : Nat → Nat → Bool) (c : Nat) : List Nat := (List.range c).filter (head E)
theorem heads_succ (E : Nat → Nat → Bool) (c : Nat) : heads E (c + 1) = if head E c then heads E c ++ [c] else heads E c := by
  unfold heads
  rw [List.range_succ, List.filter_append]
  cases h : head E c <;> simp [h]
theorem heads_length (E : Nat → Nat → Bool) : ∀ c, (heads E c).length = nh E c
  | 0 => rfl
  | c + 1 => by
    rw [heads_succ]
    cases h : head E c
    · simp [nh, h, heads_length E c]
    · simp [nh, h, heads_length E c]
theorem heads_at (E : Nat → Nat → Bool) : ∀ (c d : Nat), d < c → head E d = true → (heads E c)[nh E d]? = some d
  | 0, d, h, _ => by omega
  | c + 1, d, h, hd => by
    rw [heads_succ]
    have key : d < c → (heads E c)[nh E d]? = some d := fun h' => heads_at E c d h' hd
    have hl := heads_length E c
    by_cases hdc : d = c
    · subst hdc
      rw [if_pos hd, List.getElem?_append_right (by omega), hl]; simp
    · have := key (by omega)
      split
      · rw [List.getElem?_append_left (by rw [hl]; exact nh_lt E hd (by omega))]; exact this
      · exact this
theorem mem_heads (E : Nat → Nat → Bool) (c d : Nat) : d ∈ heads E c ↔ d < c ∧ head E d = true := by simp [heads]
theorem heads_idx (E : Nat → Nat → Bool) (c i : Nat) (h : i < (heads E c).length) : nh E (heads E c)[i] = i := by
  have hm := (mem_heads E c _).1 (List.getElem_mem h)
  have h1 := heads_at E c _ hm.1 hm.2
  have hlt : nh E (heads E c)[i] < (heads E c).length := by rw [heads_length]; exact nh_lt E hm.2 hm.1
  rw [List.getElem?_eq_getElem hlt] at h1
  have hs : (heads E c).Pairwise (· < ·) := List.Pairwise.filter _ List.pairwise_lt_range
  have h2 := Option.some.inj h1
  rcases Nat.lt_trichotomy (nh E (heads E c)[i]) i with hl | he | hl
  · have := List.pairwise_iff_getElem.1 hs _ _ hlt h hl; omega
  · exact he
  · have := List.pairwise_iff_getElem.1 hs _ _ h hlt hl; omega
/-- What 'Right' counts: how many classes when c bytes are over; none, if a number is out of its row. -/
def rgo (of : Nat → Nat) : Nat → Option Nat
  | 0 => some 0
  | c + 1 => match rgo of c with
    | none => none
    | some n => if n < of c then none else if of c = n then some (n + 1) else some n
theorem rgo_cls (E : Nat → Nat → Bool) (hE : Eqv E) : ∀ c, rgo (cls E) c = some (nh E c)
  | 0 => rfl
  | c + 1 => by
    simp only [rgo, rgo_cls E hE c]
    cases h : head E c
    · have := cls_lt E hE c h
      rw [if_neg (by omega), if_neg (by omega), nh_not E c h]
    · have := cls_head E hE c h
      rw [if_neg (by omega), if_pos this, nh_head E c h]
theorem rgo_congr (of g : Nat → Nat) : ∀ c, (∀ d, d < c → of d = g d) → rgo of c = rgo g c
  | 0, _ => rfl
  | c + 1, h => by simp only [rgo]; rw [rgo_congr of g c (fun d hd => h d (by omega)), h c (by omega)]
/-- The keys of the heads below c. -/
def keysTo {α : Type} [DecidableEq α] (f : Nat → α) (c : Nat) : List α := (heads (byKey f) c).map f
theorem keysTo_length {α : Type} [DecidableEq α] (f : Nat → α) (c : Nat) : (keysTo f c).length = nh (byKey f) c := by unfold keysTo; rw [List.length_map, heads_length]
theorem keysTo_new {α : Type} [DecidableEq α] (f : Nat → α) (c : Nat) (h : head (byKey f) c = true) : keysTo f (c + 1) = keysTo f c ++ [f c] := by
  unfold keysTo; rw [heads_succ, if_pos h]; simp
theorem keysTo_old {α : Type} [DecidableEq α] (f : Nat → α) (c : Nat) (h : head (byKey f) c = false) : keysTo f (c + 1) = keysTo f c := by
  unfold keysTo; rw [heads_succ, h]; simp
theorem keysTo_none {α : Type} [DecidableEq α] (f : Nat → α) (c : Nat) (h : head (byKey f) c = true) : (keysTo f c).findIdx? (· == f c) = none := by
  rw [List.findIdx?_eq_none_iff]
  intro x hx
  unfold keysTo at hx
  obtain ⟨d, hd, rfl⟩ := List.mem_map.1 hx
  have := (head_iff _ _).1 h d ((mem_heads _ _ _).1 hd).1
  simp [byKey] at this
  simp [this]
theorem keysTo_some {α : Type} [DecidableEq α] (f : Nat → α) (c : Nat) (h : head (byKey f) c = false) : (keysTo f c).findIdx? (· == f c) = some (cls (byKey f) c) := by
  have hE := byKey_eqv f
  have hlt := cls_lt _ hE c h
  obtain ⟨-, h2, h3⟩ := fst_spec _ hE c
  have hfl := fst_lt _ hE c h
  have hat := heads_at (byKey f) c _ hfl (head_fst _ hE c)
  rw [List.findIdx?_eq_some_iff_getElem]
  have hl : cls (byKey f) c < (keysTo f c).length := by rw [keysTo_length]; exact hlt
  refine ⟨hl, ?_, ?_⟩
  · have : (keysTo f c)[cls (byKey f) c]? = some (f (fst (byKey f) c)) := by
      unfold keysTo; rw [List.getElem?_map]; unfold cls; rw [hat]; rfl
    rw [List.getElem?_eq_getElem hl] at this
    rw [Option.some.inj this]
    simpa [byKey] using h2
  · intro j hj
    have hjl : j < (heads (byKey f) c).length := by rw [heads_length]; omega
    have e : (keysTo f c)[j]'(by rw [keysTo_length]; omega) = f (heads (byKey f) c)[j] := by simp [keysTo]
    rw [e]
    have hm := (mem_heads _ _ _).1 (List.getElem_mem hjl)
    have hi := heads_idx (byKey f) c j hjl
    have hlt2 : (heads (byKey f) c)[j] < fst (byKey f) c := by
      rcases Nat.lt_or_ge (heads (byKey f) c)[j] (fst (byKey f) c) with g | g
      · exact g
      · have := nh_mono (byKey f) g; unfold cls at hj; omega
    have := h3 _ hlt2
    simp [byKey] at this
    simp [this]
end Cls
end Go.Proofs.YtdhnaldjofpeeaaDoor
