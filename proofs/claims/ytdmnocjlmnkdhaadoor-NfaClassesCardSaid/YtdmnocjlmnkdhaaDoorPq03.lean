/- Several texts in one. -/
import Derived.Test.YtdmnocjlmnkdhaaDoorPq00
import Derived.Test.YtdmnocjlmnkdhaaDoorPq02
import Derived.Deep.MidRow
import Derived.Deep.WholeRow
import Derived.WalkSpells
import Derived.Deep.Quiet
import Derived.Deep.QuietTactic
import Derived.BigQuiet
namespace Go.Proofs.YtdmnocjlmnkdhaaDoor
namespace Cls
structure Eqv (E : Nat → Nat → Bool) : Prop where
  refl : ∀ a, E a a = true
  symm : ∀ a b, E a b = true → E b a = true
  trans : ∀ a b c, E a b = true → E b c = true → E a c = true
def head (E : Nat → Nat → Bool) (c : Nat) : Bool := (List.range c).all fun d => !E d c
def nh (E : Nat → Nat → Bool) : Nat → Nat
  | 0 => 0
  | c + 1 => nh E c + (head E c).toNat
def fst (E : Nat → Nat → Bool) (c : Nat) : Nat := ((List.range c).find? fun d => E d c).getD c
def cls (E : Nat → Nat → Bool) (c : Nat) : Nat := nh E (fst E c)
theorem head_iff (E : Nat → Nat → Bool) (c : Nat) : head E c = true ↔ ∀ d, d < c → E d c = false := by
  unfold head; rw [List.all_eq_true]; simp
theorem fst_spec (E : Nat → Nat → Bool) (hE : Eqv E) (c : Nat) : fst E c ≤ c ∧ E (fst E c) c = true ∧ ∀ d, d < fst E c → E d c = false := by
  unfold fst
  cases h : (List.range c).find? fun d => E d c with
  | none =>
    simp at h
    exact ⟨Nat.le_refl _, hE.refl _, fun d hd => h d hd⟩
  | some d =>
    rw [List.find?_range_eq_some] at h
    simp only [Option.getD_some]
    obtain ⟨h1, h2, h3⟩ := h
    have h2' : d < c := by simpa using h2
    exact ⟨Nat.le_of_lt h2', h1, fun e he => by simpa using h3 e he⟩
theorem E_congr {E : Nat → Nat → Bool} (hE : Eqv E) {a b : Nat} (h : E a b = true) (d : Nat) : E d a = E d b := by
  cases h1 : E d a <;> cases h2 : E d b <;> try rfl
  · rw [hE.trans _ _ _ h2 (hE.symm _ _ h)] at h1; cases h1
  · rw [hE.trans _ _ _ h1 h] at h2; cases h2
theorem head_fst (E : Nat → Nat → Bool) (hE : Eqv E) (c : Nat) : head E (fst E c) = true := by
  obtain ⟨-, h2, h3⟩ := fst_spec E hE c
  rw [head_iff]
  intro d hd
  rw [E_congr hE h2]; exact h3 d hd
theorem fst_head (E : Nat → Nat → Bool) (hE : Eqv E) (c : Nat) (h : head E c = true) : fst E c = c := by
  obtain ⟨h1, h2, -⟩ := fst_spec E hE c
  rw [head_iff] at h
  rcases Nat.lt_or_eq_of_le h1 with hl | he
  · rw [h _ hl] at h2; cases h2
  · exact he
theorem fst_lt (E : Nat → Nat → Bool) (hE : Eqv E) (c : Nat) (h : head E c = false) : fst E c < c := by
  obtain ⟨h1, -, -⟩ := fst_spec E hE c
  rcases Nat.lt_or_eq_of_le h1 with hl | he
  · exact hl
  · have := head_fst E hE c; rw [he, h] at this; cases this
theorem nh_mono (E : Nat → Nat → Bool) {a b : Nat} (h : a ≤ b) : nh E a ≤ nh E b := by
  induction b with
  | zero => have : a = 0 := by omega
            subst this; exact Nat.le_refl _
  | succ b ih =>
    rcases Nat.lt_or_eq_of_le h with hl | rfl
    · have := ih (by omega); simp only [nh]; omega
    · exact Nat.le_refl _
theorem nh_le (E : Nat → Nat → Bool) (c : Nat) : nh E c ≤ c := by
  induction c with
  | zero => exact Nat.le_refl _
  | succ c ih => simp only [nh]; have := Bool.toNat_le (head E c); omega
theorem nh_head (E : Nat → Nat → Bool) (c : Nat) (h : head E c = true) : nh E (c + 1) = nh E c + 1 := by simp [nh, h]
theorem nh_not (E : Nat → Nat → Bool) (c : Nat) (h : head E c = false) : nh E (c + 1) = nh E c := by simp [nh, h]
theorem nh_lt (E : Nat → Nat → Bool) {a b : Nat} (h : head E a = true) (hb : a < b) : nh E a < nh E b := by
  have := nh_mono E (show a + 1 ≤ b from hb)
  rw [nh_head E a h] at this; omega
theorem nh_inj (E : Nat → Nat → Bool) {a b : Nat} (ha : head E a = true) (hb : head E b = true) (h : nh E a = nh E b) : a = b := by
  rcases Nat.lt_trichotomy a b with hl | he | hl
  · have := nh_lt E ha hl; omega
  · exact he
  · have := nh_lt E hb hl; omega
theorem cls_head (E : Nat → Nat → Bool) (hE : Eqv E) (c : Nat) (h : head E c = true) : cls E c = nh E c := by unfold cls; rw [fst_head E hE c h]
theorem cls_lt_nh (E : Nat → Nat → Bool) (hE : Eqv E) (c b : Nat) (hb : c < b) : cls E c < nh E b := by
  obtain ⟨h1, -, -⟩ := fst_spec E hE c
  exact nh_lt E (head_fst E hE c) (by omega)
theorem cls_lt (E : Nat → Nat → Bool) (hE : Eqv E) (c : Nat) (h : head E c = false) : cls E c < nh E c := nh_lt E (head_fst E hE c) (fst_lt E hE c h)
theorem cls_le (E : Nat → Nat → Bool) (hE : Eqv E) (c : Nat) : cls E c ≤ c := Nat.le_trans (nh_le E _) (fst_spec E hE c).1
theorem fst_eq (E : Nat → Nat → Bool) (hE : Eqv E) {a b : Nat} (h : E a b = true) : fst E a = fst E b := by
  obtain ⟨-, a2, a3⟩ := fst_spec E hE a
  obtain ⟨-, b2, b3⟩ := fst_spec E hE b
  rcases Nat.lt_trichotomy (fst E a) (fst E b) with hl | he | hl
  · have := b3 _ hl; rw [hE.trans _ _ _ a2 h] at this; cases this
  · exact he
  · have := a3 _ hl; rw [hE.trans _ _ _ b2 (hE.symm _ _ h)] at this; cases this
theorem cls_eq (E : Nat → Nat → Bool) (hE : Eqv E) (a b : Nat) : cls E a = cls E b ↔ E a b = true := by
  constructor
  · intro h
    have := nh_inj E (head_fst E hE a) (head_fst E hE b) h
    obtain ⟨-, a2, -⟩ := fst_spec E hE a
    obtain ⟨-, b2, -⟩ := fst_spec E hE b
    rw [this] at a2
    exact hE.trans _ _ _ (hE.symm _ _ a2) b2
  · intro h; unfold cls; rw [fst_eq E hE h]
theorem head_congr {E F : Nat → Nat → Bool} {N : Nat} (h : ∀ a b, a < N → b < N → E a b = F a b) (c : Nat) (hc : c < N) : head E c = head F c := by
  rw [Bool.eq_iff_iff, head_iff, head_iff]
  constructor <;> intro g d hd
  · rw [← h d c (by omega) hc]; exact g d hd
  · rw [h d c (by omega) hc]; exact g d hd
theorem nh_congr {E F : Nat → Nat → Bool} {N : Nat} (h : ∀ a b, a < N → b < N → E a b = F a b) (c : Nat) (hc : c ≤ N) : nh E c = nh F c := by
  induction c with
  | zero => rfl
  | succ c ih => simp only [nh]; rw [ih (by omega), head_congr h c (by omega)]
theorem cls_congr {E F : Nat → Nat → Bool} {N : Nat} (h : ∀ a b, a < N → b < N → E a b = F a b) (c : Nat) (hc : c < N) : cls E c = cls F c := by
  have hf : fst E c = fst F c := by
    unfold fst
    have : (List.range c).find? (fun d => E d c) = (List.range c).find? (fun d => F d c) := by
      have key : ∀ l : List Nat, (∀ d ∈ l, d < c) → l.find? (fun d => E d c) = l.find? (fun d => F d c) := by
        intro l
        induction l with
        | nil => intro _; rfl
        | cons x l ih =>
          intro hl
          rw [List.find?_cons, List.find?_cons, h x c (by have := hl x (by simp); omega) hc, ih (fun d hd => hl d (by simp [hd]))]
      exact key _ (fun d hd => by simpa using hd)
    rw [this]
  unfold cls
  have hle : fst F c ≤ c := by
    unfold fst
    cases hq : (List.range c).find? fun d => F d c with
    | none => exact Nat.le_refl _
    | some d => have := List.mem_of_find?_eq_some hq; simp at this; simp; omega
  rw [hf, nh_congr h _ (by omega)]
/-- Two bytes that no set of L tells apart. -/
def same (L : List Nat) (a b : Nat) : Bool := L.all fun S => S.testBit a == S.testBit b
theorem same_iff (L : List Nat) (a b : Nat) : same L a b = true ↔ ∀ S ∈ L, S.testBit a = S.testBit b := by
  unfold same; rw [List.all_eq_true]; simp
theorem same_eqv (L : List Nat) : Eqv (same L) :=
  ⟨fun a => (same_iff L a a).2 (fun _ _ => rfl), fun a b h => (same_iff L b a).2 (fun S hS => ((same_iff L a b).1 h S hS).symm),
   fun a b c h g => (same_iff L a c).2 (fun S hS => ((same_iff L a b).1 h S hS).trans ((same_iff L b c).1 g S hS))⟩
theorem same_append (L M : List Nat) (a b : Nat) : same (L ++ M) a b = (same L a b && same M a b) := by unfold same; rw [List.all_append]
/-- The relation of a key. -/
def byKey {α : Type} [DecidableEq α] (f : Nat → α) (a b : Nat) : Bool := decide (f a = f b)
theorem byKey_eqv {α : Type} [DecidableEq α] (f : Nat → α) : Eqv (byKey f) :=
  ⟨fun a => by simp [byKey], fun a b h => by simp [byKey] at *; exact h.symm, fun a b c h g => by simp [byKey] at *; exact h.trans g⟩
/-- The bits of c in the first j sets of L. -/
def inb (L : List Nat) (c : Nat) : Nat → Nat
  | 0 => 0
  | j + 1 => if (L.getD j 0).testBit c then inb L c j ||| 2 ^ j else inb L c j
theorem inb_testBit (L : List Nat) (c i : Nat) : ∀ j, (inb L c j).testBit i = (decide (i < j) && (L.getD i 0).testBit c)
  | 0 => by simp [inb]
  | j + 1 => by
    have ih := inb_testBit L c i j
    simp only [inb]
    split
    · rename_i h
      rw [Nat.testBit_or, ih, Nat.testBit_two_pow]
      by_cases hij : j = i
      · subst hij; rw [h]; simp
      · have : decide (i < j + 1) = decide (i < j) := by rw [decide_eq_decide]; omega
        rw [this]; simp [hij]
    · rename_i h
      rw [ih]
      by_cases hij : i = j
      · subst hij; simp at h; simp [h]
      · have : decide (i < j + 1) = decide (i < j) := by rw [decide_eq_decide]; omega
        rw [this]
theorem inb_lt (L : List Nat) (c j : Nat) : inb L c j < 2 ^ j := by
  apply Nat.lt_pow_two_of_testBit
  intro i hi
  rw [inb_testBit]; simp; omega
theorem inb_eq (L : List Nat) (a b : Nat) : inb L a L.length = inb L b L.length ↔ same L a b = true := by
  rw [same_iff]
  constructor
  · intro h S hS
    obtain ⟨i, hi, rfl⟩ := List.mem_iff_getElem.1 hS
    have := congrArg (fun x => x.testBit i) h
    simp only [inb_testBit, hi, decide_true, Bool.true_and] at this
    rw [List.getD_eq_getElem?_getD, List.getElem?_eq_getElem hi] at this
    exact this
  · intro h
    apply Nat.eq_of_testBit_eq
    intro i
    rw [inb_testBit, inb_testBit]
    by_cases hi : i < L.length
    · rw [List.getD_eq_getElem?_getD, List.getElem?_eq_getElem hi]
      simp only [Option.getD_some]
      rw [h _ (List.getElem_mem hi)]
    · simp [hi]
/-- The key of a byte: its class so far, and its bits. -/
def keyC (E : Nat → Nat → Bool) (L : List Nat) (c : Nat) : Nat × Nat := (cls E c, inb L c L.length)
theorem byKey_keyC (E : Nat → Nat → Bool) (hE : Eqv E) (L : List Nat) (a b : Nat) : byKey (keyC E L) a b = (E a b && same L a b) := by
  rw [Bool.eq_iff_iff]
  unfold byKey keyC
  rw [decide_eq_true_iff, Prod.mk.injEq, cls_eq E hE, inb_eq, Bool.and_eq_true]
/-- The heads below c. -/
def heads (E : Nat → Nat → Bool) (c : Nat) : List Nat := (List.range c).filter (head E)
theorem heads_succ (E : Nat → Nat → Bool) (c : Nat) : heads E (c + 1) = if head E c then heads E c ++ [c] else heads E c := by
  unfold heads
  rw [List.range_succ, List.filter_append]
  cases h : head E c <;> simp [h]
theorem heads_length (E : Nat → Nat → Bool) : ∀ c, (heads E c).length = nh E c
  | 0 => rfl
  | c + 1 => by
    rw [heads_succ]
    cases h : head E c
    · simp [nh, h, heads_length E c]
    · simp [nh, h, heads_length E c]
theorem heads_at (E : Nat → Nat → Bool) : ∀ (c d : Nat), d < c → head E d = true → (heads E c)[nh E d]? = some d
  | 0, d, h, _ => by omega
  | c + 1, d, h, hd => by
    rw [heads_succ]
    have key : d < c → (heads E c)[nh E d]? = some d := fun h' => heads_at E c d h' hd
    have hl := heads_length E c
    by_cases hdc : d = c
    · subst hdc
      rw [if_pos hd, List.getElem?_append_right (by omega), hl]; simp
    · have := key (by omega)
      split
      · rw [List.getElem?_append_left (by rw [hl]; exact nh_lt E hd (by omega))]; exact this
      · exact this
theorem mem_heads (E : Nat → Nat → Bool) (c d : Nat) : d ∈ heads E c ↔ d < c ∧ head E d = true := by simp [heads]
theorem heads_idx (E : Nat → Nat → Bool) (c i : Nat) (h : i < (heads E c).length) : nh E (heads E c)[i] = i := by
  have hm := (mem_heads E c _).1 (List.getElem_mem h)
  have h1 := heads_at E c _ hm.1 hm.2
  have hlt : nh E (heads E c)[i] < (heads E c).length := by rw [heads_length]; exact nh_lt E hm.2 hm.1
  rw [List.getElem?_eq_getElem hlt] at h1
  have hs : (heads E c).Pairwise (· < ·) := List.Pairwise.filter _ List.pairwise_lt_range
  have h2 := Option.some.inj h1
  rcases Nat.lt_trichotomy (nh E (heads E c)[i]) i with hl | he | hl
  · have := List.pairwise_iff_getElem.1 hs _ _ hlt h hl; omega
  · exact he
  · have := List.pairwise_iff_getElem.1 hs _ _ h hlt hl; omega
/-- What 'Right' counts: how many classes when c bytes are over; none, if a number is out of its row. -/
def rgo (of : Nat → Nat) : Nat → Option Nat
  | 0 => some 0
  | c + 1 => match rgo of c with
    | none => none
    | some n => if n < of c then none else if of c = n then some (n + 1) else some n
theorem rgo_cls (E : Nat → Nat → Bool) (hE : Eqv E) : ∀ c, rgo (cls E) c = some (nh E c)
  | 0 => rfl
  | c + 1 => by
    simp only [rgo, rgo_cls E hE c]
    cases h : head E c
    · have := cls_lt E hE c h
      rw [if_neg (by omega), if_neg (by omega), nh_not E c h]
    · have := cls_head E hE c h
      rw [if_neg (by omega), if_pos this, nh_head E c h]
theorem rgo_congr (of g : Nat → Nat) : ∀ c, (∀ d, d < c → of d = g d) → rgo of c = rgo g c
  | 0, _ => rfl
  | c + 1, h => by simp only [rgo]; rw [rgo_congr of g c (fun d hd => h d (by omega)), h c (by omega)]
/-- The keys of the heads below c. -/
def keysTo {α : Type} [DecidableEq α] (f : Nat → α) (c : Nat) : List α := (heads (byKey f) c).map f
theorem keysTo_length {α : Type} [DecidableEq α] (f : Nat → α) (c : Nat) : (keysTo f c).length = nh (byKey f) c := by unfold keysTo; rw [List.length_map, heads_length]
theorem keysTo_new {α : Type} [DecidableEq α] (f : Nat → α) (c : Nat) (h : head (byKey f) c = true) : keysTo f (c + 1) = keysTo f c ++ [f c] := by
  unfold keysTo; rw [heads_succ, if_pos h]; simp
theorem keysTo_old {α : Type} [DecidableEq α] (f : Nat → α) (c : Nat) (h : head (byKey f) c = false) : keysTo f (c + 1) = keysTo f c := by
  unfold keysTo; rw [heads_succ, h]; simp
theorem keysTo_none {α : Type} [DecidableEq α] (f : Nat → α) (c : Nat) (h : head (byKey f) c = true) : (keysTo f c).findIdx? (· == f c) = none := by
  rw [List.findIdx?_eq_none_iff]
  intro x hx
  unfold keysTo at hx
  obtain ⟨d, hd, rfl⟩ := List.mem_map.1 hx
  have := (head_iff _ _).1 h d ((mem_heads _ _ _).1 hd).1
  simp [byKey] at this
  simp [this]
theorem keysTo_some {α : Type} [DecidableEq α] (f : Nat → α) (c : Nat) (h : head (byKey f) c = false) : (keysTo f c).findIdx? (· == f c) = some (cls (byKey f) c) := by
  have hE := byKey_eqv f
  have hlt := cls_lt _ hE c h
  obtain ⟨-, h2, h3⟩ := fst_spec _ hE c
  have hfl := fst_lt _ hE c h
  have hat := heads_at (byKey f) c _ hfl (head_fst _ hE c)
  rw [List.findIdx?_eq_some_iff_getElem]
  have hl : cls (byKey f) c < (keysTo f c).length := by rw [keysTo_length]; exact hlt
  refine ⟨hl, ?_, ?_⟩
  · have : (keysTo f c)[cls (byKey f) c]? = some (f (fst (byKey f) c)) := by
      unfold keysTo; rw [List.getElem?_map]; unfold cls; rw [hat]; rfl
    rw [List.getElem?_eq_getElem hl] at this
    rw [Option.some.inj this]
    simpa [byKey] using h2
  · intro j hj
    have hjl : j < (heads (byKey f) c).length := by rw [heads_length]; omega
    have e : (keysTo f c)[j]'(by rw [keysTo_length]; omega) = f (heads (byKey f) c)[j] := by simp [keysTo]
    rw [e]
    have hm := (mem_heads _ _ _).1 (List.getElem_mem hjl)
    have hi := heads_idx (byKey f) c j hjl
    have hlt2 : (heads (byKey f) c)[j] < fst (byKey f) c := by
      rcases Nat.lt_or_ge (heads (byKey f) c)[j] (fst (byKey f) c) with g | g
      · exact g
      · have := nh_mono (byKey f) g; unfold cls at hj; omega
    have := h3 _ hlt2
    simp [byKey] at this
    simp [this]
end Cls
end Go.Proofs.YtdmnocjlmnkdhaaDoor
namespace Go.Proofs.YtdmnocjlmnkdhaaDoor
open Go.RowKit Sets Cls
/-- The cells of the classes' array. -/
def ofL (of : Nat → Nat) : List Value := (List.range 256).map fun c => Value.int .u8 (of c)
/-- The cells of a partition. -/
def partC (of : Nat → Nat) (n : Int) : Array Value := (ofL of ++ [Value.int .i64 n]).toArray
theorem ofL_length (of : Nat → Nat) : (ofL of).length = 256 := by simp [ofL]
theorem ofL_get (of : Nat → Nat) (c : Nat) (h : c < 256) : (ofL of)[c]? = some (.int .u8 (of c)) := by simp [ofL, h]
theorem partC_size (of : Nat → Nat) (n : Int) : (partC of n).size = 257 := by simp [partC, ofL_length]
theorem partC_get (of : Nat → Nat) (n : Int) (c : Nat) (h : c < 256) : (partC of n)[c]? = some (.int .u8 (of c)) := by
  unfold partC
  rw [List.getElem?_toArray, List.getElem?_append_left (by rw [ofL_length]; exact h), ofL_get of c h]
theorem partC_n (of : Nat → Nat) (n : Int) : (partC of n)[256]? = some (.int .i64 n) := by
  unfold partC
  rw [List.getElem?_toArray, List.getElem?_append_right (by rw [ofL_length]; omega), ofL_length]; rfl
theorem ofL_congr (of g : Nat → Nat) (h : ∀ c, c < 256 → of c = g c) : ofL of = ofL g := by
  unfold ofL
  apply List.map_congr_left
  intro c hc
  rw [h c (by simpa using hc)]
theorem partC_congr (of g : Nat → Nat) (n : Int) (h : ∀ c, c < 256 → of c = g c) : partC of n = partC g n := by
  unfold partC; rw [ofL_congr of g h]
theorem partC_set (of : Nat → Nat) (n : Int) (c k : Nat) (hc : c < 256) : (partC of n).setIfInBounds c (.int .u8 k) = partC (fun d => if d = c then k else of d) n := by
  unfold partC
  rw [List.setIfInBounds_toArray, List.set_append_left _ _ (by rw [ofL_length]; exact hc)]
  congr 2
  unfold ofL
  apply List.ext_getElem
  · simp
  · intro i h1 h2
    simp only [List.length_set, List.length_map, List.length_range] at h1
    rw [List.getElem_set]
    simp only [List.getElem_map, List.getElem_range]
    by_cases hi : c = i
    · subst hi; simp
    · have : ¬ i = c := fun e => hi e.symm
      simp [hi, this]
theorem partC_setN (of : Nat → Nat) (n m : Int) : (partC of n).setIfInBounds 256 (.int .i64 m) = partC of m := by
  unfold partC
  rw [List.setIfInBounds_toArray, List.set_append_right _ _ (by rw [ofL_length]; omega), ofL_length]
  rfl
theorem partC_one (of : Nat → Nat) (n : Int) : (partC of n).all (·.oneCell') = true := by
  rw [Array.all_eq_true_iff_forall_mem]
  intro v hv
  simp [partC, ofL] at hv
  rcases hv with ⟨c, -, rfl⟩ | rfl <;> rfl
theorem partC_inj {of g : Nat → Nat} {n m : Int} (h : partC of n = partC g m) : n = m ∧ ∀ c, c < 256 → of c = g c := by
  constructor
  · have := congrArg (fun a => a[256]?) h
    simp only [partC_n] at this
    injection this with this; injection this
  · intro c hc
    have := congrArg (fun a => a[c]?) h
    simp only [partC_get _ _ c hc] at this
    injection this with this; injection this with _ this; omega
/-- A partition's cells lie in block B. -/
def PartAt (w : World) (B : Nat) (of : Nat → Nat) (n : Int) : Prop := w.heap[B]? = some (.cells (partC of n) 33 (0, 0))
theorem PartAt.lt {w : World} {B : Nat} {of : Nat → Nat} {n : Int} (h : PartAt w B of n) : B < w.heap.size := (Array.getElem?_eq_some_iff.1 h).1
theorem PartAt.new (w : World) (of : Nat → Nat) (n : Int) : PartAt (w.alloc (.cells (partC of n) 33)) w.heap.size of n := heap_alloc_new w _
theorem PartAt.kept {w w' : World} {A B : Nat} {of : Nat → Nat} {n : Int} (h : PartAt w B of n) (hb : Below A w w') (hA : B < A) : PartAt w' B of n := by
  unfold PartAt at *; rw [hb.block _ hA]; exact h
theorem PartAt.alloc {w : World} {B : Nat} {of : Nat → Nat} {n : Int} (h : PartAt w B of n) (o : Obj) : PartAt (w.alloc o) B of n := h.kept ((Below.refl _ _).alloc (Nat.le_refl _) o) h.lt
theorem PartAt.cell {w : World} {B : Nat} {of : Nat → Nat} {n : Int} (h : PartAt w B of n) (c : Nat) (hc : c < 256) : w.cell? ⟨B, c, none⟩ = some (.int .u8 (of c)) :=
  (cell_of_row w B c _ _ _ h).trans (partC_get of n c hc)
theorem PartAt.cellN {w : World} {B : Nat} {of : Nat → Nat} {n : Int} (h : PartAt w B of n) : w.cell? ⟨B, 256, none⟩ = some (.int .i64 n) :=
  (cell_of_row w B 256 _ _ _ h).trans (partC_n of n)
theorem PartAt.free {w : World} {B : Nat} {of : Nat → Nat} {n : Int} (h : PartAt w B of n) (c : Nat) : w.frozen? ⟨B, c, none⟩ = false := frozen_of_row w B c _ _ h
theorem PartAt.range {w : World} {B : Nat} {of : Nat → Nat} {n : Int} (h : PartAt w B of n) : w.rangeAt B 0 (ofL of) := by
  intro j v hv
  have hj := (List.getElem?_eq_some_iff.1 hv).1
  rw [ofL_length] at hj
  rw [Nat.zero_add, h.cell j hj, ← hv, ofL_get of j hj]
theorem PartAt.set {w : World} {B : Nat} {of : Nat → Nat} {n : Int} (h : PartAt w B of n) (c k : Nat) (hc : c < 256) : PartAt (w.setCell ⟨B, c, none⟩ (.int .u8 k)) B (fun d => if d = c then k else of d) n := by
  unfold PartAt at *
  rw [← partC_set of n c k hc]
  exact heap_setCell_same w B c _ _ _ h
theorem PartAt.setN {w : World} {B : Nat} {of : Nat → Nat} {n : Int} (h : PartAt w B of n) (m : Int) : PartAt (w.setCell ⟨B, 256, none⟩ (.int .i64 m)) B of m := by
  unfold PartAt at *
  rw [← partC_setN of n m]
  exact heap_setCell_same w B 256 _ _ _ h
theorem sizeP (of : Nat → Nat) (n : Int) : (Tryd.prog.info? 33).map (·.size) = some (partC of n).size := by rw [partC_size]; kernel_rfl
theorem sizeO (of : Nat → Nat) : (Tryd.prog.info? 31).map (·.size) = some (ofL of).length := by rw [ofL_length]; kernel_rfl
theorem index_of (of : Nat → Nat) (k : Nat) (h : k < 256) (w : World) : (Instr.index 31 (.agg (ofL of).toArray) (.int .i64 k)).run Tryd.prog w = .ok (.int .u8 (of k)) w := by
  have hg := ofL_get of k h
  have u3 := Tryd.underlying5
  have a3 := Tryd.isAgg5
  have z3 := Tryd.sizeOf5
  unfold Instr.index
  go_simp
attribute [irreducible] partC ofL
end Go.Proofs.YtdmnocjlmnkdhaaDoor
namespace Go.Proofs.YtdmnocjlmnkdhaaDoor
open Go.RowKit
/-- The worlds that keep what W holds are given as a family F: so the walk's simp can name one of them. -/
theorem region_fam {P : Program} {id : Nat} {Q : Exit → Act → World → Prop} {a : Act} {W : World} {l : List Oper} (hm : P.follows .mixedOrders = true) (hB : Region.lexB .any l.toArray = true)
    (h : ∀ (ι : Type) (_ : Nonempty ι) (F : ι → World), (∀ n, Below W.heap.size W (F n)) → (∀ w', Below W.heap.size W w' → ∃ n, w' = F n) →
      wpQuiet P l.toArray (fun w' => ∃ n, w' = F n) (fun a' => ∀ w', (∃ n, w' = F n) → Q .normal a' w') l a) : (Code.region id l.toArray true).wp P Q a W := by
  refine wp_region_quiet (C := fun w' => ∃ n : { w' : World // Below W.heap.size W w' }, w' = n.1) hm hB ⟨⟨_, (Below.refl _ W).drew⟩, rfl⟩ ?_
  have := h { w' : World // Below W.heap.size W w' } ⟨⟨W, Below.refl _ W⟩⟩ Subtype.val (fun n => n.2) (fun w' hw => ⟨⟨w', hw⟩, rfl⟩)
  simpa using this
theorem fam_call {P : Program} {f : FuncId} {args : Array Value} {ι : Type} {F : ι → World} {W : World} (hF : ∀ n, Below W.heap.size W (F n)) (hX : ∀ w', Below W.heap.size W w' → ∃ n, w' = F n) {n : ι} {v : Value}
    (h : Calls P f args (F n) fun e w' => e = .returned v ∧ Below (F n).heap.size (F n) w') : Calls P f args (F n) fun e w'' => e = .returned v ∧ ∃ m, w'' = F m :=
  h.mono fun _ _ ⟨he, hb⟩ => ⟨he, hX _ ((hF n).trans (hb.mono (hF n).size))⟩
/-- A whole array, read out of its variable, in every world of the class. -/
theorem quiet_load_row {P : Program} {C : World → Prop} {a : Act} {K : Act → Prop} {o : Oper} (ty : TypeId) (x : Operand) (ho : o.op = .load ty x)
    (g : Nat) (hx : a.eval x = .pointer (some ⟨g, 0, none⟩)) (t : TypeId) (cs : Array Value) (fr : Nat × Nat) (d : TypeDesc) (hg : ∀ w, C w → w.heap[g]? = some (.cells cs t fr))
    (hu : P.underlying ty = some d) (hd : (match d with | .struct _ | .array _ _ => true | _ => false) = true) (hi : (P.info? ty).map (·.size) = some cs.size)
    (h : K (a.put o.dst (.agg cs))) : o.quiet P a C K := by
  refine ⟨.agg cs, fun w hw => ?_, h⟩
  unfold Oper.quietAt execOp
  simp only [ho, hx, Instr.loadAt, Instr.sureAddr, Sem.run_bind, Sem.run_pure, Result.andThen_ok, run_loadVar_row w g t ty cs fr d (hg w hw) hu hd hi]
  exact ⟨rfl, rfl⟩
end Go.Proofs.YtdmnocjlmnkdhaaDoor
namespace Go.Proofs.YtdmnocjlmnkdhaaDoor
open Go.RowKit Sets Cls
def prightB (of : Nat → Nat) (n : Int) : Bool := match rgo of 256 with | none => false | some k => (k : Int) == n
theorem rgo_none (of : Nat → Nat) : ∀ c d, c ≤ d → rgo of c = none → rgo of d = none
  | c, 0, h, g => by have : c = 0 := by omega
                     subst this; exact g
  | c, d + 1, h, g => by
    rcases Nat.lt_or_eq_of_le h with hl | rfl
    · simp only [rgo, rgo_none of c d (by omega) g]
    · exact g
theorem rgo_le (of : Nat → Nat) : ∀ c k, rgo of c = some k → k ≤ c
  | 0, k, h => by simp [rgo] at h; omega
  | c + 1, k, h => by
    simp only [rgo] at h
    cases hq : rgo of c with
    | none => rw [hq] at h; cases h
    | some m =>
      have := rgo_le of c m hq
      rw [hq] at h
      simp only at h
      split at h
      · cases h
      · split at h <;> (injection h with h; omega)
end Go.Proofs.YtdmnocjlmnkdhaaDoor
