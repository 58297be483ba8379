/- Several texts in one. -/
import Derived.Test.YtlbaecjmfgahgaaDoorSets
import Derived.Test.YtlbaecjmfgahgaaDoorOct4
import Derived.Deep.MidRow
import Derived.Deep.WholeRow
import Derived.WalkSpells
import Derived.Test.YtlbaecjmfgahgaaDoorFam
import Derived.Test.YtlbaecjmfgahgaaDoorNfM
import Derived.Test.YtlbaecjmfgahgaaDoorMix
import Derived.Test.YtlbaecjmfgahgaaDoorOct1
import Derived.Laws.OwnMore
import Derived.OwnWalk
import Derived.Laws.StructEq
import Derived.Maps.OwnOps
import Derived.Maps.Own
namespace Go.Proofs.YtlbaecjmfgahgaaDoor
namespace Cls
structure Eqv (E : Nat → Nat → Bool) : Prop where
  refl : ∀ a, E a a = true
  symm : ∀ a b, E a b = true → E b a = true
  trans : ∀ a b c, E a b = true → E b c = true → E a c = true
def head (E : Nat → Nat → Bool) (c : Nat) : Bool := (List.range c).all fun d => !E d c
def nh (E : Nat → Nat → Bool) : Nat → Nat
  | 0 => 0
  | c + 1 => nh E c + (head E c).toNat
def fst (E : Nat → Nat → Bool) (c : Nat) : Nat := ((List.range c).find? fun d => E d c).getD c
def cls (E : Nat → Nat → Bool) (c : Nat) : Nat := nh E (fst E c)
theorem head_iff (E : Nat → Nat → Bool) (c : Nat) : head E c = true ↔ ∀ d, d < c → E d c = false := by
  unfold head; rw [List.all_eq_true]; simp
theorem fst_spec (E : Nat → Nat → Bool) (hE : Eqv E) (c : Nat) : fst E c ≤ c ∧ E (fst E c) c = true ∧ ∀ d, d < fst E c → E d c = false := by
  unfold fst
  cases h : (List.range c).find? fun d => E d c with
  | none =>
    simp at h
    exact ⟨Nat.le_refl _, hE.refl _, fun d hd => h d hd⟩
  | some d =>
    rw [List.find?_range_eq_some] at h
    simp only [Option.getD_some]
    obtain ⟨h1, h2, h3⟩ := h
    have h2' : d < c := by simpa using h2
    exact ⟨Nat.le_of_lt h2', h1, fun e he => by simpa using h3 e he⟩
theorem E_congr {E : Nat → Nat → Bool} (hE : Eqv E) {a b : Nat} (h : E a b = true) (d : Nat) : E d a = E d b := by
  cases h1 : E d a <;> cases h2 : E d b <;> try rfl
  · rw [hE.trans _ _ _ h2 (hE.symm _ _ h)] at h1; cases h1
  · rw [hE.trans _ _ _ h1 h] at h2; cases h2
theorem head_fst (E : Nat → Nat → Bool) (hE : Eqv E) (c : Nat) : head E (fst E c) = true := by
  obtain ⟨-, h2, h3⟩ := fst_spec E hE c
  rw [head_iff]
  intro d hd
  rw [E_congr hE h2]; exact h3 d hd
theorem fst_head (E : Nat → Nat → Bool) (hE : Eqv E) (c : Nat) (h : head E c = true) : fst E c = c := by
  obtain ⟨h1, h2, -⟩ := fst_spec E hE c
  rw [head_iff] at h
  rcases Nat.lt_or_eq_of_le h1 with hl | he
  · rw [h _ hl] at h2; cases h2
  · exact he
theorem fst_lt (E : Nat → Nat → Bool) (hE : Eqv E) (c : Nat) (h : head E c = false) : fst E c < c := by
  obtain ⟨h1, -, -⟩ := fst_spec E hE c
  rcases Nat.lt_or_eq_of_le h1 with hl | he
  · exact hl
  · have := head_fst E hE c; rw [he, h] at this; cases this
theorem nh_mono (E : Nat → Nat → Bool) {a b : Nat} (h : a ≤ b) : nh E a ≤ nh E b := by
  induction b with
  | zero => have : a = 0 := by omega
            subst this; exact Nat.le_refl _
  | succ b ih =>
    rcases Nat.lt_or_eq_of_le h with hl | rfl
    · have := ih (by omega); simp only [nh]; omega
    · exact Nat.le_refl _
theorem nh_le (E : Nat → Nat → Bool) (c : Nat) : nh E c ≤ c := by
  induction c with
  | zero => exact Nat.le_refl _
  | succ c ih => simp only [nh]; have := Bool.toNat_le (head E c); omega
theorem nh_head (E : Nat → Nat → Bool) (c : Nat) (h : head E c = true) : nh E (c + 1) = nh E c + 1 := by simp [nh, h]
theorem nh_not (E : Nat → Nat → Bool) (c : Nat) (h : head E c = false) : nh E (c + 1) = nh E c := by simp [nh, h]
theorem nh_lt (E : Nat → Nat → Bool) {a b : Nat} (h : head E a = true) (hb : a < b) : nh E a < nh E b := by
  have := nh_mono E (show a + 1 ≤ b from hb)
  rw [nh_head E a h] at this; omega
theorem nh_inj (E : Nat → Nat → Bool) {a b : Nat} (ha : head E a = true) (hb : head E b = true) (h : nh E a = nh E b) : a = b := by
  rcases Nat.lt_trichotomy a b with hl | he | hl
  · have := nh_lt E ha hl; omega
  · exact he
  · have := nh_lt E hb hl; omega
theorem cls_head (E : Nat → Nat → Bool) (hE : Eqv E) (c : Nat) (h : head E c = true) : cls E c = nh E c := by unfold cls; rw [fst_head E hE c h]
theorem cls_lt_nh (E : Nat → Nat → Bool) (hE : Eqv E) (c b : Nat) (hb : c < b) : cls E c < nh E b := by
  obtain ⟨h1, -, -⟩ := fst_spec E hE c
  exact nh_lt E (head_fst E hE c) (by omega)
theorem cls_lt (E : Nat → Nat → Bool) (hE : Eqv E) (c : Nat) (h : head E c = false) : cls E c < nh E c := nh_lt E (head_fst E hE c) (fst_lt E hE c h)
theorem cls_le (E : Nat → Nat → Bool) (hE : Eqv E) (c : Nat) : cls E c ≤ c := Nat.le_trans (nh_le E _) (fst_spec E hE c).1
theorem fst_eq (E : Nat → Nat → Bool) (hE : Eqv E) {a b : Nat} (h : E a b = true) : fst E a = fst E b := by
  obtain ⟨-, a2, a3⟩ := fst_spec E hE a
  obtain ⟨-, b2, b3⟩ := fst_spec E hE b
  rcases Nat.lt_trichotomy (fst E a) (fst E b) with hl | he | hl
  · have := b3 _ hl; rw [hE.trans _ _ _ a2 h] at this; cases this
  · exact he
  · have := a3 _ hl; rw [hE.trans _ _ _ b2 (hE.symm _ _ h)] at this; cases this
theorem cls_eq (E : Nat → Nat → Bool) (hE : Eqv E) (a b : Nat) : cls E a = cls E b ↔ E a b = true := by
  constructor
  · intro h
    have := nh_inj E (head_fst E hE a) (head_fst E hE b) h
    obtain ⟨-, a2, -⟩ := fst_spec E hE a
    obtain ⟨-, b2, -⟩ := fst_spec E hE b
    rw [this] at a2
    exact hE.trans _ _ _ (hE.symm _ _ a2) b2
  · intro h; unfold cls; rw [fst_eq E hE h]
theorem head_congr {E F : Nat → Nat → Bool} {N : Nat} (h : ∀ a b, a < N → b < N → E a b = F a b) (c : Nat) (hc : c < N) : head E c = head F c := by
  rw [Bool.eq_iff_iff, head_iff, head_iff]
  constructor <;> intro g d hd
  · rw [← h d c (by omega) hc]; exact g d hd
  · rw [h d c (by omega) hc]; exact g d hd
theorem nh_congr {E F : Nat → Nat → Bool} {N : Nat} (h : ∀ a b, a < N → b < N → E a b = F a b) (c : Nat) (hc : c ≤ N) : nh E c = nh F c := by
  induction c with
  | zero => rfl
  | succ c ih => simp only [nh]; rw [ih (by omega), head_congr h c (by omega)]
theorem cls_congr {E F : Nat → Nat → Bool} {N : Nat} (h : ∀ a b, a < N → b < N → E a b = F a b) (c : Nat) (hc : c < N) : cls E c = cls F c := by
  have hf : fst E c = fst F c := by
    unfold fst
    have : (List.range c).find? (fun d => E d c) = (List.range c).find? (fun d => F d c) := by
      have key : ∀ l : List Nat, (∀ d ∈ l, d < c) → l.find? (fun d => E d c) = l.find? (fun d => F d c) := by
        intro l
        induction l with
        | nil => intro _; rfl
        | cons x l ih =>
          intro hl
          rw [List.find?_cons, List.find?_cons, h x c (by have := hl x (by simp); omega) hc, ih (fun d hd => hl d (by simp [hd]))]
      exact key _ (fun d hd => by simpa using hd)
    rw [this]
  unfold cls
  have hle : fst F c ≤ c := by
    unfold fst
    cases hq : (List.range c).find? fun d => F d c with
    | none => exact Nat.le_refl _
    | some d => have := List.mem_of_find?_eq_some hq; simp at this; simp; omega
  rw [hf, nh_congr h _ (by omega)]
/-- Two bytes that no set of L tells apart. -/
def same (L : List Nat) (a b : Nat) : Bool := L.all fun S => S.testBit a == S.testBit b
theorem same_iff (L : List Nat) (a b : Nat) : same L a b = true ↔ ∀ S ∈ L, S.testBit a = S.testBit b := by
  unfold same; rw [List.all_eq_true]; simp
theorem same_eqv (L : List Nat) : Eqv (same L) :=
  ⟨fun a => (same_iff L a a).2 (fun _ _ => rfl), fun a b h => (same_iff L b a).2 (fun S hS => ((same_iff L a b).1 h S hS).symm),
   fun a b c h g => (same_iff L a c).2 (fun S hS => ((same_iff L a b).1 h S hS).trans ((same_iff L b c).1 g S hS))⟩
theorem same_append (L M : List Nat) (a b : Nat) : same (L ++ M) a b = (same L a b && same M a b) := by unfold same; rw [List.all_append]
/-- The relation of a key. -/
def byKey {α : Type} [DecidableEq α] (f : Nat → α) (a b : Nat) : Bool := decide (f a = f b)
theorem byKey_eqv {α : Type} [DecidableEq α] (f : Nat → α) : Eqv (byKey f) :=
  ⟨fun a => by simp [byKey], fun a b h => by simp [byKey] at *; exact h.symm, fun a b c h g => by simp [byKey] at *; exact h.trans g⟩
/-- The bits of c in the first j sets of L. -/
def inb (L : List Nat) (c : Nat) : Nat → Nat
  | 0 => 0
  | j + 1 => if (L.getD j 0).testBit c then inb L c j ||| 2 ^ j else inb L c j
theorem inb_testBit (L : List Nat) (c i : Nat) : ∀ j, (inb L c j).testBit i = (decide (i < j) && (L.getD i 0).testBit c)
  | 0 => by simp [inb]
  | j + 1 => by
    have ih := inb_testBit L c i j
    simp only [inb]
    split
    · rename_i h
      rw [Nat.testBit_or, ih, Nat.testBit_two_pow]
      by_cases hij : j = i
      · subst hij; rw [h]; simp
      · have : decide (i < j + 1) = decide (i < j) := by rw [decide_eq_decide]; omega
        rw [this]; simp [hij]
    · rename_i h
      rw [ih]
      by_cases hij : i = j
      · subst hij; simp at h; simp [h]
      · have : decide (i < j + 1) = decide (i < j) := by rw [decide_eq_decide]; omega
        rw [this]
theorem inb_lt (L : List Nat) (c j : Nat) : inb L c j < 2 ^ j := by
  apply Nat.lt_pow_two_of_testBit
  intro i hi
  rw [inb_testBit]; simp; omega
theorem inb_eq (L : List Nat) (a b : Nat) : inb L a L.length = inb L b L.length ↔ same L a b = true := by
  rw [same_iff]
  constructor
  · intro h S hS
    obtain ⟨i, hi, rfl⟩ := List.mem_iff_getElem.1 hS
    have := congrArg (fun x => x.testBit i) h
    simp only [inb_testBit, hi, decide_true, Bool.true_and] at this
    rw [List.getD_eq_getElem?_getD, List.getElem?_eq_getElem hi] at this
    exact this
  · intro h
    apply Nat.eq_of_testBit_eq
    intro i
    rw [inb_testBit, inb_testBit]
    by_cases hi : i < L.length
    · rw [List.getD_eq_getElem?_getD, List.getElem?_eq_getElem hi]
      simp only [Option.getD_some]
      rw [h _ (List.getElem_mem hi)]
    · simp [hi]
/-- The key of a byte: its class so far, and its bits. -/
def keyC (E : Nat → Nat → Bool) (L : List Nat) (c : Nat) : Nat × Nat := (cls E c, inb L c L.length)
theorem byKey_keyC (E : Nat → Nat → Bool) (hE : Eqv E) (L : List Nat) (a b : Nat) : byKey (keyC E L) a b = (E a b && same L a b) := by
  rw [Bool.eq_iff_iff]
  unfold byKey keyC
  rw [decide_eq_true_iff, Prod.mk.injEq, cls_eq E hE, inb_eq, Bool.and_eq_true]
/-- The heads below c. -/
def heads (E : Nat → Nat → Bool) (c : Nat) : List Nat := (List.range c).filter (head E)
theorem heads_succ (E : Nat → Nat → Bool) (c : Nat) : heads E (c + 1) = if head E c then heads E c ++ [c] else heads E c := by
  unfold heads
  rw [List.range_succ, List.filter_append]
  cases h : head E c <;> simp [h]
theorem heads_length (E : Nat → Nat → Bool) : ∀ c, (heads E c).length = nh E c
  | 0 => rfl
  | c + 1 => by
    rw [heads_succ]
    cases h : head E c
    · simp [nh, h, heads_length E c]
    · simp [nh, h, heads_length E c]
theorem heads_at (E : Nat → Nat → Bool) : ∀ (c d : Nat), d < c → head E d = true → (heads E c)[nh E d]? = some d
  | 0, d, h, _ => by omega
  | c + 1, d, h, hd => by
    rw [heads_succ]
    have key : d < c → (heads E c)[nh E d]? = some d := fun h' => heads_at E c d h' hd
    have hl := heads_length E c
    by_cases hdc : d = c
    · subst hdc
      rw [if_pos hd, List.getElem?_append_right (by omega), hl]; simp
    · have := key (by omega)
      split
      · rw [List.getElem?_append_left (by rw [hl]; exact nh_lt E hd (by omega))]; exact this
      · exact this
theorem mem_heads (E : Nat → Nat → Bool) (c d : Nat) : d ∈ heads E c ↔ d < c ∧ head E d = true := by simp [heads]
theorem heads_idx (E : Nat → Nat → Bool) (c i : Nat) (h : i < (heads E c).length) : nh E (heads E c)[i] = i := by
  have hm := (mem_heads E c _).1 (List.getElem_mem h)
  have h1 := heads_at E c _ hm.1 hm.2
  have hlt : nh E (heads E c)[i] < (heads E c).length := by rw [heads_length]; exact nh_lt E hm.2 hm.1
  rw [List.getElem?_eq_getElem hlt] at h1
  have hs : (heads E c).Pairwise (· < ·) := List.Pairwise.filter _ List.pairwise_lt_range
  have h2 := Option.some.inj h1
  rcases Nat.lt_trichotomy (nh E (heads E c)[i]) i with hl | he | hl
  · have := List.pairwise_iff_getElem.1 hs _ _ hlt h hl; omega
  · exact he
  · have := List.pairwise_iff_getElem.1 hs _ _ h hlt hl; omega
/-- What 'Right' counts: how many classes when c bytes are over; none, if a number is out of its row. -/
def rgo (of : Nat → Nat) : Nat → Option Nat
  | 0 => some 0
  | c + 1 => match rgo of c with
    | none => none
    | some n => if n < of c then none else if of c = n then some (n + 1) else some n
theorem rgo_cls (E : Nat → Nat → Bool) (hE : Eqv E) : ∀ c, rgo (cls E) c = some (nh E c)
  | 0 => rfl
  | c + 1 => by
    simp only [rgo, rgo_cls E hE c]
    cases h : head E c
    · have := cls_lt E hE c h
      rw [if_neg (by omega), if_neg (by omega), nh_not E c h]
    · have := cls_head E hE c h
      rw [if_neg (by omega), if_pos this, nh_head E c h]
theorem rgo_congr (of g : Nat → Nat) : ∀ c, (∀ d, d < c → of d = g d) → rgo of c = rgo g c
  | 0, _ => rfl
  | c + 1, h => by simp only [rgo]; rw [rgo_congr of g c (fun d hd => h d (by omega)), h c (by omega)]
/-- The keys of the heads below c. -/
def keysTo {α : Type} [DecidableEq α] (f : Nat → α) (c : Nat) : List α := (heads (byKey f) c).map f
theorem keysTo_length {α : Type} [DecidableEq α] (f : Nat → α) (c : Nat) : (keysTo f c).length = nh (byKey f) c := by unfold keysTo; rw [List.length_map, heads_length]
theorem keysTo_new {α : Type} [DecidableEq α] (f : Nat → α) (c : Nat) (h : head (byKey f) c = true) : keysTo f (c + 1) = keysTo f c ++ [f c] := by
  unfold keysTo; rw [heads_succ, if_pos h]; simp
theorem keysTo_old {α : Type} [DecidableEq α] (f : Nat → α) (c : Nat) (h : head (byKey f) c = false) : keysTo f (c + 1) = keysTo f c := by
  unfold keysTo; rw [heads_succ, h]; simp
theorem keysTo_none {α : Type} [DecidableEq α] (f : Nat → α) (c : Nat) (h : head (byKey f) c = true) : (keysTo f c).findIdx? (· == f c) = none := by
  rw [List.findIdx?_eq_none_iff]
  intro x hx
  unfold keysTo at hx
  obtain ⟨d, hd, rfl⟩ := List.mem_map.1 hx
  have := (head_iff _ _).1 h d ((mem_heads _ _ _).1 hd).1
  simp [byKey] at this
  simp [this]
theorem keysTo_some {α : Type} [DecidableEq α] (f : Nat → α) (c : Nat) (h : head (byKey f) c = false) : (keysTo f c).findIdx? (· == f c) = some (cls (byKey f) c) := by
  have hE := byKey_eqv f
  have hlt := cls_lt _ hE c h
  obtain ⟨-, h2, h3⟩ := fst_spec _ hE c
  have hfl := fst_lt _ hE c h
  have hat := heads_at (byKey f) c _ hfl (head_fst _ hE c)
  rw [List.findIdx?_eq_some_iff_getElem]
  have hl : cls (byKey f) c < (keysTo f c).length := by rw [keysTo_length]; exact hlt
  refine ⟨hl, ?_, ?_⟩
  · have : (keysTo f c)[cls (byKey f) c]? = some (f (fst (byKey f) c)) := by
      unfold keysTo; rw [List.getElem?_map]; unfold cls; rw [hat]; rfl
    rw [List.getElem?_eq_getElem hl] at this
    rw [Option.some.inj this]
    simpa [byKey] using h2
  · intro j hj
    have hjl : j < (heads (byKey f) c).length := by rw [heads_length]; omega
    have e : (keysTo f c)[j]'(by rw [keysTo_length]; omega) = f (heads (byKey f) c)[j] := by simp [keysTo]
    rw [e]
    have hm := (mem_heads _ _ _).1 (List.getElem_mem hjl)
    have hi := heads_idx (byKey f) c j hjl
    have hlt2 : (heads (byKey f) c)[j] < fst (byKey f) c := by
      rcases Nat.lt_or_ge (heads (byKey f) c)[j] (fst (byKey f) c) with g | g
      · exact g
      · have := nh_mono (byKey f) g; unfold cls at hj; omega
    have := h3 _ hlt2
    simp [byKey] at this
    simp [this]
end Cls
end Go.Proofs.YtlbaecjmfgahgaaDoor
namespace Go.Proofs.YtlbaecjmfgahgaaDoor
open Go.RowKit Sets Cls
/-- The cells of the classes' array. -/
def ofL (of : Nat → Nat) : List Value := (List.range 256).map fun c => Value.int .u8 (of c)
/-- The cells of a partition. -/
def partC (of : Nat → Nat) (n : Int) : Array Value := (ofL of ++ [Value.int .i64 n]).toArray
theorem ofL_length (of : Nat → Nat) : (ofL of).length = 256 := by simp [ofL]
theorem ofL_get (of : Nat → Nat) (c : Nat) (h : c < 256) : (ofL of)[c]? = some (.int .u8 (of c)) := by simp [ofL, h]
theorem partC_size (of : Nat → Nat) (n : Int) : (partC of n).size = 257 := by simp [partC, ofL_length]
theorem partC_get (of : Nat → Nat) (n : Int) (c : Nat) (h : c < 256) : (partC of n)[c]? = some (.int .u8 (of c)) := by
  unfold partC
  rw [List.getElem?_toArray, List.getElem?_append_left (by rw [ofL_length]; exact h), ofL_get of c h]
theorem partC_n (of : Nat → Nat) (n : Int) : (partC of n)[256]? = some (.int .i64 n) := by
  unfold partC
  rw [List.getElem?_toArray, List.getElem?_append_right (by rw [ofL_length]; omega), ofL_length]; rfl
theorem ofL_congr (of g : Nat → Nat) (h : ∀ c, c < 256 → of c = g c) : ofL of = ofL g := by
  unfold ofL
  apply List.map_congr_left
  intro c hc
  rw [h c (by simpa using hc)]
theorem partC_congr (of g : Nat → Nat) (n : Int) (h : ∀ c, c < 256 → of c = g c) : partC of n = partC g n := by
  unfold partC; rw [ofL_congr of g h]
theorem partC_set (of : Nat → Nat) (n : Int) (c k : Nat) (hc : c < 256) : (partC of n).setIfInBounds c (.int .u8 k) = partC (fun d => if d = c then k else of d) n := by
  unfold partC
  rw [List.setIfInBounds_toArray, List.set_append_left _ _ (by rw [ofL_length]; exact hc)]
  congr 2
  unfold ofL
  apply List.ext_getElem
  · simp
  · intro i h1 h2
    simp only [List.length_set, List.length_map, List.length_range] at h1
    rw [List.getElem_set]
    simp only [List.getElem_map, List.getElem_range]
    by_cases hi : c = i
    · subst hi; simp
    · have : ¬ i = c := fun e => hi e.symm
      simp [hi, this]
theorem partC_setN (of : Nat → Nat) (n m : Int) : (partC of n).setIfInBounds 256 (.int .i64 m) = partC of m := by
  unfold partC
  rw [List.setIfInBounds_toArray, List.set_append_right _ _ (by rw [ofL_length]; omega), ofL_length]
  rfl
theorem partC_one (of : Nat → Nat) (n : Int) : (partC of n).all (·.oneCell') = true := by
  rw [Array.all_eq_true_iff_forall_mem]
  intro v hv
  simp [partC, ofL] at hv
  rcases hv with ⟨c, -, rfl⟩ | rfl <;> rfl
theorem partC_inj {of g : Nat → Nat} {n m : Int} (h : partC of n = partC g m) : n = m ∧ ∀ c, c < 256 → of c = g c := by
  constructor
  · have := congrArg (fun a => a[256]?) h
    simp only [partC_n] at this
    injection this with this; injection this
  · intro c hc
    have := congrArg (fun a => a[c]?) h
    simp only [partC_get _ _ c hc] at this
    injection this with this; injection this with _ this; omega
end Go.Proofs.YtlbaecjmfgahgaaDoor
namespace Go.Proofs.YtlbaecjmfgahgaaDoor
open Go.RowKit Sets Cls
def prightB (of : Nat → Nat) (n : Int) : Bool := match rgo of 256 with | none => false | some k => (k : Int) == n
theorem rgo_none (of : Nat → Nat) : ∀ c d, c ≤ d → rgo of c = none → rgo of d = none
  | c, 0, h, g => by have : c = 0 := by omega
                     subst this; exact g
  | c, d + 1, h, g => by
    rcases Nat.lt_or_eq_of_le h with hl | rfl
    · simp only [rgo, rgo_none of c d (by omega) g]
    · exact g
theorem rgo_le (of : Nat → Nat) : ∀ c k, rgo of c = some k → k ≤ c
  | 0, k, h => by simp [rgo] at h; omega
  | c + 1, k, h => by
    simp only [rgo] at h
    cases hq : rgo of c with
    | none => rw [hq] at h; cases h
    | some m =>
      have := rgo_le of c m hq
      rw [hq] at h
      simp only at h
      split at h
      · cases h
      · split at h <;> (injection h with h; omega)
end Go.Proofs.YtlbaecjmfgahgaaDoor
namespace Go.Proofs.YtlbaecjmfgahgaaDoor
namespace Df
section
variable {σ : Type} [DecidableEq σ]
/-- The place of s in l; as long as l, if it is not there. -/
def ix : List σ → σ → Nat
  | [], _ => 0
  | x :: l, s => if x = s then 0 else ix l s + 1
def put (L : List σ) (s : σ) : List σ := if s ∈ L then L else L ++ [s]
def puts (f : Nat → σ) (L : List σ) : Nat → List σ
  | 0 => L
  | c + 1 => put (puts f L c) (f c)
theorem ix_lt : ∀ {L : List σ} {s : σ}, s ∈ L → ix L s < L.length
  | x :: l, s, h => by
    unfold ix
    by_cases e : x = s
    · rw [if_pos e]; simp
    · rw [if_neg e]
      have := ix_lt (L := l) (s := s) (by rcases List.mem_cons.1 h with h | h; exact absurd h.symm e; exact h)
      simp; exact this
theorem ix_out : ∀ {L : List σ} {s : σ}, s ∉ L → ix L s = L.length
  | [], _, _ => rfl
  | x :: l, s, h => by
    unfold ix
    rw [if_neg (fun e => h (by rw [e]; exact List.mem_cons_self ..)), ix_out (fun hm => h (List.mem_cons_of_mem _ hm))]; rfl
theorem ix_le (L : List σ) (s : σ) : ix L s ≤ L.length := by
  by_cases h : s ∈ L
  · exact Nat.le_of_lt (ix_lt h)
  · rw [ix_out h]; exact Nat.le_refl _
theorem ix_get : ∀ {L : List σ} {s : σ}, s ∈ L → L[ix L s]? = some s
  | x :: l, s, h => by
    unfold ix
    by_cases e : x = s
    · rw [if_pos e, e]; rfl
    · rw [if_neg e, List.getElem?_cons_succ]
      exact ix_get (by rcases List.mem_cons.1 h with h | h; exact absurd h.symm e; exact h)
theorem ix_app : ∀ {L : List σ} {s : σ} (M : List σ), s ∈ L → ix (L ++ M) s = ix L s
  | x :: l, s, M, h => by
    rw [List.cons_append]
    unfold ix
    by_cases e : x = s
    · rw [if_pos e, if_pos e]
    · rw [if_neg e, if_neg e, ix_app M (by rcases List.mem_cons.1 h with h | h; exact absurd h.symm e; exact h)]
theorem ix_at : ∀ {L : List σ} {i : Nat} {s : σ}, L.Nodup → L[i]? = some s → ix L s = i
  | x :: l, 0, s, _, h => by
    simp at h; subst h; unfold ix; rw [if_pos rfl]
  | x :: l, i + 1, s, hn, h => by
    rw [List.getElem?_cons_succ] at h
    have hm : s ∈ l := List.mem_of_getElem? h
    have hne : x ≠ s := fun e => (List.nodup_cons.1 hn).1 (e ▸ hm)
    unfold ix
    rw [if_neg hne, ix_at (List.nodup_cons.1 hn).2 h]
theorem put_old {L : List σ} {s : σ} (h : s ∈ L) : put L s = L := if_pos h
theorem put_new {L : List σ} {s : σ} (h : s ∉ L) : put L s = L ++ [s] := if_neg h
theorem put_pre (L : List σ) (s : σ) : ∃ M, put L s = L ++ M := by
  by_cases h : s ∈ L
  · exact ⟨[], by rw [put_old h, List.append_nil]⟩
  · exact ⟨[s], put_new h⟩
theorem mem_put (L : List σ) (s x : σ) : x ∈ put L s ↔ x ∈ L ∨ x = s := by
  by_cases h : s ∈ L
  · rw [put_old h]
    exact ⟨.inl, fun k => k.elim id (fun e => e ▸ h)⟩
  · rw [put_new h, List.mem_append, List.mem_singleton]
theorem put_nodup {L : List σ} (h : L.Nodup) (s : σ) : (put L s).Nodup := by
  by_cases hs : s ∈ L
  · rw [put_old hs]; exact h
  · rw [put_new hs]
    rw [List.nodup_append]
    refine ⟨h, by simp, fun a ha b hb => ?_⟩
    rw [List.mem_singleton] at hb
    subst hb
    exact fun e => hs (e ▸ ha)
theorem ix_put (L : List σ) (s : σ) : ix (put L s) s = ix L s := by
  by_cases h : s ∈ L
  · rw [put_old h]
  · rw [put_new h, ix_out h]
    have : ∀ (L : List σ), s ∉ L → ix (L ++ [s]) s = L.length := by
      intro L
      induction L with
      | nil => intro _; show ix [s] s = 0; unfold ix; rw [if_pos rfl]
      | cons x l ih =>
        intro h
        rw [List.cons_append]
        unfold ix
        rw [if_neg (fun e => h (by rw [e]; exact List.mem_cons_self ..)), ih (fun hm => h (List.mem_cons_of_mem _ hm))]; rfl
    exact this L h
theorem puts_pre (f : Nat → σ) (L : List σ) : ∀ c d, ∃ M, puts f L (c + d) = puts f L c ++ M
  | _, 0 => ⟨[], by simp⟩
  | c, d + 1 => by
    obtain ⟨M, hM⟩ := puts_pre f L c d
    obtain ⟨K, hK⟩ := put_pre (puts f L (c + d)) (f (c + d))
    refine ⟨M ++ K, ?_⟩
    show put (puts f L (c + d)) (f (c + d)) = _
    rw [hK, hM, List.append_assoc]
theorem puts_nodup {L : List σ} (h : L.Nodup) (f : Nat → σ) : ∀ c, (puts f L c).Nodup
  | 0 => h
  | c + 1 => put_nodup (puts_nodup h f c) _
theorem mem_puts (f : Nat → σ) (L : List σ) (x : σ) : ∀ c, x ∈ puts f L c ↔ x ∈ L ∨ ∃ d, d < c ∧ x = f d
  | 0 => ⟨.inl, fun h => h.elim id (fun ⟨d, hd, _⟩ => absurd hd (Nat.not_lt_zero _))⟩
  | c + 1 => by
    show x ∈ put (puts f L c) (f c) ↔ _
    rw [mem_put, mem_puts f L x c]
    constructor
    · rintro ((h | ⟨d, hd, h⟩) | h)
      · exact .inl h
      · exact .inr ⟨d, by omega, h⟩
      · exact .inr ⟨c, by omega, h⟩
    · rintro (h | ⟨d, hd, h⟩)
      · exact .inl (.inl h)
      · by_cases e : d = c
        · exact .inr (e ▸ h)
        · exact .inl (.inr ⟨d, by omega, h⟩)
/-- The numbers of the first c classes. -/
def rowTo (f : Nat → σ) (L : List σ) (c : Nat) : List Int := (List.range c).map fun d => ((ix (puts f L c) (f d) : Nat) : Int)
theorem rowTo_len (f : Nat → σ) (L : List σ) (c : Nat) : (rowTo f L c).length = c := by unfold rowTo; simp
theorem rowTo_get (f : Nat → σ) (L : List σ) (c d : Nat) (h : d < c) : (rowTo f L c).getD d 0 = (ix (puts f L c) (f d) : Nat) := by
  unfold rowTo
  rw [List.getD_eq_getElem?_getD, List.getElem?_map, List.getElem?_range h]; rfl
theorem ix_puts (f : Nat → σ) (L : List σ) (c d : Nat) (h : d < c) : ix (puts f L (c + 1)) (f d) = ix (puts f L c) (f d) := by
  obtain ⟨M, hM⟩ := puts_pre f L c 1
  rw [hM]
  exact ix_app M ((mem_puts f L _ c).2 (.inr ⟨d, h, rfl⟩))
theorem nodup_len : ∀ (L U : List σ), L.Nodup → (∀ s ∈ L, s ∈ U) → L.length ≤ U.length
  | [], U, _, _ => Nat.zero_le _
  | x :: l, U, hn, hu => by
    have h1 := List.nodup_cons.1 hn
    have hx : x ∈ U := hu x (List.mem_cons_self ..)
    have := nodup_len l (U.erase x) h1.2 (fun s hs => (List.mem_erase_of_ne (show s ≠ x from fun e => h1.1 (e ▸ hs))).2 (hu s (List.mem_cons_of_mem _ hs)))
    rw [List.length_erase_of_mem hx] at this
    have h0 : 0 < U.length := List.length_pos_of_mem hx
    rw [List.length_cons]; omega
/-- What has been made: the states L, of the first of them their rows R and whether they are final. -/
structure Mk (into : σ → Nat → σ) (fin : σ → Bool) (nc : Nat) (s0 : σ) (Ok : σ → Prop) (L : List σ) (R : List (List Int)) (F : List Bool) : Prop where
  nd : L.Nodup
  hd : L[0]? = some s0
  len : R.length ≤ L.length
  flen : F.length = R.length
  row : ∀ i s, i < R.length → L[i]? = some s → R[i]? = some ((List.range nc).map fun c => ((ix L (into s c) : Nat) : Int)) ∧ ∀ c, c < nc → into s c ∈ L
  fin : ∀ i s, i < R.length → L[i]? = some s → F[i]? = some (fin s)
  ok : ∀ s ∈ L, Ok s
  reach : ∀ i s, 0 < i → L[i]? = some s → ∃ j t c, j < i ∧ j < R.length ∧ c < nc ∧ L[j]? = some t ∧ s = into t c
theorem Mk.start {into : σ → Nat → σ} {fin : σ → Bool} {nc : Nat} {s0 : σ} {Ok : σ → Prop} (h : Ok s0) : Mk into fin nc s0 Ok [s0] [] [] := by
  refine ⟨by simp, rfl, by simp, rfl, fun i s hi => absurd hi (Nat.not_lt_zero _), fun i s hi => absurd hi (Nat.not_lt_zero _), fun s hs => ?_, fun i s hi h1 => ?_⟩
  · rw [List.mem_singleton] at hs; rw [hs]; exact h
  · rw [List.getElem?_eq_none (by simp; omega)] at h1; cases h1
theorem Mk.step {into : σ → Nat → σ} {fin : σ → Bool} {nc : Nat} {s0 : σ} {Ok : σ → Prop} {L : List σ} {R : List (List Int)} {F : List Bool} (h : Mk into fin nc s0 Ok L R F) {s : σ} (hs : L[R.length]? = some s)
    (hok : ∀ t c, Ok t → c < nc → Ok (into t c)) : Mk into fin nc s0 Ok (puts (into s) L nc) (R ++ [rowTo (into s) L nc]) (F ++ [fin s]) := by
  obtain ⟨M, hM⟩ := puts_pre (into s) L 0 nc
  rw [Nat.zero_add] at hM
  have hM : puts (into s) L nc = L ++ M := hM
  have hsL : R.length < L.length := (List.getElem?_eq_some_iff.1 hs).1
  have hget : ∀ i, i < L.length → (puts (into s) L nc)[i]? = L[i]? := fun i hi => by rw [hM, List.getElem?_append_left hi]
  refine ⟨puts_nodup h.nd _ _, ?_, ?_, ?_, fun i t hi ht => ?_, fun i t hi ht => ?_, fun t ht => ?_, fun i t hi ht => ?_⟩
  · rw [hget 0 (by omega)]; exact h.hd
  · rw [List.length_append, hM, List.length_append]; simp; omega
  · rw [List.length_append, List.length_append, h.flen]; simp
  · rw [List.length_append, List.length_cons, List.length_nil] at hi
    rw [hget i (by omega)] at ht
    by_cases e : i < R.length
    · obtain ⟨h1, h2⟩ := h.row i t e ht
      rw [List.getElem?_append_left e, h1]
      refine ⟨?_, fun c hc => (mem_puts _ _ _ _).2 (.inl (h2 c hc))⟩
      congr 1
      refine List.map_congr_left (fun c hc => ?_)
      rw [hM, ix_app M (h2 c (List.mem_range.1 hc))]
    · have e2 : i = R.length := by omega
      subst e2
      rw [hs] at ht
      cases ht
      rw [List.getElem?_append_right (Nat.le_refl _), Nat.sub_self]
      exact ⟨rfl, fun c hc => (mem_puts _ _ _ _).2 (.inr ⟨c, hc, rfl⟩)⟩
  · rw [List.length_append, List.length_cons, List.length_nil] at hi
    rw [hget i (by omega)] at ht
    by_cases e : i < R.length
    · rw [List.getElem?_append_left (by rw [h.flen]; exact e)]; exact h.fin i t e ht
    · have e2 : i = R.length := by omega
      subst e2
      rw [hs] at ht
      cases ht
      rw [List.getElem?_append_right (by rw [h.flen]; exact Nat.le_refl _), h.flen, Nat.sub_self]; rfl
  · rcases (mem_puts _ _ _ _).1 ht with h1 | ⟨d, hd, rfl⟩
    · exact h.ok t h1
    · exact hok _ _ (h.ok s (List.mem_of_getElem? hs)) hd
  · by_cases e : i < L.length
    · rw [hget i e] at ht
      obtain ⟨j, u, c, h1, h2, h3, h4, h5⟩ := h.reach i t hi ht
      exact ⟨j, u, c, h1, by rw [List.length_append]; omega, h3, by rw [hget j (by omega)]; exact h4, h5⟩
    · have hm : t ∈ puts (into s) L nc := List.mem_of_getElem? ht
      rcases (mem_puts _ _ _ _).1 hm with h1 | ⟨d, hd, rfl⟩
      · exfalso
        have hi1 := ix_at (puts_nodup h.nd (into s) nc) ht
        rw [hM, ix_app M h1] at hi1
        have := ix_lt h1
        omega
      · exact ⟨R.length, s, d, by omega, by rw [List.length_append]; simp, hd, by rw [hget _ hsL]; exact hs, rfl⟩
end
/-- An automaton as a value. -/
structure Dm where
  of : Nat → Nat
  n : Int
  R : List (List Int)
  F : List Bool
def inB (many : Nat) (k : Int) : Bool := decide (0 ≤ k) && decide (k < (many : Int))
def rightD (d : Dm) : Bool := prightB d.of d.n && (decide (0 < d.R.length) && (decide (d.F.length = d.R.length) && d.R.all fun l => decide ((l.length : Int) = d.n) && l.all (inB d.R.length)))
def goD (d : Dm) (i c : Nat) : Nat := ((d.R.getD i []).getD (d.of c) 0).toNat
def takesD (d : Dm) (w : List Nat) : Bool := rightD d && d.F.getD (w.foldl (goD d) 0) false
/-- What is made of all states: right, and it takes what the states say. -/
structure Done {σ : Type} [DecidableEq σ] (into : σ → Nat → σ) (fin : σ → Bool) (s0 : σ) (Ok : σ → Prop) (L : List σ) (d : Dm) : Prop where
  nc : ∃ nc : Nat, d.n = nc ∧ (∀ c, c < 256 → d.of c < nc) ∧ Mk into fin nc s0 Ok L d.R d.F
  all : d.R.length = L.length
  pr : prightB d.of d.n = true
section
variable {σ : Type} [DecidableEq σ] {into : σ → Nat → σ} {fin : σ → Bool} {s0 : σ} {Ok : σ → Prop} {L : List σ} {d : Dm}
theorem Done.many (h : Done into fin s0 Ok L d) : 0 < d.R.length := by
  obtain ⟨nc, -, -, hm⟩ := h.nc
  rw [h.all]; exact (List.getElem?_eq_some_iff.1 hm.hd).1
theorem Done.right (h : Done into fin s0 Ok L d) : rightD d = true := by
  obtain ⟨nc, hn, hof, hm⟩ := h.nc
  unfold rightD
  simp only [Bool.and_eq_true, decide_eq_true_iff, List.all_eq_true]
  refine ⟨h.pr, h.many, hm.flen, fun l hl => ?_⟩
  obtain ⟨i, hi⟩ := List.getElem?_of_mem hl
  have hiR := (List.getElem?_eq_some_iff.1 hi).1
  obtain ⟨s, hs⟩ : ∃ s, L[i]? = some s := ⟨_, List.getElem?_eq_getElem (by rw [← h.all]; exact hiR)⟩
  obtain ⟨h1, h2⟩ := hm.row i s hiR hs
  rw [hi] at h1
  injection h1 with h1
  subst h1
  refine ⟨by rw [hn]; simp, fun k hk => ?_⟩
  obtain ⟨c, hc, rfl⟩ := List.mem_map.1 hk
  have := ix_lt (h2 c (List.mem_range.1 hc))
  unfold inB
  rw [Bool.and_eq_true, decide_eq_true_iff, decide_eq_true_iff, h.all]
  omega
theorem Done.go (h : Done into fin s0 Ok L d) {i c : Nat} {s : σ} (hi : L[i]? = some s) (hc : c < 256) : L[goD d i c]? = some (into s (d.of c)) := by
  obtain ⟨nc, hn, hof, hm⟩ := h.nc
  have hiL := (List.getElem?_eq_some_iff.1 hi).1
  obtain ⟨h1, h2⟩ := hm.row i s (by rw [h.all]; exact hiL) hi
  unfold goD
  rw [List.getD_eq_getElem?_getD (l := d.R), h1, Option.getD_some, List.getD_eq_getElem?_getD, List.getElem?_map, List.getElem?_range (hof c hc)]
  exact ix_get (h2 _ (hof c hc))
theorem Done.fold (h : Done into fin s0 Ok L d) : ∀ (w : List Nat) (i : Nat) (s : σ), (∀ c ∈ w, c < 256) → L[i]? = some s → L[w.foldl (goD d) i]? = some (w.foldl (fun t c => into t (d.of c)) s)
  | [], _, _, _, hi => hi
  | c :: w, i, s, hw, hi => by
    rw [List.foldl_cons, List.foldl_cons]
    exact h.fold w _ _ (fun x hx => hw x (List.mem_cons_of_mem _ hx)) (h.go hi (hw c (List.mem_cons_self ..)))
theorem Done.takes (h : Done into fin s0 Ok L d) (w : List Nat) (hw : ∀ c ∈ w, c < 256) : takesD d w = fin (w.foldl (fun t c => into t (d.of c)) s0) := by
  obtain ⟨nc, hn, hof, hm⟩ := h.nc
  have hf := h.fold w 0 s0 hw hm.hd
  unfold takesD
  rw [h.right, Bool.true_and, List.getD_eq_getElem?_getD, hm.fin _ _ (by rw [h.all]; exact (List.getElem?_eq_some_iff.1 hf).1) hf]; rfl
end
end Df
end Go.Proofs.YtlbaecjmfgahgaaDoor
namespace Go.Proofs.YtlbaecjmfgahgaaDoor
open Go.RowKit Sets Cls
end Go.Proofs.YtlbaecjmfgahgaaDoor
namespace Go.Proofs.YtlbaecjmfgahgaaDoor
open Go.RowKit Sets Cls
/-- The cells of a set. -/
def set4 (S : Nat) : List Value := [.int .u64 (wd S 0), .int .u64 (wd S 1), .int .u64 (wd S 2), .int .u64 (wd S 3)]
/-- The cells of a row of sets. -/
def setsL (L : List Nat) : List Value := L.flatMap set4
theorem setsL_length (L : List Nat) : (setsL L).length = L.length * 4 := by
  induction L with
  | nil => rfl
  | cons S L ih => simp only [setsL, List.flatMap_cons, List.length_append, List.length_cons] at *; rw [ih]; simp [set4]; omega
theorem setsL_cons (S : Nat) (L : List Nat) : setsL (S :: L) = set4 S ++ setsL L := rfl
theorem setsL_get (L : List Nat) (i q : Nat) (hi : i < L.length) (hq : q < 4) : (setsL L)[i * 4 + q]? = some (.int .u64 (wd (L.getD i 0) q)) := by
  induction L generalizing i with
  | nil => simp at hi
  | cons S L ih =>
    rw [setsL_cons]
    cases i with
    | zero =>
      rw [Nat.zero_mul, Nat.zero_add, List.getElem?_append_left (by simp [set4]; omega)]
      have : q = 0 ∨ q = 1 ∨ q = 2 ∨ q = 3 := by omega
      rcases this with rfl | rfl | rfl | rfl <;> rfl
    | succ i =>
      rw [List.getElem?_append_right (by simp [set4]; omega)]
      have e : (i + 1) * 4 + q - (set4 S).length = i * 4 + q := by simp [set4]; omega
      rw [e, ih i (by simpa using hi)]
      simp
theorem setsL_set (L : List Nat) (i S : Nat) (hi : i < L.length) :
    ((((setsL L).set (i * 4) (.int .u64 (wd S 0))).set (i * 4 + 1) (.int .u64 (wd S 1))).set (i * 4 + 2) (.int .u64 (wd S 2))).set (i * 4 + 3) (.int .u64 (wd S 3)) = setsL (L.set i S) := by
  induction L generalizing i with
  | nil => simp at hi
  | cons T L ih =>
    cases i with
    | zero => simp [setsL_cons, set4]
    | succ i =>
      rw [List.set_cons_succ, setsL_cons, setsL_cons, ← ih i (by simpa using hi)]
      simp only [set4, List.cons_append, List.nil_append]
      rw [show (i + 1) * 4 = i * 4 + 1 + 1 + 1 + 1 from by omega]
      simp only [List.set_cons_succ, Nat.add_right_comm _ 1]
/-- Block g is a row of the sets L. -/
def SetsRow (w : World) (g : Nat) (L : List Nat) : Prop := w.heap[g]? = some (.cells (setsL L).toArray 39 (0, 0))
theorem SetsRow.lt {w : World} {g : Nat} {L : List Nat} (h : SetsRow w g L) : g < w.heap.size := (Array.getElem?_eq_some_iff.1 h).1
theorem SetsRow.kept {w w' : World} {A g : Nat} {L : List Nat} (h : SetsRow w g L) (hb : Below A w w') (hA : g < A) : SetsRow w' g L := by
  unfold SetsRow at *; rw [hb.block _ hA]; exact h
theorem SetsRow.cell {w : World} {g : Nat} {L : List Nat} (h : SetsRow w g L) (i q : Nat) (hi : i < L.length) (hq : q < 4) : w.cell? ⟨g, i * 4 + q, none⟩ = some (.int .u64 (wd (L.getD i 0) q)) := by
  rw [cell_of_row w g _ _ _ _ h, List.getElem?_toArray, setsL_get L i q hi hq]
theorem SetsRow.free {w : World} {g : Nat} {L : List Nat} (h : SetsRow w g L) (j : Nat) : w.frozen? ⟨g, j, none⟩ = false := frozen_of_row w g j _ _ h
theorem SetsRow.set {w : World} {g : Nat} {L : List Nat} (h : SetsRow w g L) (i S : Nat) (hi : i < L.length) :
    SetsRow ((((w.setCell ⟨g, i * 4, none⟩ (.int .u64 (wd S 0))).setCell ⟨g, i * 4 + 1, none⟩ (.int .u64 (wd S 1))).setCell ⟨g, i * 4 + 2, none⟩ (.int .u64 (wd S 2))).setCell ⟨g, i * 4 + 3, none⟩ (.int .u64 (wd S 3))) g (L.set i S) := by
  unfold SetsRow at *
  have h1 := heap_setCell_same w g (i * 4) _ _ (.int .u64 (wd S 0)) h
  have h2 := heap_setCell_same _ g (i * 4 + 1) _ _ (.int .u64 (wd S 1)) h1
  have h3 := heap_setCell_same _ g (i * 4 + 2) _ _ (.int .u64 (wd S 2)) h2
  have h4 := heap_setCell_same _ g (i * 4 + 3) _ _ (.int .u64 (wd S 3)) h3
  rw [h4, ← setsL_set L i S hi]
  simp only [List.setIfInBounds_toArray]
/-- The bytes below c that are of class k. -/
def clsSet (of : Nat → Nat) (c k : Nat) : Nat := ofN ((List.range c).filter fun d => of d == k)
theorem clsSet_zero (of : Nat → Nat) (k : Nat) : clsSet of 0 k = 0 := rfl
theorem clsSet_succ (of : Nat → Nat) (c k : Nat) : clsSet of (c + 1) k = if of c = k then clsSet of c k ||| 2 ^ c else clsSet of c k := by
  unfold clsSet
  rw [List.range_succ, List.filter_append]
  by_cases h : of c = k
  · rw [if_pos h]; simp [h, ofN, List.foldl_append]
  · rw [if_neg h]; simp [h]
theorem clsSet_bit (of : Nat → Nat) (c k d : Nat) : (clsSet of c k).testBit d = (decide (d < c) && of d == k) := by
  unfold clsSet
  rw [ofN_testBit, Bool.eq_iff_iff]
  simp [and_comm]
theorem clsSet_lt (of : Nat → Nat) (k : Nat) : clsSet of 256 k < 2 ^ 256 := ofN_lt _ (fun x hx => by simp at hx; exact hx.1)
def clsSets (of : Nat → Nat) (n c : Nat) : List Nat := (List.range n).map (clsSet of c)
theorem clsSets_length (of : Nat → Nat) (n c : Nat) : (clsSets of n c).length = n := by simp [clsSets]
theorem clsSets_get (of : Nat → Nat) (n c k : Nat) (h : k < n) : (clsSets of n c).getD k 0 = clsSet of c k := by simp [clsSets, h]
theorem clsSets_succ (of : Nat → Nat) (n c : Nat) : clsSets of n (c + 1) = (clsSets of n c).set (of c) (clsSet of c (of c) ||| 2 ^ c) := by
  unfold clsSets
  apply List.ext_getElem
  · simp
  · intro i h1 h2
    rw [List.getElem_set]
    simp only [List.getElem_map, List.getElem_range]
    rw [clsSet_succ]
    by_cases e : of c = i
    · subst e; simp
    · simp [e]
theorem infoS : (Tryd.prog.info? 39).map (fun i => (i.zero, i.size, i.bytes)) = some (some (.agg #[.int .u64 0, .int .u64 0, .int .u64 0, .int .u64 0]), 4, 32) := by kernel_rfl
theorem made_row {w w' : World} {B n : Nat} (h : w'.ownsRow B 39 4 (.slice (some ⟨w.heap.size, 0, none⟩) n n) n (madeCells (Value.agg #[.int .u64 0, .int .u64 0, .int .u64 0, .int .u64 0]).cells (n * 4)).toList) :
    SetsRow w' w.heap.size (List.replicate n 0) := by
  have key : ∀ n, (madeCells (Value.agg #[.int .u64 0, .int .u64 0, .int .u64 0, .int .u64 0]).cells (n * 4)).toList = setsL (List.replicate n 0) := by
    intro n
    apply List.ext_getElem
    · rw [Array.length_toList, size_madeCells, setsL_length, List.length_replicate]
    · intro j h1 h2
      rw [setsL_length, List.length_replicate] at h2
      have h3 := setsL_get (List.replicate n 0) (j / 4) (j % 4) (by rw [List.length_replicate]; omega) (by omega)
      rw [show j / 4 * 4 + j % 4 = j from by omega, List.getElem?_eq_getElem (by rw [setsL_length, List.length_replicate]; exact h2)] at h3
      rw [Option.some.inj h3]
      have e : (List.replicate n 0).getD (j / 4) 0 = 0 := by rw [List.getD_eq_getElem?_getD, List.getElem?_replicate]; split <;> rfl
      rw [e, wd_zero]
      simp only [madeCells, Array.getElem_toList, Array.getElem_map, Array.getElem_range]
      have : j % 4 = 0 ∨ j % 4 = 1 ∨ j % 4 = 2 ∨ j % 4 = 3 := by omega
      rcases this with e | e | e | e <;> simp [Value.cells, e]
  obtain ⟨h1, h2⟩ := h
  rcases h2 with ⟨h2, -⟩ | ⟨g, cap, cur, h2, -, hg, -, -, hs, ht⟩
  · cases h2
  · injection h2 with h2 h3 h4
    injection h2 with h2
    injection h2 with h2 _ _
    subst h2 h4
    unfold SetsRow
    rw [hg]
    rw [key] at ht
    rw [List.take_of_length_le (by rw [Array.length_toList, hs]; exact Nat.le_refl _)] at ht
    rw [← ht]
theorem setsL_one (S : Nat) : ofN [S] = 2 ^ S := by simp [ofN]
theorem bytesAt_one (w : World) (c : Nat) (hc : c < 256) : BytesAt (w.alloc (.cells #[.int .u8 c] 5)).drew (.slice (some ⟨w.heap.size, 0, none⟩) 1 1) [c] := by
  refine ⟨?_, by unfold maxLen; simp, _, _, rfl, ?_⟩
  · intro x hx; simp at hx; omega
  · intro i hi
    refine ⟨_, _, rfl, ?_⟩
    have : i = 0 := by simpa using hi
    subst this
    simp
theorem drew_drew_below {B : Nat} {w w' : World} (h : Below B w w') : Below B w w'.drew := h.drew
end Go.Proofs.YtlbaecjmfgahgaaDoor
namespace Go.Proofs.YtlbaecjmfgahgaaDoor
open Go.RowKit Sets Cls
def keyV (k : Nat × Nat) : Value := .agg #[.int .u8 k.1, .int .u64 k.2]
/-- The entries of the keys l, the first one numbered i. -/
def ents : Nat → List (Nat × Nat) → List MapEntry
  | _, [] => []
  | i, k :: l => { key := keyV k, val := .int .u8 i, born := i } :: ents (i + 1) l
theorem ents_length : ∀ (l : List (Nat × Nat)) (i : Nat), (ents i l).length = l.length
  | [], _ => rfl
  | _ :: l, i => by simp [ents, ents_length l (i + 1)]
theorem ents_snoc (k : Nat × Nat) : ∀ (l : List (Nat × Nat)) (i : Nat), ents i (l ++ [k]) = ents i l ++ [{ key := keyV k, val := .int .u8 (i + l.length : Nat), born := i + l.length }]
  | [], i => by simp [ents]
  | a :: l, i => by
    simp only [List.cons_append, ents, ents_snoc k l (i + 1), List.length_cons]
    rw [show i + 1 + l.length = i + (l.length + 1) from by omega]
/-- Block g is the map of the keys l, each with its number. -/
def TraitMap (w : World) (g : Nat) (l : List (Nat × Nat)) : Prop := w.heap[g]? = some (.map (ents 0 l).toArray l.length)
theorem TraitMap.lt {w : World} {g : Nat} {l : List (Nat × Nat)} (h : TraitMap w g l) : g < w.heap.size := (Array.getElem?_eq_some_iff.1 h).1
theorem TraitMap.kept {w w' : World} {A g : Nat} {l : List (Nat × Nat)} (h : TraitMap w g l) (hb : Below A w w') (hA : g < A) : TraitMap w' g l := by
  unfold TraitMap at *; rw [hb.block _ hA]; exact h
theorem TraitMap.made (w : World) : TraitMap (w.alloc (.map #[] 0)) w.heap.size [] := heap_alloc_new w _
theorem zeroB (w : World) : (zeroValue 5).run Tryd.prog w = .ok (.int .u8 0) w := by kernel_rfl
theorem getObj_run {P : Program} {w : World} {g : Nat} {es : Array MapEntry} {clock : Nat} (h : w.heap[g]? = some (.map es clock)) : (getObj g).run P w = .ok (.map es clock) w := MapKept.run_getObj_map h
theorem wpList_put {P : Program} {w : World} {ops : Array Oper} {rest : List Oper} {o : Oper} {a : Act} {Q : Exit → Act → World → Prop}
    (hg : o.guard = none) (m x v : Operand) (t : TypeId) (hop : o.op = Op.mapUpdate t m x v) (mv xv vv : Value) (hm : a.eval m = mv) (hx : a.eval x = xv) (hv : a.eval v = vv) {w' : World}
    (hrun : (Instr.mapUpdate t mv xv vv).run P w = .ok () w') (hK : wpList P ops Q rest (a.put o.dst undef) w') : wpList P ops Q (o :: rest) a w := by
  refine wpList_plain hg fun K' hK' => ?_
  unfold Oper.wp
  simp [execOp, hop, hm, hx, hv, hrun, Result.andThen]
  exact hK' _ _ hK
end Go.Proofs.YtlbaecjmfgahgaaDoor
