/- Several texts in one. -/
import Derived.Test.YtplkhgmjcljjhaaDoorPq04
namespace Go.Proofs.YtplkhgmjcljjhaaDoor
namespace Mi
/-- What comes behind a split: nothing is joined; of what is parted one half waits; what waits goes on to wait. -/
structure PRel (n : Nat) (O : Nat → Nat) (R : List Nat) (k : Nat) (O' : Nat → Nat) (R' : List Nat) (k' : Nat) : Prop where
  fine : ∀ s t, s < n → t < n → O' s = O' t → O s = O t
  waits : ∀ s t, s < n → t < n → O s = O t → O' s ≠ O' t → O' s ∈ R' ∨ O' t ∈ R'
  stay : ∀ s, s < n → O s ∈ R → O' s ∈ R'
  many : R'.length + k = R.length + k'
section
variable {n nc k k' k'' : Nat} {O O' O'' : Nat → Nat} {R R' R'' : List Nat}
theorem PRel.refl (n : Nat) (O : Nat → Nat) (R : List Nat) (k : Nat) : PRel n O R k O R k := ⟨fun _ _ _ _ h => h, fun _ _ _ _ h h2 => absurd h h2, fun _ _ h => h, rfl⟩
theorem PRel.trans (h : PRel n O R k O' R' k') (h2 : PRel n O' R' k' O'' R'' k'') : PRel n O R k O'' R'' k'' :=
  ⟨fun s t hs ht e => h.fine s t hs ht (h2.fine s t hs ht e), fun s t hs ht e ne => by
    by_cases e2 : O' s = O' t
    · exact h2.waits s t hs ht e2 ne
    · rcases h.waits s t hs ht e e2 with h3 | h3
      · exact .inl (h2.stay s hs h3)
      · exact .inr (h2.stay t ht h3), fun s hs hm => h2.stay s hs (h.stay s hs hm), by have := h.many; have := h2.many; omega⟩
/-- All is looked at, but for what waits. -/
def Stab (n nc : Nat) (δ : Nat → Nat → Nat) (O : Nat → Nat) (R : List Nat) : Prop :=
  ∀ s t c, s < n → t < n → c < nc → O s = O t → O (δ s c) ≠ O (δ t c) → O (δ s c) ∈ R ∨ O (δ t c) ∈ R
/-- The same, while the states Z are looked at: the first k classes are done. -/
def StabK (n nc : Nat) (δ : Nat → Nat → Nat) (O : Nat → Nat) (R : List Nat) (Z : Nat → Prop) (k : Nat) : Prop :=
  ∀ s t c, s < n → t < n → c < nc → O s = O t → O (δ s c) ≠ O (δ t c) → O (δ s c) ∈ R ∨ O (δ t c) ∈ R ∨ (k ≤ c ∧ ¬ (Z (δ s c) ↔ Z (δ t c)))
variable {δ : Nat → Nat → Nat} {Z : Nat → Prop}
theorem Stab.take {i : Nat} (h : Stab n nc δ O (R ++ [i])) : StabK n nc δ O R (fun s => O s = i) 0 := fun s t c hs ht hc e ne => by
  have key : ∀ x y, O x ≠ O y → O x ∈ R ++ [i] → O x ∈ R ∨ ¬ ((O x = i) ↔ (O y = i)) := fun x y hne hm => by
    rcases List.mem_append.1 hm with hm | hm
    · exact .inl hm
    · rw [List.mem_singleton] at hm
      exact .inr (fun hi => hne (hm.trans (hi.1 hm).symm))
  rcases h s t c hs ht hc e ne with hm | hm
  · rcases key _ _ ne hm with h1 | h1
    · exact .inl h1
    · exact .inr (.inr ⟨Nat.zero_le _, h1⟩)
  · rcases key _ _ (Ne.symm ne) hm with h1 | h1
    · exact .inr (.inl h1)
    · exact .inr (.inr ⟨Nat.zero_le _, fun hi => h1 ⟨hi.2, hi.1⟩⟩)
theorem StabK.next {k m m' : Nat} (h : StabK n nc δ O R Z k) (hp : PRel n O R m O' R' m') (hd : ∀ s c, s < n → c < nc → δ s c < n) (hsep : ∀ s t, s < n → t < n → O' s = O' t → (Z (δ s k) ↔ Z (δ t k))) : StabK n nc δ O' R' Z (k + 1) := fun s t c hs ht hc e ne => by
  have e0 := hp.fine s t hs ht e
  have h1 := hd s c hs hc
  have h2 := hd t c ht hc
  by_cases e1 : O (δ s c) = O (δ t c)
  · rcases hp.waits _ _ h1 h2 e1 ne with h3 | h3
    · exact .inl h3
    · exact .inr (.inl h3)
  · rcases h s t c hs ht hc e0 e1 with h3 | h3 | ⟨h3, h4⟩
    · exact .inl (hp.stay _ h1 h3)
    · exact .inr (.inl (hp.stay _ h2 h3))
    · by_cases ek : c = k
      · subst ek; exact absurd (hsep s t hs ht e) h4
      · exact .inr (.inr ⟨by omega, h4⟩)
theorem StabK.done (h : StabK n nc δ O R Z nc) : Stab n nc δ O R := fun s t c hs ht hc e ne => by
  rcases h s t c hs ht hc e ne with h3 | h3 | ⟨h3, _⟩
  · exact .inl h3
  · exact .inr h3
  · omega
/-- No text tells the two apart. -/
def Alk (nc : Nat) (δ : Nat → Nat → Nat) (F : Nat → Bool) (s t : Nat) : Prop := ∀ l : List Nat, (∀ c ∈ l, c < nc) → F (l.foldl δ s) = F (l.foldl δ t)
theorem Alk.refl (nc : Nat) (δ : Nat → Nat → Nat) (F : Nat → Bool) (s : Nat) : Alk nc δ F s s := fun _ _ => rfl
theorem Alk.step {F : Nat → Bool} {s t c : Nat} (h : Alk nc δ F s t) (hc : c < nc) : Alk nc δ F (δ s c) (δ t c) := fun l hl => h (c :: l) (fun x hx => by
  rcases List.mem_cons.1 hx with rfl | hx
  · exact hc
  · exact hl x hx)
theorem Alk.fin {F : Nat → Bool} {s t : Nat} (h : Alk nc δ F s t) : F s = F t := h [] (fun _ hx => by cases hx)
theorem Stab.alike {F : Nat → Bool} (h : Stab n nc δ O []) (hF : ∀ s t, s < n → t < n → O s = O t → F s = F t) (hd : ∀ s c, s < n → c < nc → δ s c < n) : ∀ (l : List Nat) (s t : Nat), (∀ c ∈ l, c < nc) → s < n → t < n → O s = O t → F (l.foldl δ s) = F (l.foldl δ t)
  | [], s, t, _, hs, ht, e => hF s t hs ht e
  | c :: l, s, t, hl, hs, ht, e => by
    have hc := hl c (List.mem_cons_self ..)
    refine h.alike hF hd l _ _ (fun x hx => hl x (List.mem_cons_of_mem _ hx)) (hd s c hs hc) (hd t c ht hc) ?_
    by_cases e1 : O (δ s c) = O (δ t c)
    · exact e1
    · rcases h s t c hs ht hc e e1 with h3 | h3 <;> cases h3
end
/-- A block: from, to, marked. -/
abbrev Bl := Nat × Nat × Nat
def gb (L : List Bl) (i : Nat) : Bl := L.getD i (0, 0, 0)
theorem gb_set (L : List Bl) (i j : Nat) (b : Bl) (h : i < L.length) : gb (L.set i b) j = if j = i then b else gb L j := by
  unfold gb
  rw [List.getD_eq_getElem?_getD, List.getElem?_set]
  by_cases e : i = j
  · subst e; rw [if_pos rfl, if_pos h, if_pos rfl]; rfl
  · rw [if_neg e, if_neg (fun h => e h.symm), List.getD_eq_getElem?_getD]
theorem gb_app (L : List Bl) (j : Nat) (b : Bl) (h : j < L.length + 1) : gb (L ++ [b]) j = if j = L.length then b else gb L j := by
  unfold gb
  rw [List.getD_eq_getElem?_getD, List.getD_eq_getElem?_getD]
  by_cases e : j = L.length
  · subst e; rw [if_pos rfl]; simp
  · rw [if_neg e, List.getElem?_append_left (by omega)]
def up (f : Nat → Nat) (a v : Nat) : Nat → Nat := fun x => if x = a then v else f x
theorem up_at (f : Nat → Nat) (a v : Nat) : up f a v a = v := if_pos rfl
theorem up_ne (f : Nat → Nat) {a x : Nat} (v : Nat) (h : x ≠ a) : up f a v x = f x := if_neg h
/-- The states in a row, block by block. -/
structure Pa (n : Nat) (S P O : Nat → Nat) (L : List Bl) : Prop where
  sp : ∀ p, p < n → S p < n ∧ P (S p) = p
  ps : ∀ s, s < n → P s < n ∧ S (P s) = s
  o : ∀ s, s < n → O s < L.length
  bl : ∀ i, i < L.length → (gb L i).1 < (gb L i).2.1 ∧ (gb L i).2.1 ≤ n ∧ (gb L i).1 + (gb L i).2.2 ≤ (gb L i).2.1
  iff : ∀ s i, s < n → i < L.length → (O s = i ↔ (gb L i).1 ≤ P s ∧ P s < (gb L i).2.1)
/-- Is a state marked? -/
def Mkd (P O : Nat → Nat) (L : List Bl) (s : Nat) : Prop := P s < (gb L (O s)).1 + (gb L (O s)).2.2
section
variable {n : Nat} {S P O : Nat → Nat} {L : List Bl}
theorem Pa.own (h : Pa n S P O L) {s : Nat} (hs : s < n) : (gb L (O s)).1 ≤ P s ∧ P s < (gb L (O s)).2.1 := (h.iff s (O s) hs (h.o s hs)).1 rfl
theorem Pa.inj (h : Pa n S P O L) {s t : Nat} (hs : s < n) (ht : t < n) (e : P s = P t) : s = t := by rw [← (h.ps s hs).2, e, (h.ps t ht).2]
theorem Pa.few (h : Pa n S P O L) : L.length ≤ n := by
  have hm : ∀ i, i < L.length → S (gb L i).1 < n ∧ O (S (gb L i).1) = i := fun i hi => by
    have hb := h.bl i hi
    have hp := h.sp (gb L i).1 (by omega)
    exact ⟨hp.1, (h.iff _ i hp.1 hi).2 (by rw [hp.2]; omega)⟩
  have := Df.nodup_len ((List.range L.length).map fun i => S (gb L i).1) (List.range n) (by
    rw [List.nodup_iff_pairwise_ne, List.pairwise_map]
    refine List.Pairwise.imp_of_mem ?_ (List.nodup_iff_pairwise_ne.1 List.nodup_range)
    intro a b ha hb hne he
    apply hne
    rw [← (hm a (List.mem_range.1 ha)).2, he, (hm b (List.mem_range.1 hb)).2]) (fun s hs => by
    obtain ⟨i, hi, rfl⟩ := List.mem_map.1 hs
    exact List.mem_range.2 (hm i (List.mem_range.1 hi)).1)
  rw [List.length_map, List.length_range, List.length_range] at this
  exact this
/-- A state is brought to the marked ones. -/
def mkS (S P O : Nat → Nat) (L : List Bl) (s : Nat) : Nat → Nat :=
  let to := (gb L (O s)).1 + (gb L (O s)).2.2
  up (up S (P s) (S to)) to s
def mkP (S P O : Nat → Nat) (L : List Bl) (s : Nat) : Nat → Nat :=
  let to := (gb L (O s)).1 + (gb L (O s)).2.2
  up (up P (S to) (P s)) s to
def mkL (O : Nat → Nat) (L : List Bl) (s : Nat) : List Bl := L.set (O s) ((gb L (O s)).1, (gb L (O s)).2.1, (gb L (O s)).2.2 + 1)
theorem mkL_len (O : Nat → Nat) (L : List Bl) (s : Nat) : (mkL O L s).length = L.length := by unfold mkL; rw [List.length_set]
theorem mark_pa (h : Pa n S P O L) {s : Nat} (hs : s < n) (hm : ¬ Mkd P O L s) :
    Pa n (mkS S P O L s) (mkP S P O L s) O (mkL O L s) ∧ ∀ t, t < n → (Mkd (mkP S P O L s) O (mkL O L s) t ↔ Mkd P O L t ∨ t = s) := by
  have ho := h.own hs
  have hol := h.o s hs
  have hb := h.bl _ hol
  unfold Mkd at hm
  have hgl : ∀ j, gb (mkL O L s) j = if j = O s then ((gb L (O s)).1, (gb L (O s)).2.1, (gb L (O s)).2.2 + 1) else gb L j := fun j => gb_set L (O s) j _ hol
  have hP : ∀ t, mkP S P O L s t = if t = s then (gb L (O s)).1 + (gb L (O s)).2.2 else if t = S ((gb L (O s)).1 + (gb L (O s)).2.2) then P s else P t := fun t => by unfold mkP up; rfl
  have hS : ∀ p, mkS S P O L s p = if p = (gb L (O s)).1 + (gb L (O s)).2.2 then s else if p = P s then S ((gb L (O s)).1 + (gb L (O s)).2.2) else S p := fun t => by unfold mkS up; rfl
  have hsp := h.sp ((gb L (O s)).1 + (gb L (O s)).2.2) (by omega)
  have hos := (h.iff (S ((gb L (O s)).1 + (gb L (O s)).2.2)) (O s) hsp.1 hol).2 (by rw [hsp.2]; omega)
  have hpos := h.ps s hs
  generalize hto : (gb L (O s)).1 + (gb L (O s)).2.2 = to at *
  generalize hot : S to = ot at *
  -- where a state stands, and what stands there
  have hfr : ∀ i, i < L.length → (gb (mkL O L s) i).1 = (gb L i).1 ∧ (gb (mkL O L s) i).2.1 = (gb L i).2.1 := fun i hi => by
    rw [hgl]
    by_cases e : i = O s
    · rw [if_pos e, e]; exact ⟨rfl, rfl⟩
    · rw [if_neg e]; exact ⟨rfl, rfl⟩
  have hPb : ∀ t i, t < n → i < L.length → ((gb L i).1 ≤ mkP S P O L s t ∧ mkP S P O L s t < (gb L i).2.1 ↔ (gb L i).1 ≤ P t ∧ P t < (gb L i).2.1) := fun t i ht hi => by
    rw [hP]
    by_cases e1 : t = s
    · rw [if_pos e1, e1, ← h.iff s i hs hi, ← hos]
      rw [h.iff ot i hsp.1 hi, hsp.2]
    · rw [if_neg e1]
      by_cases e2 : t = ot
      · rw [if_pos e2, ← h.iff t i ht hi, ← h.iff s i hs hi, e2, hos]
      · rw [if_neg e2]
  refine ⟨⟨fun p hp => ?_, fun t ht => ?_, fun t ht => by rw [mkL_len]; exact h.o t ht, fun i hi => ?_, fun t i ht hi => ?_⟩, fun t ht => ?_⟩
  · rw [hS]
    by_cases e1 : p = to
    · rw [if_pos e1, hP, if_pos rfl]; exact ⟨hs, e1.symm⟩
    · rw [if_neg e1]
      by_cases e2 : p = P s
      · rw [if_pos e2, hP]
        have : ot ≠ s := fun e => e1 (by rw [e2, ← e, hsp.2])
        rw [if_neg this, if_pos rfl]
        exact ⟨hsp.1, e2.symm⟩
      · rw [if_neg e2, hP]
        have h1 := h.sp p hp
        have n1 : S p ≠ s := fun e => e2 (by rw [← e, h1.2])
        have n2 : S p ≠ ot := fun e => e1 (by rw [← h1.2, e, hsp.2])
        rw [if_neg n1, if_neg n2]
        exact h1
  · rw [hP]
    by_cases e1 : t = s
    · rw [if_pos e1, hS, if_pos rfl]
      exact ⟨by omega, e1.symm⟩
    · rw [if_neg e1]
      by_cases e2 : t = ot
      · rw [if_pos e2, hS]
        have : P s ≠ to := fun e => e1 (by rw [e2, ← hot, ← e, hpos.2])
        rw [if_neg this, if_pos rfl]
        exact ⟨hpos.1, e2.symm⟩
      · rw [if_neg e2, hS]
        have h1 := h.ps t ht
        have n1 : P t ≠ to := fun e => e2 (by rw [← h1.2, e, hot])
        have n2 : P t ≠ P s := fun e => e1 (h.inj ht hs e)
        rw [if_neg n1, if_neg n2]
        exact h1
  · rw [mkL_len] at hi
    have h1 := h.bl i hi
    rw [hgl]
    by_cases e : i = O s
    · rw [if_pos e]; simp only []; omega
    · rw [if_neg e]; exact h1
  · rw [mkL_len] at hi
    rw [(hfr i hi).1, (hfr i hi).2, hPb t i ht hi]
    exact h.iff t i ht hi
  · unfold Mkd
    rw [hgl, hP]
    have h1 := h.own ht
    by_cases e1 : t = s
    · subst e1
      rw [if_pos rfl, if_pos rfl]
      simp only []
      exact ⟨fun _ => .inr trivial, fun _ => by omega⟩
    · rw [if_neg e1]
      by_cases e2 : t = ot
      · subst e2
        rw [if_pos rfl, if_pos hos]
        simp only []
        rw [hos]
        rw [hsp.2]
        have hne : P s ≠ to := fun e => e1 (by rw [← hot, ← e, hpos.2])
        constructor
        · intro h2; omega
        · rintro (h2 | h2)
          · omega
          · exact absurd h2 e1
      · rw [if_neg e2]
        by_cases e3 : O t = O s
        · rw [if_pos e3, e3]
          simp only []
          have hne : P t ≠ to := fun e => e2 (by rw [← hot, ← e, (h.ps t ht).2])
          constructor
          · intro h2; exact .inl (by omega)
          · rintro (h2 | h2)
            · omega
            · exact absurd h2 e1
        · rw [if_neg e3]
          exact ⟨fun h2 => .inl h2, fun h2 => h2.resolve_right e1⟩
/-- The marked states of the block i go into one of their own. -/
def spO (P O : Nat → Nat) (L : List Bl) (i : Nat) : Nat → Nat := fun s => if (gb L i).1 ≤ P s ∧ P s < (gb L i).1 + (gb L i).2.2 then L.length else O s
def spL (L : List Bl) (i : Nat) : List Bl := L.set i ((gb L i).1 + (gb L i).2.2, (gb L i).2.1, 0) ++ [((gb L i).1, (gb L i).1 + (gb L i).2.2, 0)]
def spR (L : List Bl) (R : List Nat) (i : Nat) : List Nat := if i ∈ R ∨ (gb L i).2.2 ≤ (gb L i).2.1 - ((gb L i).1 + (gb L i).2.2) then R ++ [L.length] else R ++ [i]
def clL (L : List Bl) (i : Nat) : List Bl := L.set i ((gb L i).1, (gb L i).2.1, 0)
theorem spL_len (L : List Bl) (i : Nat) : (spL L i).length = L.length + 1 := by unfold spL; simp
theorem spL_get {i : Nat} (hi : i < L.length) (j : Nat) (hj : j < L.length + 1) : gb (spL L i) j = if j = L.length then ((gb L i).1, (gb L i).1 + (gb L i).2.2, 0) else if j = i then ((gb L i).1 + (gb L i).2.2, (gb L i).2.1, 0) else gb L j := by
  unfold spL
  rw [gb_app _ _ _ (by rw [List.length_set]; exact hj), List.length_set]
  by_cases e : j = L.length
  · rw [if_pos e, if_pos e]
  · rw [if_neg e, if_neg e, gb_set _ _ _ _ hi]
theorem clear_pa (h : Pa n S P O L) {i : Nat} (hi : i < L.length) : Pa n S P O (clL L i) := by
  have hg : ∀ j, gb (clL L i) j = if j = i then ((gb L i).1, (gb L i).2.1, 0) else gb L j := fun j => gb_set L i j _ hi
  have hl : (clL L i).length = L.length := by unfold clL; rw [List.length_set]
  refine ⟨h.sp, h.ps, fun s hs => by rw [hl]; exact h.o s hs, fun j hj => ?_, fun s j hs hj => ?_⟩
  · rw [hl] at hj
    have := h.bl j hj
    rw [hg]
    by_cases e : j = i
    · rw [if_pos e]; subst e; simp only []; omega
    · rw [if_neg e]; exact this
  · rw [hl] at hj
    rw [h.iff s j hs hj, hg]
    by_cases e : j = i
    · rw [if_pos e, e]
    · rw [if_neg e]
theorem split_pa (h : Pa n S P O L) {i : Nat} (hi : i < L.length) (h0 : 0 < (gb L i).2.2) (hne : (gb L i).1 + (gb L i).2.2 ≠ (gb L i).2.1) : Pa n S P (spO P O L i) (spL L i) := by
  have hb := h.bl i hi
  refine ⟨h.sp, h.ps, fun s hs => ?_, fun j hj => ?_, fun s j hs hj => ?_⟩
  · rw [spL_len]; unfold spO
    have := h.o s hs
    by_cases e : (gb L i).1 ≤ P s ∧ P s < (gb L i).1 + (gb L i).2.2
    · rw [if_pos e]; omega
    · rw [if_neg e]; omega
  · rw [spL_len] at hj
    rw [spL_get hi j hj]
    by_cases e : j = L.length
    · rw [if_pos e]; simp only []; omega
    · rw [if_neg e]
      by_cases e2 : j = i
      · rw [if_pos e2]; simp only []; omega
      · rw [if_neg e2]; exact h.bl j (by omega)
  · rw [spL_len] at hj
    rw [spL_get hi j hj]
    have ho := h.o s hs
    have hii := h.iff s i hs hi
    unfold spO
    by_cases e : (gb L i).1 ≤ P s ∧ P s < (gb L i).1 + (gb L i).2.2
    · rw [if_pos e]
      have hoi : O s = i := hii.2 (by omega)
      by_cases e1 : j = L.length
      · rw [if_pos e1]; simp only []; exact ⟨fun _ => e, fun _ => e1.symm⟩
      · rw [if_neg e1]
        refine ⟨fun h => absurd h.symm e1, fun h2 => ?_⟩
        exfalso
        by_cases e2 : j = i
        · rw [if_pos e2] at h2; simp only [] at h2; omega
        · rw [if_neg e2] at h2
          have := (h.iff s j hs (by omega)).2 h2
          omega
    · rw [if_neg e]
      by_cases e1 : j = L.length
      · rw [if_pos e1]; simp only []
        exact ⟨fun h => by omega, fun h => absurd h e⟩
      · rw [if_neg e1]
        by_cases e2 : j = i
        · rw [if_pos e2, e2]; simp only []
          rw [hii]; omega
        · rw [if_neg e2]; exact h.iff s j hs (by omega)
/-- Which states a split leaves together. -/
theorem split_same (h : Pa n S P O L) {i : Nat} (hi : i < L.length) {s t : Nat} (hs : s < n) (ht : t < n) : spO P O L i s = spO P O L i t ↔ O s = O t ∧ (O s = i → (Mkd P O L s ↔ Mkd P O L t)) := by
  have hb := h.bl i hi
  have key : ∀ s, s < n → ((gb L i).1 ≤ P s ∧ P s < (gb L i).1 + (gb L i).2.2 ↔ O s = i ∧ Mkd P O L s) := fun s hs => by
    have hii := h.iff s i hs hi
    unfold Mkd
    constructor
    · intro h2
      have : O s = i := hii.2 (by omega)
      exact ⟨this, by rw [this]; exact h2.2⟩
    · rintro ⟨h2, h3⟩
      rw [h2] at h3
      exact ⟨(hii.1 h2).1, h3⟩
  have hso := h.o s hs
  have hto := h.o t ht
  unfold spO
  by_cases e1 : (gb L i).1 ≤ P s ∧ P s < (gb L i).1 + (gb L i).2.2
  · rw [if_pos e1]
    have k1 := (key s hs).1 e1
    by_cases e2 : (gb L i).1 ≤ P t ∧ P t < (gb L i).1 + (gb L i).2.2
    · rw [if_pos e2]
      have k2 := (key t ht).1 e2
      exact ⟨fun _ => ⟨k1.1.trans k2.1.symm, fun _ => ⟨fun _ => k2.2, fun _ => k1.2⟩⟩, fun _ => rfl⟩
    · rw [if_neg e2]
      refine ⟨fun h => by omega, fun ⟨h1, h2⟩ => ?_⟩
      exact absurd ((key t ht).2 ⟨h1 ▸ k1.1, (h2 k1.1).1 k1.2⟩) e2
  · rw [if_neg e1]
    by_cases e2 : (gb L i).1 ≤ P t ∧ P t < (gb L i).1 + (gb L i).2.2
    · rw [if_pos e2]
      have k2 := (key t ht).1 e2
      refine ⟨fun h => by omega, fun ⟨h1, h2⟩ => ?_⟩
      exact absurd ((key s hs).2 ⟨h1.trans k2.1, (h2 (h1.trans k2.1)).2 k2.2⟩) e1
    · rw [if_neg e2]
      refine ⟨fun h => ⟨h, fun hi2 => ?_⟩, fun h => h.1⟩
      have n1 : ¬ Mkd P O L s := fun hm => e1 ((key s hs).2 ⟨hi2, hm⟩)
      have n2 : ¬ Mkd P O L t := fun hm => e2 ((key t ht).2 ⟨h ▸ hi2, hm⟩)
      exact ⟨fun hm => absurd hm n1, fun hm => absurd hm n2⟩
/-- What a split does to those that wait. -/
theorem split_rel (h : Pa n S P O L) {i : Nat} (hi : i < L.length) (R : List Nat) : PRel n O R L.length (spO P O L i) (spR L R i) (spL L i).length := by
  have hio : ∀ s, s < n → (spO P O L i s ≠ O s → O s = i ∧ spO P O L i s = L.length) := fun s hs hne => by
    unfold spO at hne ⊢
    have hb := h.bl i hi
    by_cases e : (gb L i).1 ≤ P s ∧ P s < (gb L i).1 + (gb L i).2.2
    · rw [if_pos e]; exact ⟨(h.iff s i hs hi).2 (by omega), rfl⟩
    · rw [if_neg e] at hne; exact absurd rfl hne
  have hsub : ∀ x, x ∈ R → x ∈ spR L R i := fun x hx => by
    unfold spR; split <;> exact List.mem_append_left _ hx
  refine ⟨fun s t hs ht e => ((split_same h hi hs ht).1 e).1, fun s t hs ht e ne => ?_, fun s hs hm => ?_, ?_⟩
  · -- one of both is in the new block, the other one in the old
    have hk : L.length ∈ spR L R i ∨ i ∈ spR L R i := by
      unfold spR; split
      · exact .inl (by simp)
      · exact .inr (by simp)
    by_cases e1 : spO P O L i s = O s
    · by_cases e2 : spO P O L i t = O t
      · exact absurd (by rw [e1, e2, e]) ne
      · have := hio t ht e2
        rcases hk with hk | hk
        · exact .inr (by rw [this.2]; exact hk)
        · exact .inl (by rw [e1, e, this.1]; exact hk)
    · have h1 := hio s hs e1
      by_cases e2 : spO P O L i t = O t
      · rcases hk with hk | hk
        · exact .inl (by rw [h1.2]; exact hk)
        · exact .inr (by rw [e2, ← e, h1.1]; exact hk)
      · exact absurd (h1.2.trans (hio t ht e2).2.symm) ne
  · by_cases e1 : spO P O L i s = O s
    · rw [e1]; exact hsub _ hm
    · have h1 := hio s hs e1
      rw [h1.2]
      rw [h1.1] at hm
      unfold spR
      rw [if_pos (.inl hm)]
      simp
  · rw [spL_len]
    unfold spR
    split <;> simp <;> omega
theorem split_nodup {R : List Nat} (hn : R.Nodup) {i : Nat} (hi : i < L.length) (hl : ∀ x ∈ R, x < L.length) : (spR L R i).Nodup ∧ ∀ x ∈ spR L R i, x < (spL L i).length := by
  rw [spL_len]
  unfold spR
  by_cases e : i ∈ R ∨ (gb L i).2.2 ≤ (gb L i).2.1 - ((gb L i).1 + (gb L i).2.2)
  · rw [if_pos e]
    refine ⟨?_, fun x hx => ?_⟩
    · rw [List.nodup_append]
      refine ⟨hn, by simp, fun a ha b hb => ?_⟩
      rw [List.mem_singleton] at hb
      have := hl a ha
      omega
    · rcases List.mem_append.1 hx with hx | hx
      · have := hl x hx; omega
      · rw [List.mem_singleton] at hx; omega
  · rw [if_neg e]
    refine ⟨?_, fun x hx => ?_⟩
    · rw [List.nodup_append]
      refine ⟨hn, by simp, fun a ha b hb => ?_⟩
      rw [List.mem_singleton] at hb
      subst hb
      exact fun e2 => e (.inl (e2 ▸ ha))
    · rcases List.mem_append.1 hx with hx | hx
      · have := hl x hx; omega
      · rw [List.mem_singleton] at hx; omega
end
end Mi
end Go.Proofs.YtplkhgmjcljjhaaDoor
namespace Go.Proofs.YtplkhgmjcljjhaaDoor
namespace Mi
/-- All marks are gone; the blocks that wait are there, each once. -/
structure Fr (n : Nat) (S P O : Nat → Nat) (L : List Bl) (R : List Nat) : Prop where
  pa : Pa n S P O L
  clean : ∀ i, i < L.length → (gb L i).2.2 = 0
  nd : R.Nodup
  lt : ∀ x ∈ R, x < L.length
/-- The first j of the list are marked. -/
structure MkI (n : Nat) (O : Nat → Nat) (l : List Nat) (j : Nat) (S P : Nat → Nat) (L : List Bl) (T : List Nat) : Prop where
  pa : Pa n S P O L
  nd : T.Nodup
  lt : ∀ x ∈ T, x < L.length
  tch : ∀ i, i < L.length → (i ∈ T ↔ 0 < (gb L i).2.2)
  mkd : ∀ t, t < n → (Mkd P O L t ↔ t ∈ l.take j)
section
variable {n j : Nat} {S P O : Nat → Nat} {L : List Bl} {R T l : List Nat}
theorem MkI.start (h : Fr n S P O L R) (l : List Nat) : MkI n O l 0 S P L [] := by
  refine ⟨h.pa, List.nodup_nil, fun x hx => (by cases hx), fun i hi => ?_, fun t ht => ?_⟩
  · rw [h.clean i hi]; simp
  · unfold Mkd
    have := h.pa.own ht
    rw [h.clean _ (h.pa.o t ht)]
    simp
    omega
theorem take_snoc {l : List Nat} {j s : Nat} (h : l[j]? = some s) : l.take (j + 1) = l.take j ++ [s] := by
  rw [List.take_add_one, h]; rfl
theorem not_taken {l : List Nat} (hn : l.Nodup) {j s : Nat} (h : l[j]? = some s) : s ∉ l.take j := fun hm => by
  have e := List.take_append_drop j l
  rw [← e] at hn
  have h2 := (List.nodup_append.1 hn).2.2 s hm s (by
    rw [List.mem_iff_getElem?]
    exact ⟨0, by rw [List.getElem?_drop]; exact h⟩)
  exact h2 rfl
/-- The touched blocks behind a mark. -/
def mkT (O : Nat → Nat) (L : List Bl) (T : List Nat) (s : Nat) : List Nat := if (gb L (O s)).2.2 = 0 then T ++ [O s] else T
theorem MkI.next (h : MkI n O l j S P L T) {s : Nat} (hl : l.Nodup) (hs : l[j]? = some s) (hn : s < n) : ¬ Mkd P O L s ∧ MkI n O l (j + 1) (mkS S P O L s) (mkP S P O L s) (mkL O L s) (mkT O L T s) := by
  have hm : ¬ Mkd P O L s := fun hm => not_taken hl hs ((h.mkd s hn).1 hm)
  obtain ⟨h1, h2⟩ := mark_pa h.pa hn hm
  have hol := h.pa.o s hn
  have hgl : ∀ j, gb (mkL O L s) j = if j = O s then ((gb L (O s)).1, (gb L (O s)).2.1, (gb L (O s)).2.2 + 1) else gb L j := fun j => gb_set L (O s) j _ hol
  have hT := h.tch (O s) hol
  refine ⟨hm, h1, ?_, fun x hx => ?_, fun i hi => ?_, fun t ht => ?_⟩
  · unfold mkT
    by_cases e : (gb L (O s)).2.2 = 0
    · rw [if_pos e, List.nodup_append]
      refine ⟨h.nd, by simp, fun a ha b hb => ?_⟩
      rw [List.mem_singleton] at hb
      subst hb
      intro e2
      rw [e2, hT] at ha
      omega
    · rw [if_neg e]; exact h.nd
  · rw [mkL_len]
    unfold mkT at hx
    by_cases e : (gb L (O s)).2.2 = 0
    · rw [if_pos e] at hx
      rcases List.mem_append.1 hx with hx | hx
      · exact h.lt x hx
      · rw [List.mem_singleton] at hx; rw [hx]; exact hol
    · rw [if_neg e] at hx; exact h.lt x hx
  · rw [mkL_len] at hi
    rw [hgl]
    unfold mkT
    by_cases e1 : i = O s
    · rw [if_pos e1]; simp only []
      subst e1
      by_cases e : (gb L (O s)).2.2 = 0
      · rw [if_pos e]; simp
      · rw [if_neg e, hT]; omega
    · rw [if_neg e1, ← h.tch i hi]
      by_cases e : (gb L (O s)).2.2 = 0
      · rw [if_pos e]; simp [e1]
      · rw [if_neg e]
  · rw [h2 t ht, h.mkd t ht, take_snoc hs]
    simp
/-- The first j of the touched blocks are split. -/
structure SpI (n : Nat) (S P O0 : Nat → Nat) (L0 : List Bl) (R0 T : List Nat) (j : Nat) (O : Nat → Nat) (L : List Bl) (R : List Nat) : Prop where
  pa : Pa n S P O L
  len : L0.length ≤ L.length
  todo : ∀ i ∈ T.drop j, i < L0.length ∧ 0 < (gb L0 i).2.2 ∧ gb L i = gb L0 i
  clean : ∀ i, i < L.length → i ∉ T.drop j → (gb L i).2.2 = 0
  same : ∀ s t, s < n → t < n → (O s = O t ↔ O0 s = O0 t ∧ (O0 s ∈ T.take j → (Mkd P O0 L0 s ↔ Mkd P O0 L0 t)))
  rel : PRel n O0 R0 L0.length O R L.length
  nd : R.Nodup
  lt : ∀ x ∈ R, x < L.length
theorem SpI.start {j : Nat} (h : MkI n O l j S P L T) (hn : R.Nodup) (hl : ∀ x ∈ R, x < L.length) : SpI n S P O L R T 0 O L R := by
  refine ⟨h.pa, Nat.le_refl _, fun i hi => ?_, fun i hi hni => ?_, fun s t hs ht => ?_, PRel.refl .., hn, hl⟩
  · rw [List.drop_zero] at hi
    have := h.lt i hi
    exact ⟨this, (h.tch i this).1 hi, rfl⟩
  · rw [List.drop_zero] at hni
    exact Nat.eq_zero_of_not_pos fun hp => hni ((h.tch i hi).2 hp)
  · simp
variable {O0 : Nat → Nat} {L0 : List Bl} {R0 : List Nat}
theorem drop_mem {T : List Nat} {j i : Nat} (h : T[j]? = some i) : T.drop j = i :: T.drop (j + 1) := by
  obtain ⟨hl, e⟩ := List.getElem?_eq_some_iff.1 h
  rw [← e]
  exact List.drop_eq_getElem_cons hl
theorem SpI.own (h : SpI n S P O0 L0 R0 T j O L R) (h0 : Pa n S P O0 L0) {i : Nat} (hi : i ∈ T.drop j) {s : Nat} (hs : s < n) : O s = i ↔ O0 s = i := by
  obtain ⟨h1, _, h3⟩ := h.todo i hi
  rw [h.pa.iff s i hs (Nat.lt_of_lt_of_le h1 h.len), h0.iff s i hs h1, h3]
theorem SpI.mkd (h : SpI n S P O0 L0 R0 T j O L R) (h0 : Pa n S P O0 L0) {i : Nat} (hi : i ∈ T.drop j) {s : Nat} (hs : s < n) (e : O0 s = i) : Mkd P O L s ↔ Mkd P O0 L0 s := by
  have e2 := (h.own h0 hi hs).2 e
  unfold Mkd
  rw [e, e2, (h.todo i hi).2.2]
theorem SpI.sameStep (h : SpI n S P O0 L0 R0 T j O L R) (h0 : Pa n S P O0 L0) {i : Nat} (hT : T[j]? = some i) {s t : Nat} (hs : s < n) (ht : t < n) :
    (O s = O t ∧ (O s = i → (Mkd P O L s ↔ Mkd P O L t))) ↔ (O0 s = O0 t ∧ (O0 s ∈ T.take (j + 1) → (Mkd P O0 L0 s ↔ Mkd P O0 L0 t))) := by
  have hi : i ∈ T.drop j := by rw [drop_mem hT]; exact List.mem_cons_self ..
  rw [h.same s t hs ht, take_snoc hT]
  constructor
  · rintro ⟨⟨h1, h2⟩, h3⟩
    refine ⟨h1, fun hm => ?_⟩
    rcases List.mem_append.1 hm with hm | hm
    · exact h2 hm
    · rw [List.mem_singleton] at hm
      have := h3 ((h.own h0 hi hs).2 hm)
      rw [h.mkd h0 hi hs hm, h.mkd h0 hi ht (h1 ▸ hm)] at this
      exact this
  · rintro ⟨h1, h2⟩
    refine ⟨⟨h1, fun hm => h2 (List.mem_append_left _ hm)⟩, fun hi2 => ?_⟩
    have e := (h.own h0 hi hs).1 hi2
    rw [h.mkd h0 hi hs e, h.mkd h0 hi ht (h1 ▸ e)]
    exact h2 (List.mem_append_right _ (by rw [e]; simp))
theorem SpI.here (h : SpI n S P O0 L0 R0 T j O L R) {i : Nat} (hT : T[j]? = some i) : i < L.length ∧ 0 < (gb L i).2.2 := by
  have hi : i ∈ T.drop j := by rw [drop_mem hT]; exact List.mem_cons_self ..
  obtain ⟨h1, h2, h3⟩ := h.todo i hi
  exact ⟨Nat.lt_of_lt_of_le h1 h.len, by rw [h3]; exact h2⟩
theorem SpI.clear (h : SpI n S P O0 L0 R0 T j O L R) (h0 : Pa n S P O0 L0) (hTn : T.Nodup) {i : Nat} (hT : T[j]? = some i) (he : (gb L i).1 + (gb L i).2.2 = (gb L i).2.1) : SpI n S P O0 L0 R0 T (j + 1) O (clL L i) R := by
  obtain ⟨hi, hp⟩ := h.here hT
  have hd := drop_mem hT
  have hg : ∀ j, gb (clL L i) j = if j = i then ((gb L i).1, (gb L i).2.1, 0) else gb L j := fun j => gb_set L i j _ hi
  have hl : (clL L i).length = L.length := by unfold clL; rw [List.length_set]
  have hni : i ∉ T.drop (j + 1) := by
    have : (T.drop j).Nodup := hTn.sublist (List.drop_sublist _ _)
    rw [hd] at this
    exact (List.nodup_cons.1 this).1
  refine ⟨clear_pa h.pa hi, by rw [hl]; exact h.len, fun x hx => ?_, fun x hx hnx => ?_, fun s t hs ht => ?_, by rw [hl]; exact h.rel, h.nd, fun x hx => by rw [hl]; exact h.lt x hx⟩
  · have := h.todo x (by rw [hd]; exact List.mem_cons_of_mem _ hx)
    rw [hg, if_neg (fun e : x = i => hni (e ▸ hx))]
    exact this
  · rw [hl] at hx
    rw [hg]
    by_cases e : x = i
    · rw [if_pos e]
    · rw [if_neg e]
      exact h.clean x hx (by rw [hd]; exact fun hm => (List.mem_cons.1 hm).elim e hnx)
  · rw [← h.sameStep h0 hT hs ht]
    refine ⟨fun h1 => ⟨h1, fun h2 => ?_⟩, fun h1 => h1.1⟩
    have m1 : ∀ s, s < n → O s = i → Mkd P O L s := fun s hs e => by
      unfold Mkd
      rw [e, he]
      exact ((h.pa.iff s i hs hi).1 e).2
    exact ⟨fun _ => m1 t ht (h1 ▸ h2), fun _ => m1 s hs h2⟩
theorem SpI.split (h : SpI n S P O0 L0 R0 T j O L R) (h0 : Pa n S P O0 L0) (hTn : T.Nodup) {i : Nat} (hT : T[j]? = some i) (he : (gb L i).1 + (gb L i).2.2 ≠ (gb L i).2.1) : SpI n S P O0 L0 R0 T (j + 1) (spO P O L i) (spL L i) (spR L R i) := by
  obtain ⟨hi, hp⟩ := h.here hT
  have hd := drop_mem hT
  have hni : i ∉ T.drop (j + 1) := by
    have : (T.drop j).Nodup := hTn.sublist (List.drop_sublist _ _)
    rw [hd] at this
    exact (List.nodup_cons.1 this).1
  have hnd := split_nodup h.nd hi h.lt
  refine ⟨split_pa h.pa hi hp he, by rw [spL_len]; have := h.len; omega, fun x hx => ?_, fun x hx hnx => ?_, fun s t hs ht => ?_, h.rel.trans (split_rel h.pa hi R), hnd.1, hnd.2⟩
  · have := h.todo x (by rw [hd]; exact List.mem_cons_of_mem _ hx)
    have hlen := h.len
    rw [spL_get hi x (by omega), if_neg (by omega), if_neg (fun e : x = i => hni (e ▸ hx))]
    exact this
  · rw [spL_len] at hx
    rw [spL_get hi x hx]
    by_cases e : x = L.length
    · rw [if_pos e]
    · rw [if_neg e]
      by_cases e2 : x = i
      · rw [if_pos e2]
      · rw [if_neg e2]
        exact h.clean x (by omega) (by rw [hd]; exact fun hm => (List.mem_cons.1 hm).elim e2 hnx)
  · rw [split_same h.pa hi hs ht, h.sameStep h0 hT hs ht]
/-- What a telling apart by the states of l leaves. -/
structure Told (n : Nat) (l : List Nat) (O : Nat → Nat) (R : List Nat) (k : Nat) (O' : Nat → Nat) (R' : List Nat) (k' : Nat) : Prop where
  same : ∀ s t, s < n → t < n → (O' s = O' t ↔ O s = O t ∧ (s ∈ l ↔ t ∈ l))
  rel : PRel n O R k O' R' k'
theorem SpI.done (hm : MkI n O0 l l.length S P L0 T) (h : SpI n S P O0 L0 R0 T T.length O L R) : Fr n S P O L R ∧ Told n l O0 R0 L0.length O R L.length := by
  refine ⟨⟨h.pa, fun i hi => h.clean i hi (by rw [List.drop_length]; simp), h.nd, h.lt⟩, ⟨fun s t hs ht => ?_, h.rel⟩⟩
  have hmk : ∀ t, t < n → (Mkd P O0 L0 t ↔ t ∈ l) := fun t ht => by rw [hm.mkd t ht, List.take_length]
  rw [h.same s t hs ht, List.take_length, ← hmk s hs, ← hmk t ht]
  have hz : ∀ s, s < n → Mkd P O0 L0 s → O0 s ∈ T := fun s hs hmm => by
    have h1 := hm.pa.o s hs
    have h2 := hm.pa.own hs
    unfold Mkd at hmm
    exact (hm.tch _ h1).2 (by omega)
  refine ⟨fun ⟨h1, h2⟩ => ⟨h1, ?_⟩, fun ⟨h1, h2⟩ => ⟨h1, fun _ => h2⟩⟩
  exact ⟨fun hs2 => (h2 (hz s hs hs2)).1 hs2, fun ht2 => (h2 (h1 ▸ hz t ht ht2)).2 ht2⟩
end
end Mi
end Go.Proofs.YtplkhgmjcljjhaaDoor
