/- Several texts in one. -/
import Derived.Test.YtmjjkamndlefmaaDoorPqS6
import Derived.Test.YtmjjkamndlefmaaDoorPqN1
import Derived.Laws.AppendOwnNone
import Derived.Deep.CutRange
import Derived.Deep.CutBlock
import Derived.Test.YtmjjkamndlefmaaDoorPq34
namespace Go.Proofs.YtmjjkamndlefmaaDoor
open Sets Nf Df
namespace Sk
/-- What the document's Word answers. -/
def RWordIs (d : Dm) (s : ByteArray) (ok : Bool) : Prop :=
  (ok = true ∧ Best d (Nf.bs s)) ∨ (ok = false ∧ s = ⟨#[]⟩ ∧ ∀ u, byt u → u.length ≤ d.R.length → takesR d u = false)
/-- Of one length: which states are reached, and by which least text. -/
def DPs (d : Dm) (sz : Nat) (A : Nat → ByteArray) (I : Nat → Bool) : Prop := ∀ q, q < d.R.length →
  (I q = true ↔ ∃ u, byt u ∧ u.length = sz ∧ led d u = q) ∧
  (I q = true → byt (Nf.bs (A q)) ∧ (A q).size = sz ∧ led d (Nf.bs (A q)) = q ∧ ∀ u, byt u → u.length = sz → led d u = q → Le (Nf.bs (A q)) u)
theorem DPs.start (d : Dm) : DPs d 0 (fun _ => ⟨#[]⟩) (fun q => if q = 0 then true else false) := fun q _ => by
  show ((if q = 0 then true else false) = true ↔ _) ∧ ((if q = 0 then true else false) = true → _)
  constructor
  · by_cases e : q = 0
    · rw [if_pos e]
      exact ⟨fun _ => ⟨[], fun x hx => (by cases hx), rfl, e.symm⟩, fun _ => rfl⟩
    · rw [if_neg e]
      constructor
      · intro h; cases h
      · rintro ⟨u, -, hu, h⟩
        rw [List.length_eq_zero_iff] at hu
        rw [hu] at h
        exact absurd h.symm e
  · intro h
    have e : q = 0 := by
      by_cases e : q = 0
      · exact e
      · rw [if_neg e] at h; cases h
    exact ⟨fun x hx => (by cases hx), rfl, e.symm, fun u _ _ _ => Le.nil u⟩
/-- Which pairs of a state and a class are gone through. -/
def dn (nc q k q' k' : Nat) : Prop := k' < nc ∧ (q' < q ∨ q' = q ∧ k' < k)
def DPn (d : Dm) (nc : Nat) (A : Nat → ByteArray) (I : Nat → Bool) (q k : Nat) (N : Nat → ByteArray) (Th : Nat → Bool) : Prop := ∀ t, t < d.R.length →
  (Th t = true ↔ ∃ q' k', dn nc q k q' k' ∧ I q' = true ∧ goD d q' (lead d.of k') = t) ∧
  (Th t = true → (∃ q' k', dn nc q k q' k' ∧ I q' = true ∧ goD d q' (lead d.of k') = t ∧ Nf.bs (N t) = Nf.bs (A q') ++ [lead d.of k']) ∧ ∀ q' k', dn nc q k q' k' → I q' = true → goD d q' (lead d.of k') = t → Le (Nf.bs (N t)) (Nf.bs (A q') ++ [lead d.of k']))
section
variable {d : Dm} {nc sz q k : Nat} {A N : Nat → ByteArray} {I Th : Nat → Bool}
theorem DPn.start (d : Dm) (nc : Nat) (A : Nat → ByteArray) (I : Nat → Bool) (N : Nat → ByteArray) : DPn d nc A I 0 0 N (fun _ => false) := fun t _ => by
  have hno : ∀ q' k', ¬ dn nc 0 0 q' k' := fun q' k' ⟨_, h⟩ => by omega
  exact ⟨⟨fun h => (by cases h), fun ⟨q', k', h, _⟩ => absurd h (hno q' k')⟩, fun h => (by cases h)⟩
theorem DPn.skip (h : DPn d nc A I q 0 N Th) (hq : I q = false) : DPn d nc A I (q + 1) 0 N Th := fun t ht => by
  have hd : ∀ q' k', I q' = true → (dn nc (q + 1) 0 q' k' ↔ dn nc q 0 q' k') := fun q' k' hI => by
    unfold dn
    constructor
    · rintro ⟨h1, h2⟩
      refine ⟨h1, ?_⟩
      by_cases e : q' = q
      · rw [e, hq] at hI; cases hI
      · omega
    · rintro ⟨h1, h2⟩; exact ⟨h1, by omega⟩
  obtain ⟨h1, h2⟩ := h t ht
  refine ⟨h1.trans ⟨fun ⟨q', k', a, b, c⟩ => ⟨q', k', (hd q' k' b).2 a, b, c⟩, fun ⟨q', k', a, b, c⟩ => ⟨q', k', (hd q' k' b).1 a, b, c⟩⟩, fun hT => ?_⟩
  obtain ⟨⟨q', k', a, b, c, e⟩, h3⟩ := h2 hT
  exact ⟨⟨q', k', (hd q' k' b).2 a, b, c, e⟩, fun q' k' a b c => h3 q' k' ((hd q' k' b).1 a) b c⟩
theorem DPn.row (h : DPn d nc A I q nc N Th) : DPn d nc A I (q + 1) 0 N Th := fun t ht => by
  have hd : ∀ q' k', (dn nc (q + 1) 0 q' k' ↔ dn nc q nc q' k') := fun q' k' => by
    unfold dn
    constructor
    · rintro ⟨h1, h2⟩; exact ⟨h1, by omega⟩
    · rintro ⟨h1, h2⟩; exact ⟨h1, by omega⟩
  obtain ⟨h1, h2⟩ := h t ht
  refine ⟨h1.trans ⟨fun ⟨q', k', a, b⟩ => ⟨q', k', (hd q' k').2 a, b⟩, fun ⟨q', k', a, b⟩ => ⟨q', k', (hd q' k').1 a, b⟩⟩, fun hT => ?_⟩
  obtain ⟨⟨q', k', a, b⟩, h3⟩ := h2 hT
  exact ⟨⟨q', k', (hd q' k').2 a, b⟩, fun q' k' a b c => h3 q' k' ((hd q' k').1 a) b c⟩
theorem dn_succ (nc q k q' k' : Nat) : dn nc q (k + 1) q' k' ↔ dn nc q k q' k' ∨ (k < nc ∧ q' = q ∧ k' = k) := by
  unfold dn
  constructor
  · rintro ⟨h1, h2⟩
    by_cases e : q' = q ∧ k' = k
    · exact .inr ⟨by omega, e⟩
    · exact .inl ⟨h1, by omega⟩
  · rintro (⟨h1, h2⟩ | ⟨h1, h2, h3⟩)
    · exact ⟨h1, by omega⟩
    · exact ⟨by omega, by omega⟩
/-- One pair more: it is taken, or it is no better. -/
theorem DPn.keep (h : DPn d nc A I q k N Th) (hk : k < nc) (hT : Th (goD d q (lead d.of k)) = true) (hl : Le (Nf.bs (N (goD d q (lead d.of k)))) (Nf.bs (A q) ++ [lead d.of k])) : DPn d nc A I q (k + 1) N Th := fun t ht => by
  obtain ⟨h1, h2⟩ := h t ht
  constructor
  · rw [h1]
    constructor
    · rintro ⟨q', k', a, b⟩; exact ⟨q', k', (dn_succ ..).2 (.inl a), b⟩
    · rintro ⟨q', k', a, b, c⟩
      rcases (dn_succ ..).1 a with a | ⟨-, rfl, rfl⟩
      · exact ⟨q', k', a, b, c⟩
      · exact h1.1 (c ▸ hT)
  · intro hTt
    obtain ⟨⟨q', k', a, b⟩, h3⟩ := h2 hTt
    refine ⟨⟨q', k', (dn_succ ..).2 (.inl a), b⟩, fun q' k' a b c => ?_⟩
    rcases (dn_succ ..).1 a with a | ⟨-, rfl, rfl⟩
    · exact h3 q' k' a b c
    · rw [← c]; exact hl
theorem DPn.take (h : DPn d nc A I q k N Th) (hk : k < nc) (hI : I q = true) (s : ByteArray) (hs : Nf.bs s = Nf.bs (A q) ++ [lead d.of k]) (hl : Th (goD d q (lead d.of k)) = true → Le (Nf.bs s) (Nf.bs (N (goD d q (lead d.of k))))) :
    DPn d nc A I q (k + 1) (fun j => if j = goD d q (lead d.of k) then s else N j) (fun j => if j = goD d q (lead d.of k) then true else Th j) := fun t ht => by
  obtain ⟨h1, h2⟩ := h t ht
  by_cases e : t = goD d q (lead d.of k)
  · simp only [if_pos e]
    refine ⟨⟨fun _ => ⟨q, k, (dn_succ ..).2 (.inr ⟨hk, rfl, rfl⟩), hI, e.symm⟩, fun _ => trivial⟩, fun _ => ⟨⟨q, k, (dn_succ ..).2 (.inr ⟨hk, rfl, rfl⟩), hI, e.symm, hs⟩, fun q' k' a b c => ?_⟩⟩
    rcases (dn_succ ..).1 a with a | ⟨-, rfl, rfl⟩
    · have hT : Th t = true := h1.2 ⟨q', k', a, b, c⟩
      exact Le.trans (hl (e ▸ hT)) (e ▸ (h2 hT).2 q' k' a b c)
    · rw [hs]; exact .refl _
  · simp only [if_neg e]
    constructor
    · rw [h1]
      constructor
      · rintro ⟨q', k', a, b⟩; exact ⟨q', k', (dn_succ ..).2 (.inl a), b⟩
      · rintro ⟨q', k', a, b, c⟩
        rcases (dn_succ ..).1 a with a | ⟨-, rfl, rfl⟩
        · exact ⟨q', k', a, b, c⟩
        · exact absurd c.symm e
    · intro hTt
      obtain ⟨⟨q', k', a, b⟩, h3⟩ := h2 hTt
      refine ⟨⟨q', k', (dn_succ ..).2 (.inl a), b⟩, fun q' k' a b c => ?_⟩
      rcases (dn_succ ..).1 a with a | ⟨-, rfl, rfl⟩
      · exact h3 q' k' a b c
      · exact absurd c.symm e
theorem DPn.size (h : DPn d nc A I q k N Th) (hA : DPs d sz A I) {t : Nat} (ht : t < d.R.length) (hT : Th t = true) (hq : ∀ q', I q' = true → q' < d.R.length) : (Nf.bs (N t)).length = sz + 1 := by
  obtain ⟨⟨q', k', a, b, c, e⟩, -⟩ := (h t ht).2 hT
  rw [e, List.length_append, Nf.bs_len, ((hA q' (hq q' b)).2 b).2.1]; rfl
theorem DPn.done (h : DPn d nc A I d.R.length 0 N Th) (hA : DPs d sz A I) (hr : DRt d) (L : Lead d.of nc) (hq : ∀ q', I q' = true → q' < d.R.length) : DPs d (sz + 1) N Th := fun t ht => by
  have hsnoc : ∀ u : List Nat, u.length = sz + 1 → ∃ v b, u = v ++ [b] ∧ v.length = sz := fun u hu => by
    have hne : u ≠ [] := fun e => by rw [e] at hu; cases hu
    exact ⟨u.dropLast, u.getLast hne, (List.dropLast_concat_getLast hne).symm, by rw [List.length_dropLast, hu]; rfl⟩
  obtain ⟨h1, h2⟩ := h t ht
  constructor
  · rw [h1]
    constructor
    · rintro ⟨q', k', ⟨a1, -⟩, b, c⟩
      obtain ⟨g1, g2, g3, -⟩ := (hA q' (hq q' b)).2 b
      exact ⟨Nf.bs (A q') ++ [lead d.of k'], byt_snoc g1 (L.lt k' a1).1, by rw [List.length_append, Nf.bs_len, g2]; rfl, by rw [led_snoc, g3, c]⟩
    · rintro ⟨u, hu, hl, hd⟩
      obtain ⟨v, b, rfl, hv⟩ := hsnoc u hl
      obtain ⟨hv1, hb⟩ := byt_pre hu
      have hlt := led_lt hr v hv1
      have hm := L.min b hb
      refine ⟨led d v, d.of b, ⟨hm.1, .inl hlt⟩, ((hA _ hlt).1).2 ⟨v, hv1, hv, rfl⟩, ?_⟩
      rw [← hd, led_snoc]
      exact goD_cls (L.lt _ hm.1).2
  · intro hT
    obtain ⟨⟨q', k', ⟨a1, a2⟩, b, c, e⟩, h3⟩ := h2 hT
    obtain ⟨g1, g2, g3, -⟩ := (hA q' (hq q' b)).2 b
    refine ⟨by rw [e]; exact byt_snoc g1 (L.lt k' a1).1, by rw [← Nf.bs_len, e, List.length_append, Nf.bs_len, g2]; rfl, by rw [e, led_snoc, g3, c], fun u hu hl hd => ?_⟩
    obtain ⟨v, b', rfl, hv⟩ := hsnoc u hl
    obtain ⟨hv1, hb⟩ := byt_pre hu
    have hlt := led_lt hr v hv1
    have hm := L.min b' hb
    have hI : I (led d v) = true := ((hA _ hlt).1).2 ⟨v, hv1, hv, rfl⟩
    have hgo : goD d (led d v) (lead d.of (d.of b')) = t := by
      rw [← hd, led_snoc]
      exact goD_cls (L.lt _ hm.1).2
    exact Le.trans (h3 (led d v) (d.of b') ⟨hm.1, .inl hlt⟩ hI hgo) (Le.snoc (((hA _ hlt).2 hI).2.2.2 v hv1 hv rfl) hm.2)
/-- The best of the first q states. -/
def BstI (d : Dm) (A : Nat → ByteArray) (I : Nat → Bool) (q : Nat) (b : Int) : Prop :=
  (b = -1 ∧ ∀ p, p < q → ¬ (I p = true ∧ d.F.getD p false = true)) ∨ (∃ p : Nat, b = (p : Int) ∧ p < q ∧ I p = true ∧ d.F.getD p false = true ∧ ∀ r, r < q → I r = true → d.F.getD r false = true → lx (Nf.bs (A r)) (Nf.bs (A p)) = false)
theorem BstI.start (d : Dm) (A : Nat → ByteArray) (I : Nat → Bool) : BstI d A I 0 (-1) := .inl ⟨rfl, fun _ hp => absurd hp (Nat.not_lt_zero _)⟩
theorem BstI.skip {b : Int} (h : BstI d A I q b) (hq : ¬ (I q = true ∧ d.F.getD q false = true)) : BstI d A I (q + 1) b := by
  rcases h with ⟨h1, h2⟩ | ⟨p, h1, h2, h3, h4, h5⟩
  · refine .inl ⟨h1, fun p hp => ?_⟩
    by_cases e : p = q
    · rw [e]; exact hq
    · exact h2 p (by omega)
  · refine .inr ⟨p, h1, by omega, h3, h4, fun r hr ha hb => ?_⟩
    by_cases e : r = q
    · rw [e] at ha hb; exact absurd ⟨ha, hb⟩ hq
    · exact h5 r (by omega) ha hb
theorem BstI.stay {p : Nat} (h : BstI d A I q (p : Int)) (hl : lx (Nf.bs (A q)) (Nf.bs (A p)) = false) : BstI d A I (q + 1) (p : Int) := by
  rcases h with ⟨h1, h2⟩ | ⟨p', h1, h2, h3, h4, h5⟩
  · omega
  · obtain rfl : p = p' := by omega
    refine .inr ⟨p, h1, by omega, h3, h4, fun r hr ha hb => ?_⟩
    by_cases e : r = q
    · rw [e]; exact hl
    · exact h5 r (by omega) ha hb
theorem BstI.first (h : BstI d A I q (-1)) (h1 : I q = true) (h2 : d.F.getD q false = true) : BstI d A I (q + 1) (q : Int) := by
  rcases h with ⟨-, h3⟩ | ⟨_, h3, -⟩
  · refine .inr ⟨q, rfl, by omega, h1, h2, fun r hr ha hb => ?_⟩
    by_cases e : r = q
    · rw [e]; exact lx_irr _
    · exact absurd ⟨ha, hb⟩ (h3 r (by omega))
  · omega
theorem BstI.take {p : Nat} (h : BstI d A I q (p : Int)) (h1 : I q = true) (h2 : d.F.getD q false = true) (hl : lx (Nf.bs (A q)) (Nf.bs (A p)) = true) : BstI d A I (q + 1) (q : Int) := by
  rcases h with ⟨h3, -⟩ | ⟨p', h3, h4, h5, h6, h7⟩
  · omega
  · obtain rfl : p = p' := by omega
    refine .inr ⟨q, rfl, by omega, h1, h2, fun r hr ha hb => ?_⟩
    by_cases e : r = q
    · rw [e]; exact lx_irr _
    · have h8 := h7 r (by omega) ha hb
      cases h9 : lx (Nf.bs (A r)) (Nf.bs (A q)) with
      | false => rfl
      | true => rw [lx_trans h9 hl] at h8; cases h8
theorem BstI.lt {b : Int} (h : BstI d A I q b) : b < (q : Int) ∧ -1 ≤ b := by
  rcases h with ⟨h1, -⟩ | ⟨p, h1, h2, -⟩ <;> omega
theorem DPs.best (hA : DPs d sz A I) (hr : DRt d) {p : Nat} (h : BstI d A I d.R.length (p : Int)) (hno : ∀ u, byt u → u.length < sz → takesR d u = false) : Best d (Nf.bs (A p)) := by
  rcases h with ⟨h1, -⟩ | ⟨p', h1, h2, h3, h4, h5⟩
  · omega
  · obtain rfl : p = p' := by omega
    obtain ⟨g1, g2, g3, g4⟩ := (hA p h2).2 h3
    refine ⟨g1, by unfold takesR; rw [g3]; exact h4, fun u hu ht => ?_⟩
    rcases Nat.lt_trichotomy u.length sz with hl | hl | hl
    · rw [hno u hu hl] at ht; cases ht
    · have hlt := led_lt hr u hu
      have hI : I (led d u) = true := ((hA _ hlt).1).2 ⟨u, hu, hl, rfl⟩
      have hx := h5 _ hlt hI ht
      obtain ⟨k1, k2, k3, k4⟩ := (hA _ hlt).2 hI
      refine Le.trans (b := Nf.bs (A (led d u))) ?_ (k4 u hu hl rfl)
      unfold Le ls
      rw [Nf.bs_len, Nf.bs_len, k2, g2, if_pos rfl]
      exact hx
    · exact .of ((ls_iff _ _).2 (.inl (by rw [Nf.bs_len, g2]; exact hl)))
theorem DPs.pass (hA : DPs d sz A I) (hr : DRt d) (h : BstI d A I d.R.length (-1)) (hno : ∀ u, byt u → u.length < sz → takesR d u = false) : ∀ u, byt u → u.length < sz + 1 → takesR d u = false := fun u hu hl => by
  rcases Nat.lt_or_eq_of_le (Nat.le_of_lt_succ hl) with hl | hl
  · exact hno u hu hl
  · rcases h with ⟨-, h⟩ | ⟨p, h1, -⟩
    · have hlt := led_lt hr u hu
      have hI : I (led d u) = true := ((hA _ hlt).1).2 ⟨u, hu, hl, rfl⟩
      cases ht : takesR d u with
      | false => rfl
      | true => exact absurd ⟨hI, ht⟩ (h _ hlt)
    · omega
/-- A text that is taken has one shorter than there are states. -/
theorem short_ex (hr : DRt d) : ∀ n u, u.length = n → byt u → takesR d u = true → ∃ v, byt v ∧ takesR d v = true ∧ v.length < d.R.length := by
  intro n
  induction n using Nat.strongRecOn with
  | ind n ih =>
    intro u hn hu ht
    by_cases hlt : u.length < d.R.length
    · exact ⟨u, hu, ht, hlt⟩
    · have hbt : ∀ i, byt (u.take i) := fun i x hx => hu x (List.mem_of_mem_take hx)
      by_cases hex : ∃ i j, i < j ∧ j ≤ u.length ∧ led d (u.take i) = led d (u.take j)
      · obtain ⟨i, j, hij, hj, e⟩ := hex
        have hb2 : byt (u.take i ++ u.drop j) := fun x hx => by
          rcases List.mem_append.1 hx with hx | hx
          · exact hbt i x hx
          · exact hu x (List.mem_of_mem_drop hx)
        refine ih (u.take i ++ u.drop j).length ?_ _ rfl hb2 ?_
        · rw [List.length_append, List.length_take, List.length_drop]; omega
        · have h1 : led d (u.take i ++ u.drop j) = led d u := by
            have h2 : led d u = led d (u.take j ++ u.drop j) := by rw [List.take_append_drop]
            rw [h2]
            unfold led at e ⊢
            rw [List.foldl_append, List.foldl_append, e]
          unfold takesR at ht ⊢
          rw [h1]; exact ht
      · exfalso
        have hnd : ((List.range (u.length + 1)).map fun i => led d (u.take i)).Nodup := by
          unfold List.Nodup
          rw [List.pairwise_map]
          refine List.Pairwise.imp_of_mem ?_ List.pairwise_lt_range
          intro i j hi hj hij e
          exact hex ⟨i, j, hij, by have := List.mem_range.1 hj; omega, e⟩
        have := nodup_len _ (List.range d.R.length) hnd (fun s hs => by
          obtain ⟨i, -, rfl⟩ := List.mem_map.1 hs
          exact List.mem_range.2 (led_lt hr _ (hbt i)))
        rw [List.length_map, List.length_range, List.length_range] at this
        omega
theorem RWordIs.word {s : ByteArray} {ok : Bool} (h : RWordIs d s ok) (hr : DRt d) : WordIs d s ok := by
  rcases h with ⟨h1, h2⟩ | ⟨h1, h2, h3⟩
  · refine .inl ⟨h1, hr, h2, ?_⟩
    obtain ⟨v, hv, ht, hl⟩ := short_ex hr _ _ rfl h2.byte h2.takes
    exact Nat.lt_of_le_of_lt (h2.least v hv ht).len hl
  · refine .inr ⟨h1, h2, fun u hu => ?_⟩
    rw [takes_R hr]
    cases ht : takesR d u with
    | false => rfl
    | true =>
      obtain ⟨v, hv, ht2, hl⟩ := short_ex hr _ _ rfl hu ht
      rw [h3 v hv (Nat.le_of_lt hl)] at ht2; cases ht2
end
end Sk
end Go.Proofs.YtmjjkamndlefmaaDoor
namespace Go.Proofs.YtmjjkamndlefmaaDoor
open Go.RowKit Sets Nf
namespace Nf
theorem infoStr : (Tryd.prog.info? 9).map (fun i => (i.zero, i.size, i.bytes)) = some (some (.string ⟨#[]⟩), 1, 16) := by kernel_rfl
def frF (l : List Int) (k : Nat) : Prop := (grp l).testBit k = true
theorem pre_get {A B : List Nat} {j t : Nat} (h : A.take (j + 1) = B.take (j + 1)) (ht : t ≤ j) : A.getD t 0 = B.getD t 0 := by
  have h1 := congrArg (·[t]?) h
  simp only [List.getElem?_take] at h1
  rw [if_pos (by omega), if_pos (by omega)] at h1
  rw [List.getD_eq_getElem?_getD, List.getD_eq_getElem?_getD, h1]
theorem bf_congr {m : Mc} {F : Nat → Prop} {i : Nat} {L : List Nat} {T T' : Nat → List Nat} (h : Bf m F i L T) (e : ∀ k, T k = T' k) : Bf m F i L T' := by
  rw [show T' = T from funext fun k => (e k).symm]; exact h
theorem no_ovr (a b : ByteArray) (h : a.size + b.size ≤ 9223372036854775807) : ¬ 9223372036854775807 < a.size + b.size := by omega
theorem tab_drew' {w : World} (h : Tab w) : Tab w.drew := fun i hi => h i hi
/-- behind j of the first ones -/
structure W1 (m : Mc) (l : List Int) (L : List Nat) (j : Nat) (T : Nat → ByteArray) (S : Nat → Bool) : Prop where
  seen : ∀ k, k < m.sp.length → (S k = true ↔ k ∈ L.take j)
  text : ∀ k ∈ L.take j, Pt m (frF l) k (bs (T k)) ∧ (T k).size ≤ 1
theorem W1.next {m : Mc} {l : List Int} {L : List Nat} {j : Nat} {T : Nat → ByteArray} {S : Nat → Bool} (h : W1 m l L j T S) (hj : j < L.length) (hF : frF l (L.getD j 0)) {c : Nat} (hc : c < 256) (hb : (stN m (L.getD j 0)).testBit c = true) :
    W1 m l L (j + 1) (fun k => if k = L.getD j 0 then b1 c else T k) (fun k => if k = L.getD j 0 then true else S k) := by
  have hm : ∀ k, k ∈ L.take (j + 1) ↔ k ∈ L.take j ∨ k = L.getD j 0 := fun k => by
    rw [List.take_succ_eq_append_getElem hj, List.mem_append, List.mem_singleton, List.getD_eq_getElem?_getD, List.getElem?_eq_getElem hj]; rfl
  refine ⟨fun k hk => ?_, fun k hk => ?_⟩
  · rw [hm]
    by_cases e : k = L.getD j 0
    · simp [e]
    · rw [if_neg e, h.seen k hk]
      exact ⟨.inl, fun h => h.resolve_right e⟩
  · show Pt m (frF l) k (bs (if k = L.getD j 0 then b1 c else T k)) ∧ (if k = L.getD j 0 then b1 c else T k).size ≤ 1
    by_cases e : k = L.getD j 0
    · rw [if_pos e, e, bs_b1 hc]
      exact ⟨.one hF hb, Nat.le_refl _⟩
    · rw [if_neg e]
      exact h.text k (((hm k).1 hk).resolve_right e)
end Nf
end Go.Proofs.YtmjjkamndlefmaaDoor
namespace Go.Proofs.YtmjjkamndlefmaaDoor
open Go.RowKit Sets Nf Df Cls
namespace Sk
/-- the cells of the document's automaton -/
def rvS (a : Option Addr) (n c : Nat) (x : Dx) (d : Dm) : Array Value := #[.slice a n c, .slice x.a d.R.length x.ac, .slice x.b d.F.length x.bc]
theorem sizeRv (a : Option Addr) (n c : Nat) (x : Dx) (d : Dm) : (Tryd.prog.info? 37).map (·.size) = some (rvS a n c x d).size := by
  show _ = some 3
  kernel_rfl
theorem oneRv (a : Option Addr) (n c : Nat) (x : Dx) (d : Dm) : (rvS a n c x d).all (·.oneCell') = true := by simp [rvS, Value.oneCell']
theorem zeroRv (w : World) : (zeroValue 37).run Tryd.prog w = .ok (.agg #[.slice none 0 0, .slice none 0 0, .slice none 0 0]) w := by kernel_rfl
theorem buildRv (a b c : Option Addr) (n m k n' m' k' : Nat) (w : World) : (Instr.build 37 #[(0, .slice a n n'), (1, .slice b m m'), (2, .slice c k k')]).run Tryd.prog w = .ok (.agg #[.slice a n n', .slice b m m', .slice c k k']) w := by kernel_rfl
set_option maxHeartbeats 12800000 in
set_option maxRecDepth 100000 in
theorem given13_any (x : Dx) (d : Dm) (nc : Nat) (w : World) (hr : DRt d) (hn : d.n = (nc : Int)) (hT : Tab w) :
    Calls Tryd.prog 17 #[.agg (dvC x d)] w fun e w' => ∃ a c, e = .returned (.agg (rvS a nc c x d)) ∧ BytesAt w' (.slice a nc c) (leads d.of nc) ∧ Below w.heap.size w w' := by
  have HG : Hid (0 < w.heap.size) := Lib.hid (World.block_lt_of_cell? _ _ (hT 0 (by decide)))
  have HT := Lib.hid hT
  have hPR : prightB d.of (nc : Nat) = true := by rw [← hn]; exact hr.pr
  have HPR := Lib.hid hPR
  have HL := Lib.hid (pright_lead hPR)
  obtain ⟨k, hk1, hk2, hk3⟩ := pright_is hPR
  obtain rfl : k = nc := by omega
  have HNC := Lib.hid hk2
  have HOF := Lib.hid hk3
  have HDN := Lib.hid hn
  clear hT hr hn hPR hk1 hk2 hk3
  have hz := zeroRv
  go_enter Tryd.func17, Tryd.ntmps17
  go_upto_region 1 with fail
  have HX0 := Lib.hid (BoxD.new w x d)
  have HB0 := Lib.hid ((Below.refl w.heap.size w).alloc (Nat.le_refl _) (.cells (dvC x d) 28))
  have HSZ : Hid ((w.alloc (.cells (dvC x d) 28)).heap.size = w.heap.size + 1) := Lib.hid (by simp)
  obtain ⟨s, hs⟩ : ∃ s, Hid (w.heap.size = s) := ⟨_, Lib.hid rfl⟩
  rw [hs.out] at HX0 HB0 HSZ HG ⊢
  generalize w.alloc (.cells (dvC x d) 28) = w0 at *
  have hal := (Below.refl w0.heap.size w0).alloc (Nat.le_refl _) (.cells #[.slice none 0 0, .slice none 0 0, .slice none 0 0] 37)
  have HR1 := Lib.hid (heap_alloc_new w0 (.cells #[.slice none 0 0, .slice none 0 0, .slice none 0 0] 37))
  have HX1 := Lib.hid (HX0.out.stay hal)
  have HB1 := Lib.hid (HB0.out.trans (hal.mono (by rw [HSZ.out]; omega)))
  rw [HSZ.out] at HR1
  have HSS : Hid ((w0.alloc (.cells #[.slice none 0 0, .slice none 0 0, .slice none 0 0] 37)).heap.size = s + 2) := Lib.hid (by rw [← show w0.heap.size + 1 = s + 2 by rw [HSZ.out]]; simp)
  clear hal HX0 HB0 HSZ
  generalize w0.alloc (.cells #[.slice none 0 0, .slice none 0 0, .slice none 0 0] 37) = w1 at *
  clear w0
  have HT1 := Lib.hid (HT.out.below HB1.out HG.out)
  go_upto_region 3 with (first
    | (refine wpList_load_mid rfl 24 _ rfl s 0 rfl (partC d.of d.n).toList _ (partC_mid _ _ _ _ _ _ HX1.out.row) Tryd.underlying24 rfl (sizePL _ _) ?_)
    | (go_at_call 30; rw [HDN.out]; refine (least_any d.of k 1 w1 HNC.out HOF.out HPR.out HT1.out (by rw [HSS.out]; have := HG.out; omega)).mono ?_; rintro e w2 ⟨g, rfl, hg2, hrow, hb2⟩; have HR2 := Lib.hid hrow; have HB2 := Lib.hid hb2; clear hrow hb2 hg2))
  have HO2 : Hid (w2.ownsRow w2.heap.size 5 1 (.slice none 0 0) 0 (u8s (leads d.of 0))) := Lib.hid (World.ownsRow_nil _ _ _ _)
  obtain ⟨q, hq⟩ : ∃ q, Hid (w2.heap.size = q) := ⟨_, Lib.hid rfl⟩
  have HQ : Hid (∀ W, Below q w2 W → BytesRow W g (List.map (fun j => List.take (Int.toNat 1) (listN (clsSet d.of 256 j))) (List.range k)) ∧ BoxD W s x d ∧ W.heap[s + 1]? = some (.cells #[.slice none 0 0, .slice none 0 0, .slice none 0 0] 37 (0, 0)) ∧ Below s w W) := Lib.hid (fun W h => by
    rw [← hq.out] at h
    have h1 := HB2.out.trans (h.mono HB2.out.size)
    exact ⟨HR2.out.kept h, HX1.out.stay h1, (h1.block _ (Array.getElem?_eq_some_iff.1 HR1.out).1).trans HR1.out, HB1.out.trans (h1.mono (by rw [HSS.out]; omega))⟩)
  have HB3 : Hid (Below q w2 w2) := Lib.hid (Below.refl _ _)
  have HS2 : Hid (q ≤ w2.heap.size) := Lib.hid (Nat.le_of_eq hq.out.symm)
  rw [hq.out] at HO2
  clear HR2 HX1 HR1 HB1 HT1 HB2 HSS hq
  clear w1
  go_upto_region 4 with fail
  go_loopw [3, 5] (fun v i wr => ∃ j : Nat, i = .int .i64 j ∧ j ≤ k ∧ Hid (wr.ownsRow q 5 1 v j (u8s (leads d.of j))) ∧ Hid (Below q w2 wr) ∧ Hid (q ≤ wr.heap.size)) (fun v i _ => ((k : Int) - intOf i).toNat)
  case atStart => exact ⟨0, rfl, Nat.zero_le _, HO2, HB3, HS2⟩
  case round =>
    obtain ⟨j, rfl, hj, HO, HR, HSZ⟩ := hrel
    generalize hwr : wr = w3 at *
    clear hwr wr HO2 HB3 HS2
    by_cases hlt : j < k
    · have hdd : decide ((j : Int) < (k : Int)) = true := decide_eq_true (by omega)
      have hd2 : decide (j < k) = true := decide_eq_true hlt
      have hjn : (j : Int) < (k : Int) := by omega
      obtain ⟨v, hv, hby⟩ := (HQ.out _ HR.out).1.at j (by simpa using hlt)
      obtain ⟨c, hc, hcj⟩ := HL.out.hit j hlt
      rw [show (List.map (fun j => List.take (Int.toNat 1) (listN (clsSet d.of 256 j))) (List.range k)).getD j [] = [lead d.of j] from by
        rw [List.getD_eq_getElem?_getD]; simp [hlt]; exact (lead_spec d.of j c hc hcj).2.2] at hby
      have HBY := Lib.hid hby
      have HW1 : Hid (wrap64 ((j : Int) + 1) = ((j + 1 : Nat) : Int)) := Lib.hid (nat_wrap (by have := HNC.out; omega))
      have HS1 := Lib.hid (meas9 hlt)
      have HJ := Lib.hid hlt
      clear hby hcj hc hlt
      go_upto_region 5 with (first
        | (refine wpList_append_bytes rfl (.tmp 15) (.tmp 19) rfl q (leads d.of j) [lead d.of j] (by rw [leads_len]; exact HO.out) HBY.out (by rw [leads_len]; have := HNC.out; have := HJ.out; simp; omega) HSZ.out ?_; intro v2 w4 ho4 hb4))
      have HO4 : Hid (w4.ownsRow q 5 1 v2 (j + 1) (u8s (leads d.of (j + 1)))) := Lib.hid (by rw [leads_succ]; rw [List.length_append, leads_len] at ho4; exact ho4)
      have HR4 : Hid (Below q w2 w4) := Lib.hid (HR.out.trans hb4)
      have HS4 : Hid (q ≤ w4.heap.size) := Lib.hid (Nat.le_trans HSZ.out hb4.size)
      clear ho4 hb4
      go_wp2_with fail
      go_roundw
      case rel => exact ⟨j + 1, by rw [HW1.out], HJ.out, HO4, HR4, HS4⟩
      case measure => rw [HW1.out]; exact HS1.out
    · have hdd : decide ((j : Int) < (k : Int)) = false := decide_eq_false (by omega)
      have hd2 : decide (j < k) = false := decide_eq_false hlt
      obtain rfl : j = k := by omega
      have HF := Lib.hid (owns_bytes (l := leads d.of j) (by rw [leads_len]; exact HO.out) (fun x hx => by
        unfold leads at hx
        obtain ⟨k, hk, rfl⟩ := List.mem_map.1 hx
        exact (HL.out.lt k (List.mem_range.1 hk)).1) (by rw [leads_len]; have := HNC.out; unfold maxLen; omega))
      obtain ⟨a, c, rfl, -⟩ := own_slice HO.out
      obtain ⟨-, hx3, hr3, hb3⟩ := HQ.out _ HR.out
      have c257 := hx3.c257
      have c258 := hx3.c258
      have HR3 := Lib.hid hr3
      have HB3 := Lib.hid hb3
      have hbr := But.setRow (w := w3) (s + 1) (rvS a j c x d)
      have HBE : Hid (Below s w (w3.setRow (s + 1) (rvS a j c x d))) := Lib.hid (hbr.below hb3 (by omega) (by have := (Array.getElem?_eq_some_iff.1 hr3).1; omega))
      have HFE : Hid (BytesAt (w3.setRow (s + 1) (rvS a j c x d)) (.slice a j c) (leads d.of j)) := Lib.hid (by
        obtain ⟨h1, h2, a', c', e, h4⟩ := HF.out
        have e2 : a = a' ∧ c = c' := by
          injection e with e1 e2 e3
          exact ⟨e1, e3⟩
        refine ⟨h1, h2, a', c', e, fun i hi => ?_⟩
        obtain ⟨b, o, e5, h5⟩ := h4 i hi
        refine ⟨b, o, e5, ?_⟩
        refine (hbr.cell (p := ⟨b, o + i, none⟩) h5 ?_)
        intro e6
        have e6 : b = s + 1 := e6
        rcases HO.out.2 with ⟨e7, -⟩ | ⟨g', cap, cur, e7, -, h8, -⟩
        · rw [leads_len] at hi; cases e7; rw [← e2.1] at e5; cases e5
        · injection e7 with e7
          rw [e2.1, e5] at e7
          injection e7 with e7
          injection e7 with e7
          rw [← e7, e6, HR3.out] at h8
          injection h8 with h8
          injection h8 with _ h9
          cases h9)
      have hbu := buildRv a x.a x.b j d.R.length d.F.length c x.ac x.bc
      clear hlt hbr hx3 hr3 hb3 HF
      go_wp2_with (refine wpList_store_row rfl 37 (.tmp 2) (.tmp 26) rfl (s + 1) (rvS a j c x d) rfl rfl 37 _ HR3.out (sizeRv a j c x d) rfl (oneRv a j c x d) ?_)
      refine bodyPost_ret (v := .agg (rvS a j c x d)) (results_cell_row (p := 2) Tryd.results17 _ _ (s + 1) 37 _ (0, 0) _ rfl (setRow_heap w3 _ _ _ _ _ HR3.out) Tryd.underlying37 rfl (sizeRv a j c x d)) rfl ⟨a, c, rfl, HFE.out, ?_⟩
      rw [hs.out]
      exact HBE.out
end Sk
end Go.Proofs.YtmjjkamndlefmaaDoor
