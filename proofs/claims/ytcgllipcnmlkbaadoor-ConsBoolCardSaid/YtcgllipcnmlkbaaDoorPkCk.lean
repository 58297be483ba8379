/- Several texts in one. -/
import Derived.Test.YtcgllipcnmlkbaaDoorPkCj
import Derived.Test.YtcgllipcnmlkbaaDoorPkCa
import Derived.Test.YtcgllipcnmlkbaaDoorPk14
import Derived.Test.YtcgllipcnmlkbaaDoorPkCc
namespace Go.Proofs.YtcgllipcnmlkbaaDoor
open Sets Tr Rx Sp Cn
namespace Cn
theorem parts_sft {N M : List Nd} {R S : List (Int × Bool)} (h : Right N R) (g : Right M S) : parts (sft N M) (R ++ shP N.length S) = parts N R ++ parts M S := by
  unfold parts
  rw [List.map_append]
  congr 1
  · refine List.map_congr_left (fun p hp => ?_)
    have hr := h.rts p.1 (List.mem_map.2 ⟨p, hp, rfl⟩)
    obtain ⟨t, ht, hrt⟩ := is_of_low h.low p.1.toNat (by omega)
    obtain ⟨k1, k2⟩ := Tr.is_app (M.map (shN N.length)) ht
    have e1 : tr (sft N M) p.1.toNat = t := by rw [← hrt]; exact tr_of k1
    have e2 : tr N p.1.toNat = t := by rw [← hrt]; exact tr_of ht
    rw [e1, e2]
    exact congrArg (·, p.2) k2
  · unfold shP
    rw [List.map_map]
    refine List.map_congr_left (fun p hp => ?_)
    have hr := g.rts p.1 (List.mem_map.2 ⟨p, hp, rfl⟩)
    obtain ⟨t, ht, hrt⟩ := is_of_low g.low p.1.toNat (by omega)
    obtain ⟨k1, k2⟩ := is_sh N ht
    have e0 : (p.1 + (N.length : Int)).toNat = (shT N.length t).root := by rw [shT_root]; omega
    have e1 : tr (sft N M) (p.1 + (N.length : Int)).toNat = shT N.length t := by rw [e0]; exact tr_of k1
    have e2 : tr M p.1.toNat = t := by rw [← hrt]; exact tr_of ht
    simp only [Function.comp]
    rw [e1, e2]
    exact congrArg (·, p.2) k2
theorem parts_flip (N : List Nd) (R : List (Int × Bool)) : parts N (R.map fun p => (p.1, !p.2)) = (parts N R).map fun x => (x.1, !x.2) := by
  unfold parts
  rw [List.map_map, List.map_map]; rfl
theorem match_and {A B : List (X × Bool)} (h : (md (A ++ B)).s.length ≤ 63) (hA : (md A).s.length ≤ 63) (hB : (md B).s.length ≤ 63) (w : List Nat) : matchM (md (A ++ B)) w = (matchM (md A) w && matchM (md B) w) := by
  have h1 := match_iff (A ++ B) h w
  have h2 := match_iff A hA w
  have h3 := match_iff B hB w
  rw [Bool.eq_iff_iff, Bool.and_eq_true, h1, h2, h3]
  constructor
  · intro h; exact ⟨fun p hp => h p (List.mem_append.2 (.inl hp)), fun p hp => h p (List.mem_append.2 (.inr hp))⟩
  · rintro ⟨g1, g2⟩ p hp
    rcases List.mem_append.1 hp with hp | hp
    · exact g1 p hp
    · exact g2 p hp
theorem match_not {A : List (X × Bool)} (h1 : A.length = 1) (hA : (md A).s.length ≤ 63) (hB : (md (A.map fun x => (x.1, !x.2))).s.length ≤ 63) (w : List Nat) : matchM (md (A.map fun x => (x.1, !x.2))) w = !matchM (md A) w := by
  have h2 := match_iff A hA w
  have h3 := match_iff _ hB w
  match A, h1 with
  | [x], _ =>
    have h4 : matchM (md [x]) w = true ↔ (Sm (mk x.1) w ↔ x.2 = false) := by rw [h2]; simp
    have h5 : matchM (md ([x].map fun x => (x.1, !x.2))) w = true ↔ (Sm (mk x.1) w ↔ (!x.2) = false) := by rw [h3]; simp
    by_cases hs : Sm (mk x.1) w
    · cases hx : x.2
      · have e1 : matchM (md [x]) w = true := by rw [h4, hx]; simp [hs]
        have e2 : matchM (md ([x].map fun x => (x.1, !x.2))) w = false := by rw [Bool.eq_false_iff]; intro hh; have := h5.1 hh; rw [hx] at this; simp [hs] at this
        rw [e1, e2]; rfl
      · have e1 : matchM (md [x]) w = false := by rw [Bool.eq_false_iff]; intro hh; have := h4.1 hh; rw [hx] at this; simp [hs] at this
        have e2 : matchM (md ([x].map fun x => (x.1, !x.2))) w = true := by rw [h5, hx]; simp [hs]
        rw [e1, e2]; rfl
    · cases hx : x.2
      · have e1 : matchM (md [x]) w = false := by rw [Bool.eq_false_iff]; intro hh; have := h4.1 hh; rw [hx] at this; simp [hs] at this
        have e2 : matchM (md ([x].map fun x => (x.1, !x.2))) w = true := by rw [h5, hx]; simp [hs]
        rw [e1, e2]; rfl
      · have e1 : matchM (md [x]) w = true := by rw [h4, hx]; simp [hs]
        have e2 : matchM (md ([x].map fun x => (x.1, !x.2))) w = false := by rw [Bool.eq_false_iff]; intro hh; have := h5.1 hh; rw [hx] at this; simp [hs] at this
        rw [e1, e2]; rfl
theorem cons_one {a : List Nat} (_ha : ∀ x ∈ a, x < 256) {x : Nat} {N : List Nd} {R : List (Int × Bool)} (h : cons a = .ok x N R) (h38 : ∀ c ∈ a, c ≠ 38) : R.length = 1 := by
  obtain ⟨a200, p1, ns1, ps1, a1, a2, a3, a4⟩ := cons_open h
  have hno : pk a p1 ≠ 38 := by
    intro h5
    have hlt := pk_lt (l := a) (p := p1) (by omega)
    unfold pk at h5
    rw [List.getD_eq_getElem?_getD, List.getElem?_eq_getElem hlt] at h5
    exact h38 _ (List.getElem_mem hlt) h5
  unfold prtsL at a2
  rw [if_neg hno] at a2
  injection a2 with h5 h6 h7
  subst h7
  unfold prt prtE at a1
  split at a1
  · injection a1 with h8 h9 h10
    rw [← h10]; rfl
  · cases a1
theorem nots_two (a : List Nat) (f : Nat) (hf : 2 ≤ f) : nots (33 :: 33 :: a) f false 0 = nots (33 :: 33 :: a) (f - 2) false 2 := by
  obtain ⟨g, rfl⟩ : ∃ g, f = g + 1 + 1 := ⟨f - 2, by omega⟩
  rw [show g + 1 + 1 - 2 = g from by omega]
  conv => lhs; unfold nots
  rw [if_pos (by rfl)]
  conv => lhs; unfold nots
  rw [if_pos (by rfl)]
  rfl
theorem nots_one (a : List Nat) (f : Nat) (hf : 1 ≤ f) : nots (33 :: a) f false 0 = nots (33 :: a) (f - 1) true 1 := by
  obtain ⟨g, rfl⟩ : ∃ g, f = g + 1 := ⟨f - 1, by omega⟩
  rw [show g + 1 - 1 = g from by omega]
  conv => lhs; unfold nots
  rw [if_pos (by rfl)]
  rfl
theorem cons_two {a : List Nat} (ha : ∀ x ∈ a, x < 256) (hl : a.length ≤ 90) {x : Nat} {N : List Nd} {R : List (Int × Bool)} (h : cons a = .ok x N R) : ∃ z, cons (33 :: 33 :: a) = .ok z N R := by
  have := cons_ahead (u := [33, 33]) ha false h (by simp; omega) (fun f hf => nots_two a f (by simp at hf; omega)) (fun h => by cases h)
  simpa using this
theorem cons_not {a : List Nat} (ha : ∀ x ∈ a, x < 256) (hl : a.length ≤ 90) {x : Nat} {N : List Nd} {R : List (Int × Bool)} (h : cons a = .ok x N R) (h38 : ∀ c ∈ a, c ≠ 38) : ∃ z, cons (33 :: a) = .ok z N (R.map fun p => (p.1, !p.2)) := by
  have := cons_ahead (u := [33]) ha true h (by simp; omega) (fun f hf => nots_one a f (by simp at hf; omega)) (fun _ => h38)
  simpa using this
end Cn
end Go.Proofs.YtcgllipcnmlkbaaDoor
namespace Go.Proofs.YtcgllipcnmlkbaaDoor
open Go.RowKit Sets Tr Rx Sp
theorem size_cutU (s : ByteArray) (n : Nat) : (s.extract 0 n).size ≤ n := by rw [size_tx, tx_extract]; simp; omega
theorem by_catU (s t : ByteArray) : by' (s ++ t) = by' s ++ by' t := by
  have : by' (s ++ t) = (tx (s ++ t)).map UInt8.toNat := rfl
  rw [this, tx_append, List.map_append]; rfl
end Go.Proofs.YtcgllipcnmlkbaaDoor
