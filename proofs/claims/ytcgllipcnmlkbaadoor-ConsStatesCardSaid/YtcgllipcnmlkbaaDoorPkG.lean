/- Several texts in one. -/
import Derived.Test.YtcgllipcnmlkbaaDoorPkF
import Derived.Test.YtcgllipcnmlkbaaDoorPkB
import Derived.Test.YtcgllipcnmlkbaaDoorPkE
import Derived.Test.YtcgllipcnmlkbaaDoorPkD
import Derived.Deep.CutRange
import Derived.Deep.CutBlock
namespace Go.Proofs.YtcgllipcnmlkbaaDoor
open Go.RowKit Sets Tr
theorem bytes_lit (w : World) (E : List Nat) (hE : ∀ x ∈ E, x < 256) (cs : Array Value) (hcs : cs = (u8s E).toArray) (hl : E.length ≤ maxLen) : BytesAt (w.alloc (.cells cs 5)) (.slice (some ⟨w.heap.size, 0, none⟩) E.length E.length) E := by
  subst hcs
  refine ⟨hE, hl, _, _, rfl, fun i hi => ⟨w.heap.size, 0, rfl, ?_⟩⟩
  rw [Nat.zero_add, World.cell?_alloc_new, List.getElem?_toArray]
  unfold u8s
  rw [List.getElem?_map, List.getElem?_eq_getElem hi, List.getD_eq_getElem?_getD, List.getElem?_eq_getElem hi]
  rfl
theorem hasK_alt (k : Nat) : hasK [4] k = (k == 4) := by unfold hasK; rw [Bool.eq_iff_iff]; simp
theorem hasK_seq (k : Nat) : hasK [4, 3] k = (k == 4 || k == 3) := by unfold hasK; rw [Bool.eq_iff_iff]; simp
theorem hasK_tim (k : Nat) (h : k < 6) : hasK [3, 4, 5] k = decide (2 < k) := by
  have : k = 0 ∨ k = 1 ∨ k = 2 ∨ k = 3 ∨ k = 4 ∨ k = 5 := by omega
  rcases this with rfl | rfl | rfl | rfl | rfl | rfl <;> rfl
theorem kd_lt (x : X) : x.kd < 6 := by cases x <;> simp [X.kd]
end Go.Proofs.YtcgllipcnmlkbaaDoor
namespace Go.Proofs.YtcgllipcnmlkbaaDoor
open Go.RowKit Sets Tr
noncomputable def prOf (N : List Nd) (R : List (Int × Bool)) : List Nat := if rightB N R then pr N R else []
noncomputable def sSum (N : List Nd) (R : List (Int × Bool)) : Nat := (R.map fun p => (tr N p.1.toNat).sum fun _ => 1).sum
theorem sSum_snoc (N : List Nd) (R : List (Int × Bool)) (q : Nat) (hq : q < R.length) : sSum N (R.take (q + 1)) = sSum N (R.take q) + (tr N (R.getD q default).1.toNat).sum fun _ => 1 := by
  unfold sSum
  rw [take_snoc R q hq]
  simp only [List.map_append, List.sum_append, List.map_cons, List.map_nil, List.sum_cons, List.sum_nil, Nat.add_zero]
theorem sSum_all {N : List Nd} {R : List (Int × Bool)} (h : Right N R) : sSum N R = N.length := by
  have := size_roots h
  unfold roots at this
  rw [List.map_map] at this
  exact this
theorem sSum_take (N : List Nd) (R : List (Int × Bool)) (q : Nat) : sSum N (R.take q) ≤ sSum N R := by
  have e : sSum N R = sSum N (R.take q) + sSum N (R.drop q) := by
    unfold sSum
    rw [← List.sum_append, ← List.map_append, List.take_append_drop]
  omega
theorem prParts_len (N : List Nd) : ∀ (R : List (Int × Bool)) (i : Nat), (prParts i (parts N R)).length ≤ 2400 * sSum N R + 2 * R.length := by
  intro R
  induction R with
  | nil => intro i; simp [parts, prParts, sSum]
  | cons p R ih =>
    intro i
    have h1 := ih (i + 1)
    have h2 := prX_len N (tr N p.1.toNat)
    simp only [parts, List.map_cons, prParts, List.length_append, sSum, List.sum_cons, List.length_cons] at *
    have h3 : (if 0 < i then [38] else ([] : List Nat)).length ≤ 1 := by split <;> simp
    have h4 : (if p.2 = true then [33] else ([] : List Nat)).length ≤ 1 := by split <;> simp
    omega
theorem prParts_snoc (N : List Nd) (R : List (Int × Bool)) (q : Nat) (hq : q < R.length) :
    prParts 0 (parts N (R.take (q + 1))) = prParts 0 (parts N (R.take q)) ++ (if 0 < q then [38] else []) ++ (if (R.getD q default).2 then [33] else []) ++ prX (abs N (tr N (R.getD q default).1.toNat)) := by
  unfold parts
  rw [take_snoc R q hq, List.map_append, List.map_cons, List.map_nil, prParts_append, List.length_map, List.length_take, Nat.min_eq_left (by omega), Nat.zero_add]
  simp only [prParts, List.append_nil, List.append_assoc]
end Go.Proofs.YtcgllipcnmlkbaaDoor
namespace Go.Proofs.YtcgllipcnmlkbaaDoor
open Go.RowKit Sets Tr
namespace Tz
def rightC (N : List Nd) (R : List (Int × Bool)) : Bool :=
  decide (1 ≤ R.length) && decide (R.length ≤ 20) && decide (N.length ≤ 600) &&
  (List.range N.length).all (fun i => sound (N.getD i default) && (kids (N.getD i default)).all (fun c => decide (0 ≤ c) && decide (c < (i : Int)))) &&
  (roots R).all (fun c => decide (0 ≤ c) && decide (c < (N.length : Int))) && decide (edges N ++ roots R).Nodup && (List.range N.length).all (fun j => decide ((j : Int) ∈ edges N ++ roots R))
theorem rightC_iff (N : List Nd) (R : List (Int × Bool)) : rightC N R = true ↔ Right N R := by
  unfold rightC
  simp only [Bool.and_eq_true, decide_eq_true_eq, List.all_eq_true, List.mem_range]
  constructor
  · rintro ⟨⟨⟨⟨⟨⟨h1, h2⟩, h3⟩, h4⟩, h5⟩, h6⟩, h7⟩
    exact ⟨⟨h1, h2, h3⟩, fun i hi => (h4 i hi).1, fun i hi c hc => (h4 i hi).2 c hc, fun c hc => h5 c hc, h6, fun j hj => h7 j hj⟩
  · intro h
    exact ⟨⟨⟨⟨⟨⟨h.few.1, h.few.2.1⟩, h.few.2.2⟩, fun i hi => ⟨h.snd i hi, fun c hc => h.low i hi c hc⟩⟩, fun c hc => h.rts c hc⟩, h.nod⟩, fun j hj => h.all j hj⟩
theorem rightB_C (N : List Nd) (R : List (Int × Bool)) : rightB N R = rightC N R := by
  cases h : rightC N R
  · exact rightB_false (fun hr => by rw [(rightC_iff N R).2 hr] at h; cases h)
  · exact rightB_true ((rightC_iff N R).1 h)
def absF (N : List Nd) : Nat → Nat → X
  | 0, _ => .emp
  | f + 1, i =>
    if (N.getD i default).k = 3 then .seq (absF N f (N.getD i default).a.toNat) (absF N f (N.getD i default).b.toNat)
    else if (N.getD i default).k = 4 then .alt (absF N f (N.getD i default).a.toNat) (absF N f (N.getD i default).b.toNat)
    else if (N.getD i default).k = 5 then .tim (absF N f (N.getD i default).a.toNat) (N.getD i default).mn (N.getD i default).mx
    else if (N.getD i default).k = 1 then .emp else .set (N.getD i default).s
theorem abs_F (N : List Nd) : ∀ (t : T) (f : Nat), Is N t → t.root ≤ f → abs N t = absF N (f + 1) t.root := by
  intro t
  induction t with
  | leaf i =>
    intro f h hf
    obtain ⟨-, h2⟩ := h
    have h3 : (N.getD i default).k ≠ 3 ∧ (N.getD i default).k ≠ 4 ∧ (N.getD i default).k ≠ 5 := by
      unfold kids at h2
      split at h2
      · cases h2
      · split at h2
        · cases h2
        · rename_i h4 h5; exact ⟨fun e => h4 (.inl e), fun e => h4 (.inr e), h5⟩
    show (if (N.getD i default).k = 1 then X.emp else .set (N.getD i default).s) = absF N (f + 1) i
    rw [absF, if_neg h3.1, if_neg h3.2.1, if_neg h3.2.2]
  | one i a ih =>
    intro f h hf
    obtain ⟨-, h2, h3, h4⟩ := h
    simp only [T.root] at hf
    obtain ⟨f, rfl⟩ : ∃ g, f = g + 1 := ⟨f - 1, by omega⟩
    show X.tim (abs N a) (N.getD i default).mn (N.getD i default).mx = absF N (f + 1 + 1) i
    unfold kids at h2
    split at h2
    · simp at h2
    · split at h2
      · rename_i h5 h6
        simp only [List.cons.injEq, and_true] at h2
        rw [absF, if_neg (fun e => h5 (.inl e)), if_neg (fun e => h5 (.inr e)), if_pos h6, h2, Int.toNat_natCast, ← ih f h4 (by omega)]
      · cases h2
  | two i a b ih1 ih2 =>
    intro f h hf
    obtain ⟨-, h2, h3, h4, h5, h6⟩ := h
    simp only [T.root] at hf
    obtain ⟨f, rfl⟩ : ∃ g, f = g + 1 := ⟨f - 1, by omega⟩
    show (if (N.getD i default).k = 3 then X.seq (abs N a) (abs N b) else .alt (abs N a) (abs N b)) = absF N (f + 1 + 1) i
    unfold kids at h2
    split at h2
    · rename_i h7
      simp only [List.cons.injEq, and_true] at h2
      by_cases h8 : (N.getD i default).k = 3
      · rw [if_pos h8, absF, if_pos h8, h2.1, h2.2, Int.toNat_natCast, Int.toNat_natCast, ← ih1 f h5 (by omega), ← ih2 f h6 (by omega)]
      · rw [if_neg h8, absF, if_neg h8, if_pos (by omega), h2.1, h2.2, Int.toNat_natCast, Int.toNat_natCast, ← ih1 f h5 (by omega), ← ih2 f h6 (by omega)]
    · split at h2
      · simp at h2
      · cases h2
def prC (N : List Nd) (R : List (Int × Bool)) : List Nat := if rightC N R then prParts 0 (R.map fun p => (absF N (p.1.toNat + 1) p.1.toNat, p.2)) else []
theorem prOf_C (N : List Nd) (R : List (Int × Bool)) : prOf N R = prC N R := by
  unfold prOf prC
  rw [rightB_C]
  cases h : rightC N R
  · rfl
  · have hr := (rightC_iff N R).1 h
    rw [if_pos rfl, if_pos rfl]
    unfold pr parts
    congr 1
    refine List.map_congr_left (fun p hp => ?_)
    have h1 := hr.rts p.1 (List.mem_map.2 ⟨p, hp, rfl⟩)
    obtain ⟨t, ht, hrt⟩ := is_of_low hr.low p.1.toNat (by omega)
    rw [← hrt, tr_of ht, abs_F N t t.root ht (Nat.le_refl _)]
def plXz : X → Nat
  | .emp => 0
  | .set _ => 1
  | .seq a b => min (plXz a + plXz b) cap
  | .alt a b => min (plXz a + plXz b) cap
  | .tim a _ n => min (plXz a * (if n = -1 then 1 else n.toNat)) cap
theorem pl_Xz {N : List Nd} (hs : ∀ i, i < N.length → sound (N.getD i default) = true) : ∀ t : T, Is N t → pl N t = plXz (abs N t) := by
  intro t
  induction t with
  | leaf i =>
    rintro ⟨h1, h2⟩
    have hk := hs i h1
    have h3 : (N.getD i default).k = 1 ∨ (N.getD i default).k = 2 := by
      unfold kids at h2
      split at h2
      · cases h2
      · rename_i h4
        split at h2
        · cases h2
        · rename_i h5
          unfold sound at hk
          split at hk
          · omega
          · split at hk
            · omega
            · cases hk
    simp only [pl, abs]
    rcases h3 with h3 | h3
    · rw [if_neg (by omega), if_pos h3]; rfl
    · rw [if_pos h3, if_neg (by omega)]; rfl
  | one i a ih =>
    rintro ⟨h1, h2, h3, h4⟩
    simp only [pl, abs, plXz]
    rw [ih h4]
  | two i a b ih1 ih2 =>
    rintro ⟨h1, h2, h3, h4, h5, h6⟩
    simp only [pl, abs]
    rw [ih1 h5, ih2 h6]
    split <;> rfl
def plCz (N : List Nd) (R : List (Int × Bool)) : Nat := if rightC N R then min ((R.map fun p => plXz (absF N (p.1.toNat + 1) p.1.toNat)).sum) cap else 0
theorem plOf_Cz (N : List Nd) (R : List (Int × Bool)) : plOf N R = plCz N R := by
  unfold plOf plCz
  rw [rightB_C]
  cases h : rightC N R
  · rfl
  · have hr := (rightC_iff N R).1 h
    rw [if_pos rfl, if_pos rfl]
    unfold places
    congr 2
    refine List.map_congr_left (fun p hp => ?_)
    have h1 := hr.rts p.1 (List.mem_map.2 ⟨p, hp, rfl⟩)
    obtain ⟨t, ht, hrt⟩ := is_of_low hr.low p.1.toNat (by omega)
    rw [← hrt, tr_of ht, pl_Xz hr.snd t ht, abs_F N t t.root ht (Nat.le_refl _)]
def depX : X → Nat
  | .emp => 1
  | .set _ => 1
  | .seq a b => max (depX a) (depX b) + 1
  | .alt a b => max (depX a) (depX b) + 1
  | .tim a _ _ => depX a + 1
theorem dep_X (N : List Nd) : ∀ t : T, t.dep = depX (abs N t) := by
  intro t
  induction t with
  | leaf i => simp only [T.dep, abs]; split <;> rfl
  | one i a ih => simp only [T.dep, abs, depX]; rw [ih]
  | two i a b ih1 ih2 => simp only [T.dep, abs]; rw [ih1, ih2]; split <;> rfl
def dpC (N : List Nd) (R : List (Int × Bool)) : Nat := if rightC N R then (R.map fun p => depX (absF N (p.1.toNat + 1) p.1.toNat)).foldl max 0 else 0
theorem dpOf_C (N : List Nd) (R : List (Int × Bool)) : dpOf N R = dpC N R := by
  unfold dpOf dpC
  rw [rightB_C]
  cases h : rightC N R
  · rfl
  · have hr := (rightC_iff N R).1 h
    rw [if_pos rfl, if_pos rfl]
    unfold depth
    congr 1
    refine List.map_congr_left (fun p hp => ?_)
    have h1 := hr.rts p.1 (List.mem_map.2 ⟨p, hp, rfl⟩)
    obtain ⟨t, ht, hrt⟩ := is_of_low hr.low p.1.toNat (by omega)
    rw [← hrt, tr_of ht, dep_X N t, abs_F N t t.root ht (Nat.le_refl _)]
end Tz
end Go.Proofs.YtcgllipcnmlkbaaDoor
