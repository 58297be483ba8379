/- TallyRow: lists, without the program. -/
import Derived.Test.YtkodhaapllmdhaaDoorTal6
namespace Go.Proofs.YtkodhaapllmdhaaDoor
open Go.RowKit Rk Go.Sort
/-- the list, turned round and on by t -/
def rot (l : List Nat) (t : Nat) : List Nat := (List.range l.length).map fun i => l.getD ((l.length - 1 - i + t) % l.length) 0
theorem rot_length (l : List Nat) (t : Nat) : (rot l t).length = l.length := by simp [rot]
theorem rot_at (l : List Nat) (t i : Nat) (hi : i < l.length) : (rot l t).getD i 0 = l.getD ((l.length - 1 - i + t) % l.length) 0 := by
  simp [rot, List.getD_eq_getElem?_getD, hi]
theorem mod_split (n i d : Nat) (hi : i < n) (hd : d < n) : (n - 1 - i + d) % n = if i < d then d - 1 - i else n - 1 - (i - d) := by
  split
  · rw [Nat.mod_eq_sub_mod (by omega), Nat.mod_eq_of_lt (by omega)]; omega
  · rw [Nat.mod_eq_of_lt (by omega)]; omega
theorem rot_perm (l : List Nat) (t : Nat) : (rot l t).Perm l := by
  by_cases h0 : l.length = 0
  · have : l = [] := List.eq_nil_of_length_eq_zero h0
    subst this; exact List.Perm.refl _
  have hd : t % l.length < l.length := Nat.mod_lt _ (by omega)
  have e : rot l t = l.reverse.drop (l.length - t % l.length) ++ l.reverse.take (l.length - t % l.length) := by
    refine List.ext_getElem (by simp [rot_length]) fun i h1 h2 => ?_
    rw [rot_length] at h1
    have e1 : (rot l t)[i]'(by rw [rot_length]; exact h1) = l.getD ((l.length - 1 - i + t) % l.length) 0 := by simp [rot]
    rw [e1, ← Nat.add_mod_mod, mod_split l.length i (t % l.length) h1 hd]
    rw [List.getElem_append]
    split
    · rename_i hlt
      rw [dif_pos (by simp; omega), List.getElem_drop, List.getElem_reverse, List.getD_eq_getElem?_getD, List.getElem?_eq_getElem (by omega)]
      simp only [Option.getD_some]
      congr 1; omega
    · rename_i hge
      rw [dif_neg (by simp; omega), List.getElem_take, List.getElem_reverse, List.getD_eq_getElem?_getD, List.getElem?_eq_getElem (by omega)]
      simp only [Option.getD_some, List.length_drop, List.length_reverse]
      congr 1; omega
  rw [e]
  refine List.perm_append_comm.trans ?_
  rw [List.take_append_drop]
  exact List.reverse_perm l
theorem rot_lt (l : List Nat) (t : Nat) (h : ∀ x ∈ l, x < 2 ^ 64) : ∀ x ∈ rot l t, x < 2 ^ 64 := fun x hx => h x ((rot_perm l t).mem_iff.1 hx)
theorem tal_perm {l m : List Nat} (hl : ∀ x ∈ l, x < 2 ^ 64) (hm : ∀ x ∈ m, x < 2 ^ 64) (h : l.Perm m) : tal l = tal m := by
  unfold tal pl; rw [srt_perm hl hm h, h.length_eq]
theorem tal_srt (l : List Nat) : tal (srt l) = tal l := by
  unfold tal pl; rw [srt_srt, srt_length]
theorem pl_has {l : List Nat} {x : Nat} (hl : ∀ x ∈ l, x < 2 ^ 64) (hx : x ∈ l) (hp : plainB x = true) : x ∈ pl l := by
  have h1 : rk x ∈ (srt l).map rk := (srt_ranks l hl).mem_iff.2 (List.mem_map_of_mem hx)
  obtain ⟨y, hy, e⟩ := List.mem_map.1 h1
  rcases rk_inj (srt_mem hy).1 (hl x hx) e with rfl | ⟨-, h⟩
  · exact List.mem_filter.2 ⟨hy, hp⟩
  · rw [plain_nan hp] at h; cases h
theorem pl_sorted (l : List Nat) : (pl l).Pairwise fun a b => rk a ≤ rk b :=
  (List.pairwise_map.1 (srt_sorted l)).filter _
theorem head_le {p : List Nat} (h : p.Pairwise fun a b => rk a ≤ rk b) {x : Nat} (hx : x ∈ p) (d : Nat) : rk (p.headD d) ≤ rk x := by
  cases p with
  | nil => cases hx
  | cons a p =>
    rcases List.mem_cons.1 hx with rfl | hx
    · exact Nat.le_refl _
    · exact (List.pairwise_cons.1 h).1 x hx
theorem le_last {p : List Nat} (h : p.Pairwise fun a b => rk a ≤ rk b) {x : Nat} (hx : x ∈ p) (d : Nat) : rk x ≤ rk (p.getLastD d) := by
  obtain ⟨i, hi, rfl⟩ := List.mem_iff_getElem.1 hx
  rw [List.getLastD_eq_getLast?, List.getLast?_eq_getElem?, List.getElem?_eq_getElem (by omega)]
  simp only [Option.getD_some]
  by_cases hh : i = p.length - 1
  · subst hh; exact Nat.le_refl _
  · exact List.pairwise_iff_getElem.1 h i (p.length - 1) hi (by omega) (by omega)
theorem least_le {l : List Nat} {x : Nat} (hl : ∀ x ∈ l, x < 2 ^ 64) (hx : x ∈ l) (hp : plainB x = true) : rk (tal l).least ≤ rk x := head_le (pl_sorted l) (pl_has hl hx hp) _
theorem le_greatest {l : List Nat} {x : Nat} (hl : ∀ x ∈ l, x < 2 ^ 64) (hx : x ∈ l) (hp : plainB x = true) : rk x ≤ rk (tal l).greatest := le_last (pl_sorted l) (pl_has hl hx hp) _
theorem can_plain {x : Nat} : plainB (can x) = plainB x := by
  unfold can
  split
  · rename_i h
    have : plainB x = false := by cases hp : plainB x with
      | false => rfl
      | true => rw [plain_nan hp] at h; cases h
    rw [this]; decide +kernel
  · rfl
theorem srt_can (l : List Nat) (hl : ∀ x ∈ l, x < 2 ^ 64) : (srt l).Perm (l.map can) := by
  unfold srt
  refine ((srtD_perm _).map _).trans ?_
  rw [List.map_map]
  rw [List.map_congr_left (g := can)]
  intro x hx
  exact toD_v (hl x hx)
theorem pl_count (l : List Nat) (hl : ∀ x ∈ l, x < 2 ^ 64) : (pl l).length = (l.filter plainB).length := by
  unfold pl
  rw [((srt_can l hl).filter _).length_eq, List.filter_map, List.length_map]
  congr 2
  funext x
  exact can_plain
theorem can_self {x : Nat} (hp : plainB x = true) : can x = x := by unfold can; rw [plain_nan hp]; rfl
theorem tal_one {x : Nat} (hx : x < 2 ^ 64) (hp : plainB x = true) : tal [x] = ⟨1, 0, x, x, meanL [x]⟩ := by
  have e : srt [x] = [x] := srt_eq _ _ (by simpa using hx) (by intro y hy; rw [List.mem_singleton.1 hy]; exact ⟨hx, can_self hp⟩) (by simp) (List.Perm.refl _)
  unfold tal pl
  rw [e]
  simp [talP, hp]
theorem mean_eq {x : Nat} (hx : x < 2 ^ 64) (hp : plainB x = true) : (FloatKind.f64.format.order (meanL [x]) x != some .eq) = false := by
  have h : FloatKind.f64.format = Ieee.double := rfl
  rw [h, mean_one x hx hp]
  have hn := plain_nan hp
  split
  · rename_i hz
    show (!(Ieee.double.order 0 x == some .eq)) = false
    rw [eq_is 0 x (by decide) hx, hn, num_zero hz, num_zero (by decide)]
    decide +kernel
  · rw [ne_self x hx, hn]
theorem mean_lt {x : Nat} (hx : x < 2 ^ 64) (hp : plainB x = true) : meanL [x] < 2 ^ 64 := by
  rw [mean_one x hx hp]; split
  · decide
  · exact hx
theorem range_cf (l : List Nat) : pl l ≠ [] → cf (tal l).least (tal l).greatest ≤ 0 := fun h => by
  have hm : (pl l).head h ∈ pl l := List.head_mem h
  have h1 := head_le (pl_sorted l) hm 9218868437227405312
  have h2 := le_last (pl_sorted l) hm 18442240474082181120
  have h3 : rk (tal l).least ≤ rk (tal l).greatest := Nat.le_trans h1 h2
  unfold cf; repeat' split <;> omega
theorem range_none (l : List Nat) : pl l = [] → cf (tal l).least (tal l).greatest = 1 ∧ (tal l).mean = cano := fun h => by
  unfold tal talP
  rw [h]
  refine ⟨?_, rfl⟩
  show cf 9218868437227405312 18442240474082181120 = 1
  decide +kernel
end Go.Proofs.YtkodhaapllmdhaaDoor
