/- Lists of doubles in their order; tallies. No program. -/
import Derived.Test.YtkodhaapllmdhaaDoorRnk
import Derived.Sort.LotA
import Derived.Shelf.SlSortCmp.Insertion
namespace Go.Proofs.YtkodhaapllmdhaaDoor
open Go.Sort
namespace Rk
/-- A double, of NaNs the one form. -/
structure Dn where
  v : Nat
  lt : v < 2 ^ 64
  one : can v = v
theorem Dn.ext' {x y : Dn} (h : x.v = y.v) : x = y := by cases x; cases y; cases h; rfl
def toD (b : Nat) : Dn := if h : b < 2 ^ 64 then ⟨can b, can_lt h, can_can b⟩ else ⟨0, by decide, by decide +kernel⟩
instance : Inhabited Dn := ⟨toD 0⟩
theorem toD_v {b : Nat} (h : b < 2 ^ 64) : (toD b).v = can b := by unfold toD; rw [dif_pos h]
def enc (x : Dn) : Value := .float .f64 x.v
def cfD (x y : Dn) : Int := cf x.v y.v
theorem ltD (x y : Dn) : ltOf cfD x y = decide (rk x.v < rk y.v) := cf_neg x.v y.v
theorem swoD : SWO (ltOf cfD) where
  irrefl x := by rw [ltD]; simp
  trans x y z h1 h2 := by rw [ltD] at *; simp at *; omega
  ntrans x y z h1 h2 := by rw [ltD] at *; simp at *; omega
theorem totD (x y : Dn) (h1 : ltOf cfD x y = false) (h2 : ltOf cfD y x = false) : x = y := by
  rw [ltD] at h1 h2
  simp at h1 h2
  have e : rk x.v = rk y.v := by omega
  have := rk_can x.lt y.lt e
  rw [x.one, y.one] at this
  exact Dn.ext' this
/-- the sorted list -/
def srtD (l : List Dn) : List Dn := l.mergeSort fun x y => !(ltOf cfD) y x
def srt (l : List Nat) : List Nat := (srtD (l.map toD)).map Dn.v
theorem srtD_perm (l : List Dn) : (srtD l).Perm l := List.mergeSort_perm _ _
theorem srtD_sorted (l : List Dn) : (srtD l).Pairwise fun x y => rk x.v ≤ rk y.v := by
  refine (List.pairwise_mergeSort (le := fun x y => !(ltOf cfD) y x) ?_ ?_ l).imp ?_
  · intro a b c h1 h2; rw [ltD] at *; simp at *; omega
  · intro a b; rw [ltD, ltD]; simp; omega
  · intro a b h; rw [ltD] at h; simp at h; exact h
theorem srt_length (l : List Nat) : (srt l).length = l.length := by
  unfold srt; rw [List.length_map, (srtD_perm _).length_eq, List.length_map]
theorem srt_mem {l : List Nat} {x : Nat} (h : x ∈ srt l) : x < 2 ^ 64 ∧ can x = x := by
  unfold srt at h
  obtain ⟨d, -, rfl⟩ := List.mem_map.1 h
  exact ⟨d.lt, d.one⟩
theorem srt_sorted (l : List Nat) : ((srt l).map rk).Pairwise (· ≤ ·) := by
  unfold srt
  rw [List.map_map, List.pairwise_map]
  exact srtD_sorted _
theorem srt_ranks (l : List Nat) (h : ∀ x ∈ l, x < 2 ^ 64) : ((srt l).map rk).Perm (l.map rk) := by
  unfold srt
  rw [List.map_map]
  refine ((srtD_perm _).map _).trans ?_
  rw [List.map_map]
  rw [List.map_congr_left (g := rk)]
  intro x hx
  show rk (toD x).v = rk x
  rw [toD_v (h x hx), can_rk]
/-- canonical lists of the same ranks are one -/
theorem canon_eq : ∀ (l m : List Nat), (∀ x ∈ l, x < 2 ^ 64 ∧ can x = x) → (∀ x ∈ m, x < 2 ^ 64 ∧ can x = x) → l.map rk = m.map rk → l = m
  | [], [], _, _, _ => rfl
  | [], _ :: _, _, _, h => by simp at h
  | _ :: _, [], _, _, h => by simp at h
  | a :: l, b :: m, hl, hm, h => by
    simp only [List.map_cons, List.cons.injEq] at h
    have ih := canon_eq l m (fun x hx => hl x (by simp [hx])) (fun x hx => hm x (by simp [hx])) h.2
    have := rk_can (hl a (by simp)).1 (hm b (by simp)).1 h.1
    rw [(hl a (by simp)).2, (hm b (by simp)).2] at this
    rw [ih, this]
/-- the sorted list is the same in whatever row -/
theorem srt_perm {l m : List Nat} (hl : ∀ x ∈ l, x < 2 ^ 64) (hm : ∀ x ∈ m, x < 2 ^ 64) (h : l.Perm m) : srt l = srt m := by
  refine canon_eq _ _ (fun x hx => srt_mem hx) (fun x hx => srt_mem hx) ?_
  refine ranks_unique (srt_sorted l) (srt_sorted m) ?_
  exact (srt_ranks l hl).trans ((h.map rk).trans (srt_ranks m hm).symm)
theorem srt_srt (l : List Nat) : srt (srt l) = srt l := by
  refine canon_eq _ _ (fun x hx => srt_mem hx) (fun x hx => srt_mem hx) ?_
  exact ranks_unique (srt_sorted _) (srt_sorted l) (srt_ranks _ (fun x hx => (srt_mem hx).1))
/-- the plain ones, in their order -/
def pl (l : List Nat) : List Nat := (srt l).filter plainB
theorem pl_mem {l : List Nat} {x : Nat} (h : x ∈ pl l) : x < 2 ^ 64 ∧ plainB x = true := by
  unfold pl at h
  rw [List.mem_filter] at h
  exact ⟨(srt_mem h.1).1, h.2⟩
theorem pl_le (l : List Nat) : (pl l).length ≤ l.length := by
  unfold pl
  have := List.length_filter_le plainB (srt l)
  rwa [srt_length] at this
/-- a tally: many, odd, least, greatest, mean -/
structure Tl where
  many : Nat
  odd : Nat
  least : Nat
  greatest : Nat
  mean : Nat
def talP (n : Nat) (p : List Nat) : Tl :=
  ⟨n, n - p.length, p.headD 9218868437227405312, p.getLastD 18442240474082181120, if p = [] then cano else meanL p⟩
def tal (l : List Nat) : Tl := talP l.length (pl l)
/-- a tally as a value -/
def Tl.val (t : Tl) : Value := .agg #[.int .i64 (t.many : Int), .int .i64 (t.odd : Int), .float .f64 t.least, .float .f64 t.greatest, .float .f64 t.mean]
def Tl.fits (t : Tl) : Prop := t.least < 2 ^ 64 ∧ t.greatest < 2 ^ 64 ∧ t.mean < 2 ^ 64
theorem talP_fits (n : Nat) (p : List Nat) (h : ∀ x ∈ p, x < 2 ^ 64 ∧ plainB x = true) (hn : p.length < 2 ^ 53) : (talP n p).fits := by
  refine ⟨?_, ?_, ?_⟩
  · show p.headD _ < _
    cases p with
    | nil => decide
    | cons a t => exact (h a (by simp)).1
  · show p.getLastD _ < _
    rw [List.getLastD_eq_getLast?]
    cases hg : p.getLast? with
    | none => decide
    | some x => exact (h x (List.mem_of_getLast? hg)).1
  · show (if p = [] then cano else meanL p) < _
    split
    · decide
    · rename_i h0; exact (mean_is p h h0 hn).2.1
theorem tal_fits (l : List Nat) (hn : l.length < 2 ^ 53) : (tal l).fits := talP_fits _ _ (fun _ hx => pl_mem hx) (Nat.lt_of_le_of_lt (pl_le l) hn)
end Rk
end Go.Proofs.YtkodhaapllmdhaaDoor
