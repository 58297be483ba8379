/- Several texts in one. -/
import Derived.Test.YtcgllipcnmlkbaaDoorPkG
namespace Go.Proofs.YtcgllipcnmlkbaaDoor
open Tr Sets
namespace Sp
structure Mk where
  s : List Nat
  f : List Nat
  fi : Nat
  la : Nat
  em : Bool
deriving DecidableEq
/-- the places of ahead are followed by those of next too -/
def orAt (a x : Nat) (f : List Nat) : List Nat := f.mapIdx fun i y => if a.testBit i then y ||| x else y
def up (n : Nat) (f : List Nat) : List Nat := f.map (· <<< n)
def zero : Mk := ⟨[], [], 0, 0, true⟩
def join (a b : Mk) : Mk :=
  ⟨a.s ++ b.s, orAt a.la (b.fi <<< a.s.length) a.f ++ up a.s.length b.f, a.fi ||| (if a.em then b.fi <<< a.s.length else 0), (b.la <<< a.s.length) ||| (if b.em then a.la else 0), a.em && b.em⟩
def rest (a : Mk) (mn : Int) (i : Nat) : Mk := ⟨a.s, a.f, a.fi, a.la, a.em || decide (mn ≤ (i : Int))⟩
def reps (a : Mk) (mn : Int) : Nat → Mk
  | 0 => zero
  | i + 1 => join (reps a mn i) (rest a mn i)
def alt (a b : Mk) : Mk := ⟨a.s ++ b.s, a.f ++ up a.s.length b.f, a.fi ||| b.fi <<< a.s.length, a.la ||| b.la <<< a.s.length, a.em || b.em⟩
def star (a : Mk) (mn : Int) : Mk := ⟨a.s, orAt a.la a.fi a.f, a.fi, a.la, a.em || decide (mn = 0)⟩
def tim (a : Mk) (mn mx : Int) : Mk := if mx = 0 then zero else if mx = -1 then star a mn else reps a mn mx.toNat
def mk : X → Mk
  | .emp => zero
  | .set s => ⟨[s], [0], 1, 1, false⟩
  | .seq a b => join (mk a) (mk b)
  | .alt a b => alt (mk a) (mk b)
  | .tim a m n => tim (mk a) m n
theorem orAt_length (a x : Nat) (f : List Nat) : (orAt a x f).length = f.length := by unfold orAt; simp
theorem up_length (n : Nat) (f : List Nat) : (up n f).length = f.length := by unfold up; simp
theorem up_append (n : Nat) (f g : List Nat) : up n (f ++ g) = up n f ++ up n g := by unfold up; simp
theorem up_zero (f : List Nat) : up 0 f = f := by unfold up; simp
theorem up_up (n m : Nat) (f : List Nat) : up n (up m f) = up (m + n) f := by
  unfold up
  rw [List.map_map]
  refine List.map_congr_left (fun x _ => ?_)
  simp only [Function.comp, Nat.shiftLeft_add]
theorem orAt_get (a x : Nat) (f : List Nat) (i : Nat) : (orAt a x f)[i]? = f[i]?.map fun y => if a.testBit i then y ||| x else y := by
  unfold orAt; rw [List.getElem?_mapIdx]
theorem up_get (n : Nat) (f : List Nat) (i : Nat) : (up n f)[i]? = f[i]?.map (· <<< n) := by unfold up; rw [List.getElem?_map]
theorem bit_hi {x n i : Nat} (h : x < 2 ^ n) (hi : n ≤ i) : x.testBit i = false := Nat.testBit_lt_two_pow (Nat.lt_of_lt_of_le h (Nat.pow_le_pow_right (by decide) hi))
theorem orAt_nil (x : Nat) (f : List Nat) : orAt 0 x f = f := by
  apply List.ext_getElem?; intro i
  rw [orAt_get]; simp
/-- what lies behind is not touched -/
theorem orAt_left {a x : Nat} {f : List Nat} (g : List Nat) (h : a < 2 ^ f.length) : orAt a x (f ++ g) = orAt a x f ++ g := by
  apply List.ext_getElem?; intro i
  rw [orAt_get]
  by_cases hi : i < f.length
  · rw [List.getElem?_append_left hi, List.getElem?_append_left (by rw [orAt_length]; exact hi), orAt_get]
  · rw [List.getElem?_append_right (by omega), List.getElem?_append_right (by rw [orAt_length]; omega), orAt_length, bit_hi h (by omega)]
    simp
theorem orAt_up (a x n : Nat) (f g : List Nat) (hn : g.length = n) : orAt (a <<< n) (x <<< n) (g ++ up n f) = g ++ up n (orAt a x f) := by
  apply List.ext_getElem?; intro i
  rw [orAt_get]
  by_cases hi : i < g.length
  · rw [List.getElem?_append_left hi, List.getElem?_append_left hi, Nat.testBit_shiftLeft]
    have : decide (i ≥ n) = false := decide_eq_false (by omega)
    rw [this]; simp
  · rw [List.getElem?_append_right (by omega), List.getElem?_append_right (by omega), up_get, up_get, orAt_get, Nat.testBit_shiftLeft, hn]
    have : decide (i ≥ n) = true := decide_eq_true (by omega)
    rw [this, Option.map_map, Option.map_map, Bool.true_and]
    congr 1
    funext y
    simp only [Function.comp]
    split
    · rw [Nat.shiftLeft_or_distrib]
    · rfl
/-- one place after the other -/
theorem orAt_step {a x : Nat} {f : List Nat} (h0 : a ≠ 0) (h : a < 18446744073709551616) (hl : Lib.ctz 64 a < f.length) :
    orAt (a &&& (a - 1)) x (f.set (Lib.ctz 64 a) (f.getD (Lib.ctz 64 a) 0 ||| x)) = orAt a x f := by
  apply List.ext_getElem?; intro i
  rw [orAt_get, orAt_get, clear_low a h0 h, List.getElem?_set]
  by_cases hi : Lib.ctz 64 a = i
  · subst hi
    rw [if_pos rfl, if_pos hl, Option.map_some]
    have hb : a.testBit (Lib.ctz 64 a) = true := by
      have h1 := (Lib.lowest_bit 64 a h0 h).1
      have h2 : (a &&& (2 ^ 64 - a)).testBit (Lib.ctz 64 a) = true := by rw [h1]; simp
      rw [Nat.testBit_and] at h2
      exact (Bool.and_eq_true_iff.1 h2).1
    rw [List.getElem?_eq_getElem hl, Option.map_some, hb, List.getD_eq_getElem?_getD, List.getElem?_eq_getElem hl]
    simp
  · rw [if_neg hi]
    have : decide (i ≠ Lib.ctz 64 a) = true := decide_eq_true (fun e => hi e.symm)
    rw [this, Bool.and_true]
structure Ok (m : Mk) : Prop where
  len : m.f.length = m.s.length
  fol : ∀ x ∈ m.f, x < 2 ^ m.s.length
  fi : m.fi < 2 ^ m.s.length
  la : m.la < 2 ^ m.s.length
theorem shl_lt {x n m : Nat} (h : x < 2 ^ n) : x <<< m < 2 ^ (m + n) := by
  rw [Nat.shiftLeft_eq, Nat.pow_add, Nat.mul_comm]
  exact Nat.mul_lt_mul_of_pos_left h (Nat.two_pow_pos m)
theorem lt_more {x n m : Nat} (h : x < 2 ^ n) (hm : n ≤ m) : x < 2 ^ m := Nat.lt_of_lt_of_le h (Nat.pow_le_pow_right (by decide) hm)
theorem orAt_lt {a x n : Nat} {f : List Nat} (hf : ∀ y ∈ f, y < 2 ^ n) (hx : x < 2 ^ n) : ∀ y ∈ orAt a x f, y < 2 ^ n := by
  intro y hy
  obtain ⟨i, hi⟩ := List.mem_iff_getElem?.1 hy
  rw [orAt_get] at hi
  cases hz : f[i]? with
  | none => rw [hz] at hi; cases hi
  | some z =>
    rw [hz, Option.map_some] at hi
    injection hi with hi
    have := hf z (List.mem_of_getElem? hz)
    subst hi
    split
    · exact Nat.or_lt_two_pow this hx
    · exact this
theorem up_lt {n m : Nat} {f : List Nat} (hf : ∀ y ∈ f, y < 2 ^ n) : ∀ y ∈ up m f, y < 2 ^ (m + n) := by
  intro y hy
  obtain ⟨z, hz, rfl⟩ := List.mem_map.1 hy
  exact shl_lt (hf z hz)
theorem ok_zero : Ok zero := ⟨rfl, by simp [zero], by simp [zero], by simp [zero]⟩
theorem ok_join {a b : Mk} (ha : Ok a) (hb : Ok b) : Ok (join a b) := by
  have hl : (join a b).s.length = a.s.length + b.s.length := List.length_append
  refine ⟨?_, ?_, ?_, ?_⟩
  · rw [hl]; simp only [join, List.length_append, orAt_length, up_length, ha.len, hb.len]
  · rw [hl]
    intro y hy
    rcases List.mem_append.1 hy with hy | hy
    · exact orAt_lt (fun z hz => lt_more (ha.fol z hz) (by omega)) (shl_lt hb.fi) y hy
    · exact up_lt hb.fol y hy
  · rw [hl]
    refine Nat.or_lt_two_pow (lt_more ha.fi (by omega)) ?_
    split
    · exact shl_lt hb.fi
    · exact Nat.two_pow_pos _
  · rw [hl]
    refine Nat.or_lt_two_pow (shl_lt hb.la) ?_
    split
    · exact lt_more ha.la (by omega)
    · exact Nat.two_pow_pos _
theorem ok_alt {a b : Mk} (ha : Ok a) (hb : Ok b) : Ok (alt a b) := by
  have hl : (alt a b).s.length = a.s.length + b.s.length := List.length_append
  refine ⟨?_, ?_, ?_, ?_⟩
  · rw [hl]; simp only [alt, List.length_append, up_length, ha.len, hb.len]
  · rw [hl]
    intro y hy
    rcases List.mem_append.1 hy with hy | hy
    · exact lt_more (ha.fol y hy) (by omega)
    · exact up_lt hb.fol y hy
  · rw [hl]; exact Nat.or_lt_two_pow (lt_more ha.fi (by omega)) (shl_lt hb.fi)
  · rw [hl]; exact Nat.or_lt_two_pow (lt_more ha.la (by omega)) (shl_lt hb.la)
theorem ok_star {a : Mk} (ha : Ok a) (mn : Int) : Ok (star a mn) := ⟨by show (orAt _ _ _).length = _; rw [orAt_length]; exact ha.len, orAt_lt ha.fol ha.fi, ha.fi, ha.la⟩
theorem ok_rest {a : Mk} (ha : Ok a) (mn : Int) (i : Nat) : Ok (rest a mn i) := ⟨ha.len, ha.fol, ha.fi, ha.la⟩
theorem ok_reps {a : Mk} (ha : Ok a) (mn : Int) : ∀ k, Ok (reps a mn k)
  | 0 => ok_zero
  | k + 1 => ok_join (ok_reps ha mn k) (ok_rest ha mn k)
theorem reps_len (a : Mk) (mn : Int) : ∀ k, (reps a mn k).s.length = k * a.s.length
  | 0 => by simp [reps, zero]
  | k + 1 => by
    show List.length ((reps a mn k).s ++ a.s) = _
    rw [List.length_append, reps_len a mn k, Nat.succ_mul]
theorem ok_tim {a : Mk} (ha : Ok a) (mn mx : Int) : Ok (tim a mn mx) := by
  unfold tim
  split
  · exact ok_zero
  · split
    · exact ok_star ha mn
    · exact ok_reps ha mn _
theorem ok_mk : ∀ x : X, Ok (mk x)
  | .emp => ok_zero
  | .set s => ⟨rfl, by simp [mk], by simp [mk], by simp [mk]⟩
  | .seq a b => ok_join (ok_mk a) (ok_mk b)
  | .alt a b => ok_alt (ok_mk a) (ok_mk b)
  | .tim a m n => ok_tim (ok_mk a) m n
/-- how many places, where they are few -/
theorem mk_len : ∀ x : X, Tz.plXz x ≤ 63 → (mk x).s.length = Tz.plXz x
  | .emp, _ => rfl
  | .set _, _ => rfl
  | .seq a b, h => by
    simp only [Tz.plXz] at h ⊢
    unfold cap at *
    have h1 := mk_len a (by omega)
    have h2 := mk_len b (by omega)
    show List.length ((mk a).s ++ (mk b).s) = _
    rw [List.length_append, h1, h2]; omega
  | .alt a b, h => by
    simp only [Tz.plXz] at h ⊢
    unfold cap at *
    have h1 := mk_len a (by omega)
    have h2 := mk_len b (by omega)
    show List.length ((mk a).s ++ (mk b).s) = _
    rw [List.length_append, h1, h2]; omega
  | .tim a m n, h => by
    simp only [Tz.plXz] at h ⊢
    show (tim (mk a) m n).s.length = _
    unfold tim
    by_cases h0 : n = 0
    · rw [if_pos h0, h0]; simp [zero]
    · rw [if_neg h0]
      by_cases h1 : n = -1
      · rw [if_pos h1, if_pos h1] at *
        unfold cap at *
        have := mk_len a (by omega)
        show (mk a).s.length = _
        rw [this]; omega
      · rw [if_neg h1] at *
        rw [if_neg h1, reps_len]
        unfold cap at *
        by_cases h2 : n.toNat = 0
        · rw [h2]; simp
        · have h3 : Tz.plXz a ≤ Tz.plXz a * n.toNat := Nat.le_mul_of_pos_right _ (by omega)
          have := mk_len a (by omega)
          rw [this, Nat.mul_comm]
          omega
end Sp
end Go.Proofs.YtcgllipcnmlkbaaDoor
namespace Go.Proofs.YtcgllipcnmlkbaaDoor
open Tr Sets
namespace Sp
def cS (a : Mk) (i c : Nat) : List Nat := (List.range' i c).flatMap fun _ => a.s
def cF (a : Mk) (n i c : Nat) : List Nat := (List.range' i c).flatMap fun j => up (n + j * a.s.length) a.f
structure En where
  fi : Nat
  la : Nat
  em : Bool
instance : Inhabited En := ⟨⟨0, 0, false⟩⟩
def en (a : Mk) (n : Nat) : En := ⟨a.fi <<< n, a.la <<< n, a.em⟩
def cE (a : Mk) (n c : Nat) : List En := (List.range c).map fun j => en a (n + j * a.s.length)
theorem cS_zero (a : Mk) (i : Nat) : cS a i 0 = [] := rfl
theorem cF_zero (a : Mk) (n i : Nat) : cF a n i 0 = [] := rfl
theorem cS_snoc (a : Mk) (i c : Nat) : cS a i (c + 1) = cS a i c ++ a.s := by unfold cS; rw [List.range'_concat]; simp
theorem cF_snoc (a : Mk) (n i c : Nat) : cF a n i (c + 1) = cF a n i c ++ up (n + (i + c) * a.s.length) a.f := by unfold cF; rw [List.range'_concat]; simp
theorem cF_head (a : Mk) (n i c : Nat) : cF a n i (c + 1) = up (n + i * a.s.length) a.f ++ cF a n (i + 1) c := by unfold cF; rw [List.range'_succ]; simp
theorem cS_head (a : Mk) (i c : Nat) : cS a i (c + 1) = a.s ++ cS a (i + 1) c := by unfold cS; rw [List.range'_succ]; simp
theorem cE_len (a : Mk) (n c : Nat) : (cE a n c).length = c := by unfold cE; simp
theorem cE_snoc (a : Mk) (n c : Nat) : cE a n (c + 1) = cE a n c ++ [en a (n + c * a.s.length)] := by unfold cE; rw [List.range_succ]; simp
theorem cE_get (a : Mk) (n c i : Nat) (h : i < c) : (cE a n c).getD i default = en a (n + i * a.s.length) := by
  unfold cE
  rw [List.getD_eq_getElem?_getD, List.getElem?_map, List.getElem?_range h]; rfl
theorem cS_len (a : Mk) (i : Nat) : ∀ c, (cS a i c).length = c * a.s.length
  | 0 => by rw [cS_zero]; simp
  | c + 1 => by rw [cS_snoc, List.length_append, cS_len a i c, Nat.succ_mul]
theorem cF_len (a : Mk) (n i : Nat) (h : a.f.length = a.s.length) : ∀ c, (cF a n i c).length = c * a.s.length
  | 0 => by rw [cF_zero]; simp
  | c + 1 => by rw [cF_snoc, List.length_append, cF_len a n i h c, up_length, h, Nat.succ_mul]
theorem cF_first (a : Mk) (n c : Nat) : cF a n 0 (c + 1) = up n a.f ++ cF a n 1 c := by rw [cF_head]; simp
theorem reps_s (a : Mk) (mn : Int) : ∀ k, (reps a mn k).s = cS a 0 k
  | 0 => rfl
  | k + 1 => by
    show (reps a mn k).s ++ a.s = _
    rw [reps_s a mn k, cS_snoc]
theorem rep_one (a : Mk) (mn : Int) : reps a mn 1 = rest a mn 0 := by
  show join zero (rest a mn 0) = _
  unfold join zero rest
  simp only [List.length_nil, Nat.shiftLeft_zero, List.nil_append, up_zero, orAt, List.mapIdx_nil, Bool.true_and, if_true, Nat.zero_or]
  congr 1
  split <;> simp
/-- one more copy is joined -/
theorem joins (a : Mk) (mn : Int) (n i c : Nat) (G : List Nat) (ha : Ok a) (hG : G.length = n) :
    orAt ((reps a mn i).la <<< n) (a.fi <<< (n + i * a.s.length)) (G ++ (up n (reps a mn i).f ++ cF a n i (c + 1))) = G ++ (up n (reps a mn (i + 1)).f ++ cF a n (i + 1) c) := by
  have hl := reps_len a mn i
  have hok := ok_reps ha mn i
  have e1 : a.fi <<< (n + i * a.s.length) = (a.fi <<< (i * a.s.length)) <<< n := by rw [← Nat.shiftLeft_add]; congr 1; omega
  rw [← List.append_assoc, orAt_left, e1, orAt_up _ _ _ _ _ hG, cF_head, List.append_assoc]
  · congr 1
    show _ = up n (orAt (reps a mn i).la (a.fi <<< (reps a mn i).s.length) (reps a mn i).f ++ up (reps a mn i).s.length a.f) ++ _
    rw [up_append, up_up, hl, List.append_assoc, Nat.add_comm n]
  · rw [List.length_append, up_length, hG, hok.len]
    exact shl_lt hok.la
theorem reps_fi (a : Mk) (mn : Int) (n i : Nat) : (reps a mn (i + 1)).fi <<< n = (reps a mn i).fi <<< n ||| if (reps a mn i).em then a.fi <<< (n + i * a.s.length) else 0 := by
  show ((reps a mn i).fi ||| if (reps a mn i).em then a.fi <<< (reps a mn i).s.length else 0) <<< n = _
  rw [Nat.shiftLeft_or_distrib, reps_len]
  congr 1
  split
  · rw [← Nat.shiftLeft_add]; congr 1; omega
  · simp
theorem reps_la (a : Mk) (mn : Int) (n i : Nat) : (reps a mn (i + 1)).la <<< n = a.la <<< (n + i * a.s.length) ||| if (a.em || decide (mn ≤ (i : Int))) then (reps a mn i).la <<< n else 0 := by
  show ((a.la <<< (reps a mn i).s.length) ||| if (a.em || decide (mn ≤ (i : Int))) then (reps a mn i).la else 0) <<< n = _
  rw [Nat.shiftLeft_or_distrib, reps_len, ← Nat.shiftLeft_add, Nat.add_comm n]
  congr 1
  split
  · rfl
  · simp
theorem reps_em (a : Mk) (mn : Int) (i : Nat) : (reps a mn (i + 1)).em = ((reps a mn i).em && (a.em || decide (mn ≤ (i : Int)))) := rfl
end Sp
end Go.Proofs.YtcgllipcnmlkbaaDoor
