/- shibbolethref02.Apart. -/
import Derived.Test.YtdhnaldjofpeeaaDoorMem
import Derived.Test.YtdhnaldjofpeeaaDoorClsM
import Derived.Test.YtdhnaldjofpeeaaDoorMix
import Derived.Test.YtdhnaldjofpeeaaDoorAppB
namespace Go.Proofs.YtdhnaldjofpeeaaDoor
open Go.RowKit Sets Cls
/-- The cells of rows of 256 answers. -/
def boolsL (L : List Nat) : List Value := L.flatMap fun S => (arr S.testBit).toList
theorem boolsL_length (L : List Nat) : (boolsL L).length = L.length * 256 := by
  induction L with
  | nil => rfl
  | cons S L ih => simp only [boolsL, List.flatMap_cons, List.length_append, List.length_cons] at *; rw [ih, Array.length_toList, arr_size]; omega
theorem boolsL_get (L : List Nat) (i c : Nat) (hi : i < L.length) (hc : c < 256) : (boolsL L)[i * 256 + c]? = some (.bool ((L.getD i 0).testBit c)) := by
  induction L generalizing i with
  | nil => simp at hi
  | cons S L ih =>
    have e : boolsL (S :: L) = (arr S.testBit).toList ++ boolsL L := rfl
    rw [e]
    cases i with
    | zero =>
      rw [Nat.zero_mul, Nat.zero_add, List.getElem?_append_left (by rw [Array.length_toList, arr_size]; exact hc), Array.getElem?_toList, arr_get _ _ hc]; rfl
    | succ i =>
      rw [List.getElem?_append_right (by rw [Array.length_toList, arr_size]; omega)]
      have e : (i + 1) * 256 + c - (arr S.testBit).toList.length = i * 256 + c := by rw [Array.length_toList, arr_size]; omega
      rw [e, ih i (by simpa using hi)]
      simp
/-- v is a slice of rows of 256 answers: the members of the sets L. -/
def BoolRows (w : World) (v : Value) (L : List Nat) : Prop :=
  ∃ a cap, v = .slice a L.length cap ∧ ∀ i, i < L.length → ∃ b, a = some ⟨b, 0, none⟩ ∧ b < w.heap.size ∧ ∀ c, c < 256 → w.cell? ⟨b, i * 256 + c, none⟩ = some (.bool ((L.getD i 0).testBit c))
theorem BoolRows.kept {w w' : World} {v : Value} {L : List Nat} (h : BoolRows w v L) (hb : Below w.heap.size w w') : BoolRows w' v L := by
  obtain ⟨a, cap, e, hc⟩ := h
  refine ⟨a, cap, e, fun i hi => ?_⟩
  obtain ⟨b, e2, hl, hq⟩ := hc i hi
  exact ⟨b, e2, Nat.lt_of_lt_of_le hl hb.size, fun c hc => (hb.cell hl).trans (hq c hc)⟩
theorem owns_bools {w : World} {B : Nat} {v : Value} {L : List Nat} (h : w.ownsRow B 57 256 v L.length (boolsL L)) : BoolRows w v L := by
  rcases h.2 with ⟨h1, h2⟩ | ⟨g, cap, cur, h1, -, h3, -, -, -, h4⟩
  · exact ⟨none, 0, by rw [h1, h2], fun i hi => by omega⟩
  · refine ⟨_, cap, h1, fun i hi => ⟨g, rfl, (Array.getElem?_eq_some_iff.1 h3).1, fun c hc => ?_⟩⟩
    rw [cell_of_row w g _ _ _ _ h3, ← Array.getElem?_toList]
    have := boolsL_get L i c hi hc
    rw [← h4, List.getElem?_take_of_lt (by have := (List.getElem?_eq_some_iff.1 this).1; rw [h4, boolsL_length] at this; omega)] at this
    exact this
theorem same_take (L : List Nat) (a b m : Nat) (h : m < L.length) : same (L.take (m + 1)) a b = (same (L.take m) a b && ((L.getD m 0).testBit a == (L.getD m 0).testBit b)) := by
  rw [List.take_succ_eq_append_getElem h, same_append, List.getD_eq_getElem?_getD, List.getElem?_eq_getElem h]
  simp [same]
theorem same_of_take (L : List Nat) (a b m : Nat) (h : same (L.take m) a b = false) : same L a b = false := by
  rw [Bool.eq_false_iff] at *
  intro h'
  refine h ((same_iff _ _ _).2 (fun S hS => (same_iff _ _ _).1 h' S (List.mem_of_mem_take hS)))
set_option maxHeartbeats 1600000 in
set_option maxRecDepth 100000 in
theorem apart_any (v : Value) (L : List Nat) (a b : Nat) (w : World) (hv : BoolRows w v L) (ha : a < 256) (hb : b < 256) (hL : L.length ≤ 1000) :
    Calls Tryd.prog 28 #[v, .int .i64 a, .int .i64 b] w fun e w' => e = .returned (.bool (!same L a b)) ∧ Below w.heap.size w w' := by
  obtain ⟨ad, cap, rfl, hc⟩ := hv
  go_enter Tryd.func28, Tryd.ntmps28
  go_wp2
  go_loopw [7] (fun i wr => ∃ m : Nat, i = .int .i64 m ∧ m ≤ L.length ∧ Hid (same (L.take m) a b = true) ∧ Below w.heap.size w wr) (fun i _ => (L.length - intOf i).toNat)
  case atStart => exact ⟨0, rfl, by omega, Lib.hid rfl, Below.refl _ _⟩
  case round =>
    obtain ⟨m, rfl, hm, HS, hB⟩ := hrel
    by_cases hml : m < L.length
    · obtain ⟨bl, rfl, hbl, hq⟩ := hc m hml
      have qa := (hB.cell (p := ⟨bl, m * 256 + a, none⟩) hbl).trans (hq a ha)
      have qb := (hB.cell (p := ⟨bl, m * 256 + b, none⟩) hbl).trans (hq b hb)
      have hblw : bl < wr.heap.size := Nat.lt_of_lt_of_le hbl hB.size
      have HST := Lib.hid (same_take L a b m hml)
      have hdm : decide ((m : Int) < (L.length : Int)) = true := decide_eq_true (by omega)
      clear hc hq
      generalize L.getD m 0 = S at *
      cases hSa : S.testBit a <;> cases hSb : S.testBit b
      all_goals
        rw [hSa] at qa
        rw [hSb] at qb
        rw [hSa, hSb] at HST
        clear hSa hSb
        go_wp2
        refine region_mix [(false, 0), (false, 1), (false, 2), (false, 3), (false, 4), (false, 5), (false, 6), (false, 7), (false, 8), (false, 9), (false, 10), (false, 11)] (fun w' => Below wr.heap.size wr w') (by kernel_rfl) (by kernel_rfl) ((Below.refl _ _).drew) ?_
        simp only [planOps, List.map_cons, List.map_nil, List.getD_cons_zero, List.getD_cons_succ, List.length_cons, List.length_nil, List.drop_succ_cons, List.drop_zero]
        refine mix_seg (seg := [_, _, _, _, _, _, _, _, _, _, _, _]) (rest := []) rfl ((Below.refl _ _).drew) ?_
        intro ι hι F hF
        have f0 := fun n => ((hF n).cell (p := ⟨bl, m * 256 + a, none⟩) hblw).trans qa
        have f1 := fun n => ((hF n).cell (p := ⟨bl, m * 256 + b, none⟩) hblw).trans qb
        repeat (go_big_quiet_step (fail))
        refine wpQuiet_nil ?_
        clear f0 f1 hF hι F
        show wpList _ _ _ _ _ _
        go_wp2
        refine NoPanic.normal ?_
        go_wp2
        first
          | exact ⟨⟨m + 1, by go_num, by omega, Lib.hid (by rw [HST.out, HS.out]; rfl), hB.drew⟩, by simp [intOf]; omega⟩
          | (go_ret; exact ⟨by rw [same_of_take L a b (m + 1) (by rw [HST.out, HS.out]; rfl)]; rfl, hB.drew⟩)
    · have hmL : m = L.length := by omega
      subst hmL
      have hS := HS.out
      rw [List.take_length] at hS
      go_wp2
      go_ret
      exact ⟨by rw [hS]; rfl, hB⟩
end Go.Proofs.YtdhnaldjofpeeaaDoor
