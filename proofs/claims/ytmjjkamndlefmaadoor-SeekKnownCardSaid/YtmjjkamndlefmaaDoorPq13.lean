/- useful. -/
import Derived.Test.YtmjjkamndlefmaaDoorPq11
import Derived.Test.YtmjjkamndlefmaaDoorPq12
namespace Go.Proofs.YtmjjkamndlefmaaDoor
open Go.RowKit Sets Nf
namespace Nf
def turnsL (L : List (List Int)) : List (List Int) := (List.range L.length).map (turnL L)
theorem turnsL_len (L : List (List Int)) : (turnsL L).length = L.length := by unfold turnsL; rw [List.length_map, List.length_range]
def R8 (x : Ma) (m : Mc) (B S3 : Nat) : Nat → Value → World → Prop
  | 0, v, _ => v = .pointer (some ⟨B, 1, none⟩)
  | 1, v, _ => v = .slice x.fa m.fi.length x.fc
  | 2, v, _ => v = .agg (setC (grp m.fi))
  | 3, v, _ => v = .pointer (some ⟨B, 2, none⟩)
  | 4, v, _ => v = .slice x.oa m.fo.length x.oc
  | 5, v, w => ∃ g, v = .slice (some ⟨g, 0, none⟩) m.fo.length m.fo.length ∧ GsB w g (m.fo.map grp)
  | 6, v, _ => v = .agg (setC (fullN m))
  | 7, v, _ => v = .agg (setC (rch (grp m.fi) (m.fo.map grp) (fullN m)))
  | 8, v, w => ∃ g, v = .pointer (some ⟨g, 0, none⟩) ∧ S3 < g ∧ SetB w g 0
  | _, _, _ => True
theorem R8_mono (x : Ma) (m : Mc) (B S3 : Nat) (i : Nat) (v : Value) (w w' : World) (hb : Below w.heap.size w w') (h : R8 x m B S3 i v w) : R8 x m B S3 i v w' := by
  match i with
  | 0 => exact h
  | 1 => exact h
  | 2 => exact h
  | 3 => exact h
  | 4 => exact h
  | 5 => obtain ⟨g, e, h1⟩ := h; exact ⟨g, e, h1.stay hb⟩
  | 6 => exact h
  | 7 => exact h
  | 8 => obtain ⟨g, e, h0, h1⟩ := h; exact ⟨g, e, h0, h1.stay hb⟩
  | n + 9 => exact h
def R8d (i : Nat) : Nat := if i = 8 then 6 else i + 23
def R9 (x : Ma) (m : Mc) (B N : Nat) : Nat → Value → World → Prop
  | 0, v, _ => v = .agg (mc x m)
  | 1, v, _ => v = .agg (setC (lastN m))
  | 2, v, _ => v = .pointer (some ⟨B, 2, none⟩)
  | 3, v, _ => v = .slice x.oa m.fo.length x.oc
  | 4, v, w => ∃ g, v = .slice (some ⟨g, 0, none⟩) m.fo.length m.fo.length ∧ ListsIn w (some ⟨g, 0, none⟩) (turnsL m.fo)
  | 5, v, w => ∃ g, v = .slice (some ⟨g, 0, none⟩) m.fo.length m.fo.length ∧ GsB w g ((turnsL m.fo).map grp)
  | 6, v, _ => v = .agg (setC (fullN m))
  | 7, v, _ => v = .agg (setC (rch (lastN m) ((turnsL m.fo).map grp) (fullN m)))
  | 8, v, w => ∃ g, v = .pointer (some ⟨g, 0, none⟩) ∧ N < g + 1 ∧ SetB w g 0
  | _, _, _ => True
theorem R9_mono (x : Ma) (m : Mc) (B N : Nat) (i : Nat) (v : Value) (w w' : World) (hb : Below w.heap.size w w') (h : R9 x m B N i v w) : R9 x m B N i v w' := by
  match i with
  | 0 => exact h
  | 1 => exact h
  | 2 => exact h
  | 3 => exact h
  | 4 => obtain ⟨g, e, h1⟩ := h; exact ⟨g, e, h1.kept hb⟩
  | 5 => obtain ⟨g, e, h1⟩ := h; exact ⟨g, e, h1.stay hb⟩
  | 6 => exact h
  | 7 => exact h
  | 8 => obtain ⟨g, e, h0, h1⟩ := h; exact ⟨g, e, h0, h1.stay hb⟩
  | n + 9 => exact h
def R9d (i : Nat) : Nat := if i = 8 then 7 else i + 31
theorem full_snoc (m : Mc) (j : Nat) : ofN ((List.range (j + 1)).filter fun k => stN m k != 0) = if stN m j = 0 then ofN ((List.range j).filter fun k => stN m k != 0) else ofN ((List.range j).filter fun k => stN m k != 0) ||| 2 ^ j := by
  rw [List.range_succ, List.filter_append, List.filter_cons]
  by_cases h : stN m j = 0
  · simp [h]
  · simp [h, ofN_snoc]
end Nf
end Go.Proofs.YtmjjkamndlefmaaDoor
