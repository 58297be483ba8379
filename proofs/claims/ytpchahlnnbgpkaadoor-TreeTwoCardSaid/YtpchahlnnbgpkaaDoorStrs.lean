/- Bytes turned into a string. -/
import Derived.Test.YtpchahlnnbgpkaaDoorOct4
import Derived.Laws.IdiomStrings
namespace Go.Proofs.YtpchahlnnbgpkaaDoor
open Go.RowKit Sets
/-- The string of these bytes. -/
def strN (l : List Nat) : ByteArray := ⟨(l.map UInt8.ofNat).toArray⟩
theorem bytes_string {w : World} {v : Value} {l : List Nat} (h : BytesAt w v l) : (convert 41 9 v).run Tryd.prog w = .ok (.string (strN l)) w := by
  obtain ⟨hl, -, a, cap, rfl, hc⟩ := h
  by_cases h0 : l.length = 0
  · have hn : l = [] := List.length_eq_zero_iff.1 h0
    subst hn
    rw [run_convert_bytes_string w _ _ _ a _ cap Tryd.underlying41 Tryd.underlying5 Tryd.underlying9]
    cases a with
    | none => simp [Conv.bytesToString, strN]; rfl
    | some x =>
      exact run_bytesToString w x 0 cap [] rfl
  · obtain ⟨b, o, rfl, -⟩ := hc 0 (by omega)
    have := run_convert_bytes_back w _ _ _ ⟨b, o, none⟩ cap (l.map UInt8.ofNat) Tryd.underlying41 Tryd.underlying5 Tryd.underlying9 (fun j hj => by
      simp only [List.length_map] at hj
      obtain ⟨b', o', e, hq⟩ := hc j hj
      injection e with e
      injection e with e1 e2
      subst e1 e2
      rw [Addr.add_lit, hq]
      have hlt := hl _ (List.getElem_mem hj)
      rw [List.getD_eq_getElem?_getD, List.getElem?_eq_getElem hj, List.getElem_map, Option.getD_some]
      congr 2
      rw [UInt8.toNat_ofNat']
      omega)
    rw [List.length_map] at this
    exact this
end Go.Proofs.YtpchahlnnbgpkaaDoor
