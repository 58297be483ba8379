/- The reader in memory; what it takes of its text. -/
import Derived.Test.YtbmoanhdpnaocaaTre4
import Derived.Test.YtbmoanhdpnaocaaRexM
import Derived.Test.YtbmoanhdpnaocaaProg
import Derived.Deep.QuietTactic
import Derived.BigQuiet
namespace Go.Proofs.Ytbmoanhdpnaocaa
open Go.RowKit Sets Tr Rx
/-- the bytes of a text -/
def by' (s : ByteArray) : List Nat := s.data.toList.map UInt8.toNat
theorem by_lt (s : ByteArray) : ∀ x ∈ by' s, x < 256 := by
  intro x hx
  obtain ⟨y, -, rfl⟩ := List.mem_map.1 hx
  exact UInt8.toNat_lt y
theorem by_len (s : ByteArray) : (by' s).length = s.size := by
  unfold by'
  rw [List.length_map, Array.length_toList]
  rfl
theorem index_by (s : ByteArray) (k : Nat) (i : Int) (hi : i = k) (h : k < s.size) (w : World) : (Instr.index 9 (.string s) (.int .i64 i)).run Try.prog w = .ok (.int .u8 (pk (by' s) k : Nat)) w := by
  subst hi
  rw [run_index_string w _ _ _ _ Try.underlying9, dif_pos ⟨by omega, by omega⟩]
  simp only [Int.toNat_natCast]
  congr 2
  unfold pk by'
  have h' : k < s.data.size := h
  rw [List.getD_eq_getElem?_getD, List.getElem?_map, Array.getElem?_toList, Array.getElem?_eq_getElem h']
  rfl
/-- the reader lies in block B -/
def Row (w : World) (B : Nat) (s : ByteArray) (p o : Nat) (nv pv : Value) : Prop := w.heap[B]? = some (.cells #[.string s, .int .i64 p, .int .i64 o, nv, pv] 45 (0, 0))
theorem Row.cells {w : World} {B : Nat} {s : ByteArray} {p o : Nat} {nv pv : Value} (h : Row w B s p o nv pv) :
    w.cell? ⟨B, 0, none⟩ = some (.string s) ∧ w.cell? ⟨B, 1, none⟩ = some (.int .i64 p) ∧ w.cell? ⟨B, 2, none⟩ = some (.int .i64 o) ∧ w.cell? ⟨B, 3, none⟩ = some nv ∧ w.cell? ⟨B, 4, none⟩ = some pv := by
  unfold Row at h
  simp [World.cell?, h]
theorem Row.frozen {w : World} {B : Nat} {s : ByteArray} {p o : Nat} {nv pv : Value} (h : Row w B s p o nv pv) (i : Nat) : w.frozen? ⟨B, i, none⟩ = false := by
  unfold Row at h; simp [World.frozen?, h]
theorem Row.lt {w : World} {B : Nat} {s : ByteArray} {p o : Nat} {nv pv : Value} (h : Row w B s p o nv pv) : B < w.heap.size := (Array.getElem?_eq_some_iff.1 h).1
theorem Row.kept {w w' : World} {B : Nat} {s : ByteArray} {p o : Nat} {nv pv : Value} (h : Row w B s p o nv pv) (hk : w'.heap[B]? = w.heap[B]?) : Row w' B s p o nv pv := hk.trans h
theorem Row.put {w : World} {B : Nat} {s : ByteArray} {p o : Nat} {nv pv : Value} (h : Row w B s p o nv pv) (q : Nat) : Row (w.setCell ⟨B, 1, none⟩ (.int .i64 (q : Int))) B s q o nv pv := by
  unfold Row at *
  simp [World.setCell, Array.getElem?_modify, h]
theorem Row.putO {w : World} {B : Nat} {s : ByteArray} {p o : Nat} {nv pv : Value} (h : Row w B s p o nv pv) (q : Nat) : Row (w.setCell ⟨B, 2, none⟩ (.int .i64 (q : Int))) B s p q nv pv := by
  unfold Row at *
  simp [World.setCell, Array.getElem?_modify, h]
theorem Row.drew {w : World} {B : Nat} {s : ByteArray} {p o : Nat} {nv pv : Value} (h : Row w B s p o nv pv) : Row w.drew B s p o nv pv := h
theorem But.set0 (B : Nat) (w : World) (i : Nat) (v : Value) : But B w (w.setCell ⟨B, i, none⟩ v) :=
  ⟨rfl, rfl, rfl, by simp, fun k _ hn => Below.heap_setCell w ⟨B, i, none⟩ v k hn⟩
theorem But.drewR {B : Nat} {w w' : World} (h : But B w w') : But B w w'.drew := ⟨h.os, h.tape, h.output, h.size, h.block⟩
theorem But.drewN {B : Nat} {w w' : World} (h : But B w w') (n : Nat) : But B w (w'.drewN n) := ⟨h.os, h.tape, h.output, h.size, h.block⟩
theorem But.drewL {B : Nat} {w w' : World} (h : But B w.drew w') : But B w w' := ⟨h.os, h.tape, h.output, h.size, h.block⟩
set_option maxHeartbeats 800000 in
theorem take_no (B : Nat) (s : ByteArray) (p o : Nat) (nv pv : Value) (c : Nat) (w : World) (h : Row w B s p o nv pv) (hp : p ≤ s.size) (hk : pk (by' s) p ≠ c) :
    Calls Try.prog 16 #[.pointer (some ⟨B, 0, none⟩), .int .u8 (c : Int)] w fun e w' => e = .returned (.bool false) ∧ Row w' B s p o nv pv ∧ But B w w' := by
  obtain ⟨c0, c1, -, -, -⟩ := h.cells
  have f1 := h.frozen 1
  have hB := h.lt
  have HR := Lib.hid h
  clear h
  by_cases e : p = s.size
  · have he : ((p : Int) == (s.size : Int)) = true := by simp; omega
    clear hk
    go_enter Try.func16, Try.ntmps16
    go_wp2_with fail
    go_quiet (fail)
    go_wp2_with fail
    go_ret
    exact ⟨rfl, HR.out.drew, (But.refl _ _).drewN _⟩
  · have he : ((p : Int) == (s.size : Int)) = false := by rw [beq_eq_false_iff_ne]; omega
    have ix := index_by s p p rfl (by omega)
    clear e
    have hne : ((pk (by' s) p : Int) != (c : Int)) = true := by rw [bne_iff_ne]; omega
    clear hk
    generalize pk (by' s) p = k at *
    go_enter Try.func16, Try.ntmps16
    go_wp2_with fail
    go_quiet (fail)
    go_wp2_with fail
    go_ret
    exact ⟨rfl, HR.out.drew, (But.refl _ _).drewN _⟩
set_option maxHeartbeats 800000 in
theorem take_yes (B : Nat) (s : ByteArray) (p o : Nat) (nv pv : Value) (c : Nat) (w : World) (h : Row w B s p o nv pv) (hs : s.size ≤ 200) (hc : c < 256) (hk : pk (by' s) p = c) :
    Calls Try.prog 16 #[.pointer (some ⟨B, 0, none⟩), .int .u8 (c : Int)] w fun e w' => e = .returned (.bool true) ∧ Row w' B s (p + 1) o nv pv ∧ But B w w' := by
  have hlt : p < s.size := by rw [← by_len]; exact pk_lt (by omega)
  obtain ⟨c0, c1, -, -, -⟩ := h.cells
  have f1 := h.frozen 1
  have hB := h.lt
  have HR := Lib.hid h
  clear h
  have he : ((p : Int) == (s.size : Int)) = false := by rw [beq_eq_false_iff_ne]; omega
  have ix := index_by s p p rfl (by omega)
  rw [hk] at ix
  clear hk
  go_enter Try.func16, Try.ntmps16
  go_wp2_with fail
  go_quiet (fail)
  go_wp2_with fail
  go_ret
  exact ⟨rfl, HR.out.drew.put (p + 1), (But.set0 _ _ _ _).drewN _⟩
end Go.Proofs.Ytbmoanhdpnaocaa
