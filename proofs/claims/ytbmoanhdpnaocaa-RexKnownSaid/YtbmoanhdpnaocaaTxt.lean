/- A string's bytes as a list; the hex digits: Value, Hex, said, written, and the check's own Value and At. -/
import Derived.Test.YtbmoanhdpnaocaaKit
import Derived.Test.YtbmoanhdpnaocaaPctM
import Derived.Test.YtbmoanhdpnaocaaProg
import Derived.WalkKit
import Derived.WalkSpells
import Derived.WalkLawsBesides
import Derived.Deep.QuietTactic
import Derived.BigQuiet
import Derived.Lib.Hide
import Derived.Lib.Strings
namespace Go.Proofs.Ytbmoanhdpnaocaa
open Go.RowKit Pct
def tx (s : ByteArray) : List UInt8 := s.data.toList
def str (l : List UInt8) : ByteArray := ⟨l.toArray⟩
theorem tx_str (l : List UInt8) : tx (str l) = l := rfl
theorem str_tx (s : ByteArray) : str (tx s) = s := Lib.mk_data s
theorem size_tx (s : ByteArray) : s.size = (tx s).length := Lib.size_eq s
theorem size_str (l : List UInt8) : (str l).size = l.length := size_tx (str l)
theorem toList_tx (s : ByteArray) : s.toList = tx s := Lib.toList_data s
theorem tx_append (a b : ByteArray) : tx (a ++ b) = tx a ++ tx b := by
  unfold tx; rw [ByteArray.data_append, Array.toList_append]
theorem tx_extract (s : ByteArray) (a b : Nat) : tx (s.extract a b) = ((tx s).drop a).take (b - a) := Lib.extract_data s a b
theorem get_tx (s : ByteArray) (i : Nat) (h : i < s.size) : s[i] = (tx s).getD i 0 := by
  rw [List.getD_eq_getElem?_getD, List.getElem?_eq_getElem (by rw [← size_tx]; exact h), Option.getD_some]
  unfold tx; rfl
theorem tx_inj {a b : ByteArray} (h : tx a = tx b) : a = b := by rw [← str_tx a, ← str_tx b, h]
def valV : Option Nat → Value
  | some x => .tuple #[.int .u8 (x : Int), .bool true]
  | none => .tuple #[.int .u8 0, .bool false]
theorem ret_tup2 {k : IntKind} {a b : Int} {c : Bool} (h : a = b) : Ending.returned (.tuple #[.int k a, .bool c]) = .returned (.tuple #[.int k b, .bool c]) := by rw [h]
set_option maxHeartbeats 400000 in
theorem value_any (c : Nat) (w : World) (h : c < 256) :
    Calls Try.prog 46 #[.int .u8 (c : Int)] w fun e w' => e = .returned (valV (val c)) ∧ w = w' := by
  by_cases h1 : 48 ≤ c ∧ c ≤ 57
  · have e : val c = some (c - 48) := by unfold val; rw [if_pos h1]
    have H := Lib.hid e
    obtain ⟨h1, h2⟩ := h1
    have d1 : decide ((48 : Int) ≤ (c : Int)) = true := decide_eq_true (by omega)
    have d2 : decide ((c : Int) ≤ (57 : Int)) = true := decide_eq_true (by omega)
    have d1' : decide (48 ≤ c) = true := decide_eq_true (by omega)
    have d2' : decide (c ≤ 57) = true := decide_eq_true (by omega)
    clear e
    go_enter Try.func46, Try.ntmps46
    go_wp2
    go_ret2
    rw [H.out]
    exact ⟨ret_tup2 (by omega), rfl⟩
  · by_cases h2 : 97 ≤ c ∧ c ≤ 102
    · have e : val c = some (c - 87) := by unfold val; rw [if_neg h1, if_pos h2]
      have H := Lib.hid e
      obtain ⟨h2, h3⟩ := h2
      have d0 : decide (c ≤ 57) = false := decide_eq_false (by omega)
      have d1 : decide (48 ≤ c) = true := decide_eq_true (by omega)
      have d2 : decide (97 ≤ c) = true := decide_eq_true (by omega)
      have d3 : decide (c ≤ 102) = true := decide_eq_true (by omega)
      clear e h1
      go_enter Try.func46, Try.ntmps46
      go_wp2
      go_ret2
      rw [H.out]
      exact ⟨ret_tup2 (by omega), rfl⟩
    · by_cases h3 : 65 ≤ c ∧ c ≤ 70
      · have e : val c = some (c - 55) := by unfold val; rw [if_neg h1, if_neg h2, if_pos h3]
        have H := Lib.hid e
        obtain ⟨h3, h4⟩ := h3
        have d0 : decide (c ≤ 57) = false := decide_eq_false (by omega)
        have d1 : decide (48 ≤ c) = true := decide_eq_true (by omega)
        have d2 : decide (97 ≤ c) = false := decide_eq_false (by omega)
        have d4 : decide (65 ≤ c) = true := decide_eq_true (by omega)
        have d5 : decide (c ≤ 70) = true := decide_eq_true (by omega)
        clear e h1 h2
        go_enter Try.func46, Try.ntmps46
        go_wp2
        go_ret2
        rw [H.out]
        exact ⟨ret_tup2 (by omega), rfl⟩
      · have e : val c = none := by unfold val; rw [if_neg h1, if_neg h2, if_neg h3]
        have H := Lib.hid e
        clear e
        have t1 : (decide ((48 : Int) ≤ (c : Int)) && decide ((c : Int) ≤ 57)) = false := by simp; omega
        go_enter Try.func46, Try.ntmps46
        go_wp2
        all_goals first
          | (exfalso; omega)
          | (go_ret2; rw [H.out]; exact ⟨rfl, rfl⟩)
end Go.Proofs.Ytbmoanhdpnaocaa
