/- Where a part's places lie. Plain. -/
import Derived.Test.YtcgllipcnmlkbaaDoorPkV
namespace Go.Proofs.YtcgllipcnmlkbaaDoor
open Go.RowKit Sets Tr Rx Sp
namespace Sp
theorem md_app (m : List (X × Bool)) : ∀ k : List (X × Bool), ∃ d : Md, (md (m ++ k)).s = (md m).s ++ d.s ∧ (md (m ++ k)).f = (md m).f ++ d.f ∧ (md (m ++ k)).fi = (md m).fi ++ d.fi ∧ (md (m ++ k)).la = (md m).la ++ d.la := by
  refine snoc_ind (P := fun k => ∃ d : Md, (md (m ++ k)).s = (md m).s ++ d.s ∧ (md (m ++ k)).f = (md m).f ++ d.f ∧ (md (m ++ k)).fi = (md m).fi ++ d.fi ∧ (md (m ++ k)).la = (md m).la ++ d.la) ⟨md0, by simp [md0]⟩ (fun k x ih => ?_)
  obtain ⟨d, h1, h2, h3, h4⟩ := ih
  rw [← List.append_assoc, md_snoc]
  refine ⟨⟨d.s ++ (mk x.1).s, d.f ++ up (md (m ++ k)).s.length (mk x.1).f, d.fi ++ [(mk x.1).fi <<< (md (m ++ k)).s.length], d.la ++ [(mk x.1).la <<< (md (m ++ k)).s.length], [], []⟩, ?_, ?_, ?_, ?_⟩
  · show (md (m ++ k)).s ++ _ = _; rw [h1, List.append_assoc]
  · show (md (m ++ k)).f ++ _ = _; rw [h2, List.append_assoc]
  · show (md (m ++ k)).fi ++ _ = _; rw [h3, List.append_assoc]
  · show (md (m ++ k)).la ++ _ = _; rw [h4, List.append_assoc]
structure At (l : List (X × Bool)) (i : Nat) (x : X × Bool) (n : Nat) : Prop where
  off : (md (l.take i)).s.length = n
  next : (md (l.take (i + 1))).s.length = n + (mk x.1).s.length
  le : n + (mk x.1).s.length ≤ (md l).s.length
  fi : (md l).fi.getD i 0 = (mk x.1).fi <<< n
  la : (md l).la.getD i 0 = (mk x.1).la <<< n
  fol : ∀ j, j < (mk x.1).s.length → (md l).f.getD (n + j) 0 = (mk x.1).f.getD j 0 <<< n
theorem md_at (l : List (X × Bool)) (i : Nat) (x : X × Bool) (hi : i < l.length) (hx : l.take (i + 1) = l.take i ++ [x]) : At l i x (md (l.take i)).s.length := by
  obtain ⟨d, h1, h2, h3, h4⟩ := md_app (l.take (i + 1)) (l.drop (i + 1))
  rw [List.take_append_drop, hx, md_snoc] at h1 h2 h3 h4
  have hlen := md_len (l.take i)
  have hti : (l.take i).length = i := by rw [List.length_take]; omega
  rw [hti] at hlen
  obtain ⟨g1, g2, g3, -, -⟩ := hlen
  refine ⟨rfl, ?_, ?_, ?_, ?_, fun j hj => ?_⟩
  · rw [hx, md_snoc]; exact List.length_append
  · rw [h1]; show _ ≤ List.length (((md (l.take i)).s ++ (mk x.1).s) ++ d.s); rw [List.length_append, List.length_append]; omega
  · rw [h3]
    show (((md (l.take i)).fi ++ [(mk x.1).fi <<< (md (l.take i)).s.length]) ++ d.fi).getD i 0 = _
    rw [List.append_assoc, List.getD_eq_getElem?_getD, List.getElem?_append_right (by omega), g2, Nat.sub_self]; rfl
  · rw [h4]
    show (((md (l.take i)).la ++ [(mk x.1).la <<< (md (l.take i)).s.length]) ++ d.la).getD i 0 = _
    rw [List.append_assoc, List.getD_eq_getElem?_getD, List.getElem?_append_right (by omega), g3, Nat.sub_self]; rfl
  · rw [h2]
    show (((md (l.take i)).f ++ up (md (l.take i)).s.length (mk x.1).f) ++ d.f).getD _ 0 = _
    have hjf : j < (mk x.1).f.length := by rw [(ok_mk x.1).len]; exact hj
    rw [List.append_assoc, List.getD_eq_getElem?_getD, List.getElem?_append_right (by omega), g1, Nat.add_sub_cancel_left, List.getElem?_append_left (by rw [up_length]; exact hjf), up_get, List.getElem?_eq_getElem hjf, List.getD_eq_getElem?_getD, List.getElem?_eq_getElem hjf]
    rfl
end Sp
theorem off_mask {x n a : Nat} (hx : x < 2 ^ n) (h : a + n ≤ 63) : bits .andNot .u64 ((x <<< a : Nat) : Int) ((((2 ^ n - 1) <<< a : Nat)) : Int) = 0 := by
  have h1 : x <<< a < 2 ^ 64 := Nat.lt_of_lt_of_le (shl_lt hx) (Nat.pow_le_pow_right (by decide) (by omega))
  have h2 : (2 ^ n - 1) <<< a < 2 ^ 64 := Nat.lt_of_lt_of_le (shl_lt (n := n) (by have := Nat.two_pow_pos n; omega)) (Nat.pow_le_pow_right (by decide) (by omega))
  rw [u64_andNot_nat _ _ h1 h2]
  have e : (x <<< a) &&& (18446744073709551615 - (2 ^ n - 1) <<< a) = 0 := by
    apply Nat.eq_of_testBit_eq; intro i
    rw [show (18446744073709551615 : Nat) - (2 ^ n - 1) <<< a = 2 ^ 64 - ((2 ^ n - 1) <<< a + 1) from by omega, Nat.testBit_and, Nat.testBit_two_pow_sub_succ h2, Nat.testBit_shiftLeft, Nat.testBit_shiftLeft, Nat.testBit_two_pow_sub_one, Nat.zero_testBit]
    by_cases hi : a ≤ i
    · by_cases hj : i - a < n
      · simp [hi, hj]
      · rw [bit_hi hx (by omega)]; simp
    · simp [hi]
  rw [e]; rfl
end Go.Proofs.YtcgllipcnmlkbaaDoor
