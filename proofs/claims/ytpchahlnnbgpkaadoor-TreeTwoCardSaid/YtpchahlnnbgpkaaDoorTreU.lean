/- Contains over bytes; tree.addBelow over whatever addNode does. -/
import Derived.Test.YtpchahlnnbgpkaaDoorTreS
import Derived.Test.YtpchahlnnbgpkaaDoorTre4
namespace Go.Proofs.YtpchahlnnbgpkaaDoor
open Go.RowKit Sets Tr
def hasK (l : List Nat) (k : Nat) : Bool := l.contains k
set_option maxHeartbeats 3200000 in
set_option maxRecDepth 100000 in
theorem index8_any (v : Value) (l : List Nat) (k : Nat) (w : World) (hv : BytesAt w v l) (hn : l.length ≤ 1000) :
    Calls Tryd.prog 53 #[v, .int .u8 k] w fun e w' => ∃ j : Int, e = .returned (.int .i64 j) ∧ (decide (0 ≤ j) = hasK l k) ∧ w = w' := by
  obtain ⟨a, c, rfl⟩ : ∃ a c, v = .slice a l.length c := by obtain ⟨-, -, a, c, e, -⟩ := hv; exact ⟨a, c, e⟩
  have HV := Lib.hid hv
  clear hv
  go_enter Tryd.func53, Tryd.ntmps53
  go_wp2_with fail
  go_loopw [8] (fun x wr => ∃ m : Nat, x = .int .i64 m ∧ m ≤ l.length ∧ Hid (∀ j, j < m → l.getD j 0 ≠ k) ∧ wr = w) (fun x _ => (l.length - intOf x).toNat)
  case atStart => exact ⟨0, rfl, Nat.zero_le _, Lib.hid (fun j hj => absurd hj (Nat.not_lt_zero _)), rfl⟩
  case round =>
    obtain ⟨m, rfl, hm, HA, rfl⟩ := hrel
    by_cases hml : m < l.length
    · obtain ⟨b, o, rfl, hx, hxb⟩ := bytes_cell HV.out hml
      have hdm : decide ((m : Int) < (l.length : Int)) = true := decide_eq_true (by omega)
      have HMem : Hid (l.getD m 0 = l.getD m 0 ∧ l.getD m 0 ∈ l) := Lib.hid ⟨rfl, by rw [List.getD_eq_getElem?_getD, List.getElem?_eq_getElem hml]; exact List.getElem_mem hml⟩
      obtain ⟨y, hy⟩ : ∃ y, y = l.getD m 0 := ⟨_, rfl⟩
      rw [← hy] at hx hxb HMem
      have HY := Lib.hid hy
      clear hy
      by_cases he : k = y
      · have hq : ((k : Int) == (y : Int)) = true := by rw [beq_iff_eq]; omega
        have HE := Lib.hid he
        clear he
        go_wp2_with fail
        go_ret
        refine ⟨_, rfl, ?_, rfl⟩
        rw [decide_eq_true (by omega : (0 : Int) ≤ (m : Int))]
        symm
        exact List.contains_iff_mem.2 (HE.out ▸ HMem.out.2)
      · have hq : ((k : Int) == (y : Int)) = false := by rw [beq_eq_false_iff_ne]; omega
        have HE := Lib.hid he
        clear he
        go_wp2_with fail
        go_roundw
        case rel =>
          refine ⟨m + 1, by go_num, hml, Lib.hid (fun j hj => ?_), by first | rfl | trivial⟩
          by_cases h : j = m
          · rw [h, ← HY.out]; exact fun e => HE.out e.symm
          · exact HA.out j (by omega)
        case measure => simp only [intOf]; omega
    · have : m = l.length := by omega
      subst this
      have hdm : decide ((l.length : Int) < (l.length : Int)) = false := decide_eq_false (by omega)
      go_wp2_with fail
      go_ret
      refine ⟨_, rfl, ?_, rfl⟩
      rw [decide_eq_false (by omega)]
      symm
      rw [Bool.eq_false_iff]
      intro h
      obtain ⟨j, hj, e⟩ := List.mem_iff_getElem.1 (List.contains_iff_mem.1 h)
      refine HA.out j hj ?_
      rw [List.getD_eq_getElem?_getD, List.getElem?_eq_getElem hj]
      exact e
theorem contains8_any (v : Value) (l : List Nat) (k : Nat) (w : World) (hv : BytesAt w v l) (hn : l.length ≤ 1000) :
    Calls Tryd.prog 45 #[v, .int .u8 k] w fun e w' => e = .returned (.bool (hasK l k)) ∧ w = w' := by
  have HI := Lib.hid (index8_any v l k w hv hn)
  clear hv
  go_enter Tryd.func45, Tryd.ntmps45
  go_wp2_with (go_at_call 53; refine HI.out.mono ?_; rintro e w' ⟨j, rfl, hj, rfl⟩)
  go_ret
  exact ⟨by rw [← hj]; rfl, rfl⟩
/-- what addNode does at a number -/
def Adds (W : World) (nv : Value) (r s : Nat) (p : List Nat) : Prop := ∀ (v : Value) (D : List Nat) (w : World), Out W.heap.size w v D → Below W.heap.size W w → D.length + 2400 * s ≤ 100000000 →
  Calls Tryd.prog 20 #[v, nv, .int .i64 r] w (OutAp W.heap.size w v (D ++ p))
set_option maxHeartbeats 3200000 in
set_option maxRecDepth 100000 in
theorem addBelow_any (W : World) (nv : Value) (N : List Nd) (hN : NodesAt W nv N) (r s : Nat) (p : List Nat) (hA : Adds W nv r s p) (hp : p.length ≤ 2400 * s) (hr : r < N.length)
    (v x : Value) (D l : List Nat) (w : World) (hO : Out W.heap.size w v D) (hW : Below W.heap.size W w) (hx : BytesAt w x l) (hl : l.length ≤ 10) (hD : D.length + 1 + 2400 * s ≤ 100000000) :
    Calls Tryd.prog 34 #[v, nv, .int .i64 r, x] w (OutAp W.heap.size w v (D ++ wr (hasK l (N.getD r default).k) p)) := by
  obtain ⟨na, nc, rfl⟩ : ∃ a c, nv = .slice a N.length c := by obtain ⟨-, -, a, c, e, -⟩ := hN; exact ⟨a, c, e⟩
  obtain ⟨b, o, rfl, hr0, hok⟩ := hN.at hr
  have hc0 : w.cell? ⟨b, o + r * 9, none⟩ = some (.int .u8 (N.getD r default).k) := (range_kept hr0 hW) 0 _ (nd9_get _).1
  have HC := Lib.hid (contains8_any x l (N.getD r default).k w hx (by omega))
  have HO := Lib.hid hO
  have HW := Lib.hid hW
  have HA := Lib.hid hA
  obtain ⟨xa, xc, rfl⟩ : ∃ a c, x = .slice a l.length c := by obtain ⟨-, -, a, c, e, -⟩ := hx; exact ⟨a, c, e⟩
  have hrN : decide ((r : Int) < (N.length : Int)) = true := decide_eq_true (by omega)
  clear hr0 hok hO hW hA hx hN
  generalize (N.getD r default).k = k at *
  go_enter Tryd.func34, Tryd.ntmps34
  cases hcc : hasK l k
  · rw [hcc] at HC
    clear hcc
    go_wp2_with (go_at_call 45; refine HC.out.mono ?_; rintro e w' ⟨rfl, rfl⟩)
    refine (HA.out v D w HO.out HW.out (by omega)).mono ?_
    rintro e w2 ⟨v2, rfl, hO2, hB2, hA2⟩
    have HO2 := Lib.hid hO2
    clear hO2
    go_wp2_with fail
    go_ret
    exact ⟨_, rfl, HO2.out, hB2, hA2⟩
  · rw [hcc] at HC
    clear hcc
    go_wp2_with (first
      | (go_at_call 45; refine HC.out.mono ?_; rintro e w' ⟨rfl, rfl⟩)
      | (refine wpList_out rfl _ _ rfl W.heap.size v D [40] _ rfl rfl HO.out rfl (by simp; omega) HW.out.size ?_; intro v2 w2 hO2 hB2 hA2; have HO2 := Lib.hid hO2; have HB2 := Lib.hid hB2; have HA2 := Lib.hid hA2; clear hO2 hB2 hA2))
    refine (HA.out v2 _ w2 HO2.out (HW.out.trans HB2.out) (by simp only [List.length_append, List.length_cons, List.length_nil]; omega)).mono ?_
    rintro e w3 ⟨v3, rfl, hO3, hB3, hA3⟩
    have HO3 := Lib.hid hO3
    have HB3 := Lib.hid (HB2.out.trans hB3)
    have HA3 := Lib.hid (HA2.out.trans hA3)
    clear hO3 hB3 hA3
    go_wp2_with (refine wpList_out rfl _ _ rfl W.heap.size v3 _ [41] _ rfl rfl HO3.out rfl (by simp only [List.length_append, List.length_cons, List.length_nil]; omega) (HW.out.trans HB3.out).size ?_; intro v4 w4 hO4 hB4 hA4; have HO4 := Lib.hid hO4; have HB4 := Lib.hid (HB3.out.trans hB4); have HA4 := Lib.hid (HA3.out.trans hA4); clear hO4 hB4 hA4)
    go_ret
    refine ⟨_, rfl, ?_, HB4.out, HA4.out⟩
    have := HO4.out
    simp only [List.append_assoc, List.cons_append, List.nil_append] at this
    exact this
end Go.Proofs.YtpchahlnnbgpkaaDoor
