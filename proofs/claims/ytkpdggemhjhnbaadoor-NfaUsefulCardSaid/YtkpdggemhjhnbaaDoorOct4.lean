import Derived.Test.YtkpdggemhjhnbaaDoorOct3
import Derived.Test.YtkpdggemhjhnbaaDoorLst
import Derived.Maps.AppendAt
namespace Go.Proofs.YtkpdggemhjhnbaaDoor
open Go.RowKit Sets
theorem infoB : (Tryd.prog.info? 5).map (fun i => (i.zero, i.size, i.bytes)) = some (some (.int .u8 0), 1, 1) := by kernel_rfl
def u8s (l : List Nat) : List Value := l.map fun (c : Nat) => Value.int .u8 c
theorem idxk (S k : Nat) (hk : k < 4) (w : World) : (Instr.index 39 (.agg #[.int .u64 (wd S 0), .int .u64 (wd S 1), .int .u64 (wd S 2), .int .u64 (wd S 3)]) (.int .i64 k)).run Tryd.prog w = .ok (.int .u64 (wd S k)) w := by
  have : k = 0 ∨ k = 1 ∨ k = 2 ∨ k = 3 := by omega
  rcases this with rfl | rfl | rfl | rfl
  · exact idx0 _ _ _ _ w
  · exact idx1 _ _ _ _ w
  · exact idx2 _ _ _ _ w
  · exact idx3 _ _ _ _ w
theorem clear_word (r : Nat) (h0 : r ≠ 0) (h : r < 18446744073709551616) : bits .and .u64 (r : Int) (IntKind.u64.wrap ((r : Int) - 1)) = ((r &&& (r - 1) : Nat) : Int) := by
  have e : IntKind.u64.wrap ((r : Int) - 1) = ((r - 1 : Nat) : Int) := by rw [IntKind.wrap_u64]; omega
  rw [e, bits_and_u64_nat _ _ h (by omega)]
set_option maxHeartbeats 800000 in
set_option maxRecDepth 100000 in
theorem list_any (S : Nat) (w : World) (hT : Tab w) (hg : 0 < w.heap.size) :
    Calls Tryd.prog 27 #[.agg #[.int .u64 (wd S 0), .int .u64 (wd S 1), .int .u64 (wd S 2), .int .u64 (wd S 3)]] w fun e w' =>
      ∃ v, e = .returned v ∧ w'.ownsRow w.heap.size 5 1 v (listN S).length (u8s (listN S)) ∧ Below w.heap.size w w' := by
  obtain ⟨i0, hi, hz0, hz1, hz2⟩ := info_parts infoB
  have hlc := cnt_le S
  go_enter Tryd.func27, Tryd.ntmps27
  go_wp2_with fail
  refine (count_any _ _).mono ?_
  rintro e w1 ⟨rfl, hb1⟩
  have hb0 : Below w.heap.size w w1 := ((Below.refl _ _).alloc (Nat.le_refl _) _).trans (hb1.mono (by simp))
  have hB1 : w.heap.size + 1 ≤ w1.heap.size := by have := hb1.size; simp at this; omega
  have c0 : w1.cell? ⟨w.heap.size, 0, none⟩ = some (.int .u64 (wd S 0)) := (hb1.cell (by simp)).trans (by simp)
  have c1 : w1.cell? ⟨w.heap.size, 1, none⟩ = some (.int .u64 (wd S 1)) := (hb1.cell (by simp)).trans (by simp)
  have c2 : w1.cell? ⟨w.heap.size, 2, none⟩ = some (.int .u64 (wd S 2)) := (hb1.cell (by simp)).trans (by simp)
  have c3 : w1.cell? ⟨w.heap.size, 3, none⟩ = some (.int .u64 (wd S 3)) := (hb1.cell (by simp)).trans (by simp)
  obtain ⟨w2, hmk, hown, hgr⟩ := run_make_own (P := Tryd.prog) w1 w.heap.size 49 5 i0 (.int .u8 0) 1 Tryd.underlying49 hi hz0 hz1 .i64 .i64 (cnt S) (by rw [hz2]; omega) (by unfold maxLen; omega) (by omega)
  have d0 := hgr.cell c0 (by simp)
  have d1 := hgr.cell c1 (by simp)
  have d2 := hgr.cell c2 (by simp)
  have d3 := hgr.cell c3 (by simp)
  have hb2 : Below w.heap.size w w2 := hb0.grown hgr (by omega) (by simp)
  clear hb1 hb0 hgr
  go_wp2
  obtain ⟨B, hB⟩ : ∃ B, B = w.heap.size := ⟨_, rfl⟩
  have hgB : 0 < B := by omega
  have hBs : B ≤ w2.heap.size := by have := hb2.size; omega
  rw [← hB] at hown hb2 ⊢
  clear d0 d1 d2 d3 c0 c1 c2 c3 hmk hB1 hg
  have HB := Lib.hid hB
  clear hB
  go_loopw [3, 10] (fun v i wr => ∃ k : Nat, k ≤ 4 ∧ i = .int .i64 k ∧ wr.ownsRow B 5 1 v (upTo S k).length (u8s (upTo S k)) ∧ Below B w wr ∧ B ≤ wr.heap.size) (fun _ i _ => (4 - intOf i).toNat)
  case atStart => exact ⟨0, by omega, rfl, by rw [upTo_zero]; exact hown, hb2, hBs⟩
  case round =>
    obtain ⟨k, hk, rfl, hown, hb, hBr⟩ := hrel
    by_cases hlt : k < 4
    · have hix := idxk S k hlt
      have hdk : decide ((k : Int) < 4) = true := by simp; omega
      go_wp2
      have hlo := upTo_length S (k + 1)
      have HS := Lib.hid (upTo_succ S k)
      go_loopw [3, 5] (fun v x wr => ∃ (r : Nat) (D : List Nat), x = .int .u64 r ∧ r < 18446744073709551616 ∧ Hid (D ++ bitsOf k r = upTo S (k + 1)) ∧ wr.ownsRow B 5 1 v D.length (u8s D) ∧ Below B w wr ∧ B ≤ wr.heap.size) (fun _ x _ => (intOf x).toNat)
      case atStart => exact ⟨_, _, rfl, wd_lt _ _, Lib.hid HS.out.symm, hown, hb, hBr⟩
      case round =>
        obtain ⟨r, D, rfl, hr, HD, hown, hb, hBr⟩ := hrel
        have hDl : D.length ≤ 64 * (k + 1) := by rw [← HD.out, List.length_append] at hlo; omega
        by_cases hz : r = 0
        · have hzb := eq_zero_b hz
          have HZ := Lib.hid hz
          clear hz
          go_wp2
          go_roundw
          case rel =>
            have e := HD.out
            rw [HZ.out, bitsOf_zero, List.append_nil] at e
            exact ⟨k + 1, by omega, by go_num, by rw [← e]; exact hown, hb, hBr⟩
          case measure => simp [intOf]; omega
        · have hzb := ne_zero_b hz
          have HZ := Lib.hid hz
          clear hz
          have HT := Lib.hid (hT.below hb hgB)
          go_wp2_with (first
            | (go_at_call 57; refine (lowest_any _ _ _ hlt hr HZ.out HT.out).mono ?_; rintro e w' ⟨rfl, rfl⟩)
            | (at_builtin; refine wpList_append_own _ rfl _ _ 49 rfl B 5 i0 (.int .u8 0) 1 1 Tryd.underlying49 hi hz0 hz1 hz2 rfl (by decide) _ _ _ rfl (hown.alloc _) ⟨wr.heap.size, 0, none⟩ 1 1 [.int .u8 (64 * (k : Int) + (Lib.ctz 64 r : Int))] rfl rfl ?c1 ?c2 ?c3 ?c4 ?c5 ?_))
          case c1 => exact cell_one_new _ _ _
          case c2 => intro u hu; simp at hu; subst hu; rfl
          case c3 => unfold maxLen; omega
          case c4 => omega
          case c5 => simp; omega
          intro v' w3 hown3 hgr3 _
          have hb3 : Below B w w3 := (hb.alloc hBr _).grown hgr3 (by simp; omega) (fun j hj => (hown.lt j hj).1)
          have hB3 : B ≤ w3.heap.size := by have := hgr3.size; simp at this; omega
          clear hgr3 hown
          go_wp2
          go_roundw
          case rel =>
            refine ⟨_, D ++ [64 * k + Lib.ctz 64 r], by rw [clear_word r HZ.out hr], Nat.lt_trans (clear_lt r HZ.out) hr, ?_, ?_, hb3, hB3⟩
            · have e := HD.out
              rw [bitsOf_step k r HZ.out hr] at e
              exact Lib.hid (by rw [List.append_assoc]; exact e)
            · have e : u8s (D ++ [64 * k + Lib.ctz 64 r]) = u8s D ++ [.int .u8 (64 * (k : Int) + (Lib.ctz 64 r : Int))] := by
                unfold u8s; rw [List.map_append]; simp
              rw [e, List.length_append]
              exact hown3
          case measure =>
            have := clear_lt r HZ.out
            rw [clear_word r HZ.out hr]
            simp only [intOf]; omega
    · have : k = 4 := by omega
      subst this
      go_wp2
      go_ret
      obtain rfl := HB.out
      rw [upTo_four] at hown
      exact ⟨_, rfl, hown, hb⟩
theorem eqSet (a b c d a' b' c' d' : Int) (w : World) : (Op.equalIn 10000 39 (.agg #[.int .u64 a, .int .u64 b, .int .u64 c, .int .u64 d]) (.agg #[.int .u64 a', .int .u64 b', .int .u64 c', .int .u64 d'])).run Tryd.prog w = .ok (a == a' && b == b' && c == c' && d == d') w := by
  have u3 := Tryd.underlying37
  have a3 := Tryd.isAgg37
  have z3 := Tryd.sizeOf37
  rw [show (10000 : Nat) = 9999 + 1 from rfl, Op.equalIn]
  simp only [Sem.run_bind, run_underlying Tryd.underlying39, Result.andThen_ok]
  simp only [Std.Legacy.Range.forIn_eq_forIn_range', Std.Legacy.Range.size, Nat.sub_zero, Nat.add_sub_cancel, Nat.div_one, List.range'_succ, List.range'_zero, List.forIn_cons, List.forIn_nil]
  go_simp
  by_cases h1 : a = a' <;> by_cases h2 : b = b' <;> by_cases h3 : c = c' <;> by_cases h4 : d = d' <;> simp [h1, h2, h3, h4]

theorem owns_bytes {w : World} {B : Nat} {v : Value} {l : List Nat} (h : w.ownsRow B 5 1 v l.length (u8s l)) (hl : ∀ x ∈ l, x < 256) (hm : l.length ≤ maxLen) : BytesAt w v l := by
  refine ⟨hl, hm, ?_⟩
  rcases h.2 with ⟨rfl, h0⟩ | ⟨g, cap, cur, rfl, hb, hg, hn, hc, hs, htake⟩
  · have h0' : l.length = 0 := h0
    refine ⟨none, 0, by rw [h0'], fun i hi => by omega⟩
  · refine ⟨some ⟨g, 0, none⟩, cap, rfl, fun i hi => ⟨g, 0, rfl, ?_⟩⟩
    have := h.cells (g := g) rfl i (.int .u8 (l.getD i 0)) (by unfold u8s; rw [List.getElem?_map, List.getElem?_eq_getElem hi, List.getD_eq_getElem?_getD, List.getElem?_eq_getElem hi]; rfl)
    have e : (⟨g, 0, none⟩ : Addr).add i = ⟨g, 0 + i, none⟩ := by unfold Addr.add; split <;> simp_all
    rw [e] at this
    exact this
theorem BytesAt.kept {w w' : World} {v : Value} {l : List Nat} (h : BytesAt w v l) (hb : Below w.heap.size w w') : BytesAt w' v l := by
  obtain ⟨h1, h2, a, cap, h3, h4⟩ := h
  refine ⟨h1, h2, a, cap, h3, fun i hi => ?_⟩
  obtain ⟨b, o, e, hc⟩ := h4 i hi
  exact ⟨b, o, e, (hb.cell (World.block_lt_of_cell? _ _ hc)).trans hc⟩
theorem listN_lt (S : Nat) : ∀ x ∈ listN S, x < 256 := fun x hx => ((mem_listN S x).1 hx).1
theorem listN_len (S : Nat) : (listN S).length ≤ 256 := by rw [listN_length]; exact cnt_le S
/-- List, its answer read as bytes. -/
theorem list_bytes (S : Nat) (w : World) (hT : Tab w) (hg : 0 < w.heap.size) :
    Calls Tryd.prog 27 #[.agg #[.int .u64 (wd S 0), .int .u64 (wd S 1), .int .u64 (wd S 2), .int .u64 (wd S 3)]] w fun e w' =>
      ∃ v, e = .returned v ∧ BytesAt w' v (listN S) ∧ Below w.heap.size w w' :=
  (list_any S w hT hg).mono fun _ _ ⟨v, he, ho, hb⟩ => ⟨v, he, owns_bytes ho (listN_lt S) (by have := listN_len S; unfold maxLen; omega), hb⟩
end Go.Proofs.YtkpdggemhjhnbaaDoor
