/- Several texts in one. -/
import Derived.Test.YtghbgfkkdknmnaaDoorPqA0
import Derived.Deep.RegionWith
import Derived.Maps.AppendAt
import Derived.Deep.QuietTactic
import Derived.BigQuiet
namespace Go.Proofs.YtghbgfkkdknmnaaDoor
open Go.RowKit Sets
/-- The library's table, as its own text lays it. -/
def Tab (w : World) : Prop := TabAt 0 Lib.deBruijn64tab w
theorem tz_core (x k idx : Nat) (w : World) (hx0 : ((x : Int) == 0) = false)
    (key : IntKind.u64.wrap (bits BinOp.and IntKind.u64 (x : Int) (IntKind.u64.wrap (-(x : Int))) * 285870213051353865) / 288230376151711744 = (idx : Int))
    (hi : idx < 64) (hk : k < 64) (hcell : w.cell? ⟨0, idx, none⟩ = some (.int .u8 k)) :
    Calls Tryd.prog 65 #[.int .u64 x] w fun e w' => e = .returned (.int .i64 k) ∧ w = w' := by
  go_enter Tryd.func65, Tryd.ntmps65
  go_wp2_with (simp only [key])
  go_ret
  exact ⟨rfl, rfl⟩
theorem tz_any (x : Nat) (w : World) (hx : x < 18446744073709551616) (h0 : x ≠ 0) (hT : Tab w) :
    Calls Tryd.prog 65 #[.int .u64 x] w fun e w' => e = .returned (.int .i64 (Lib.ctz 64 x)) ∧ w = w' := by
  obtain ⟨hlow, hk⟩ := Lib.lowest_bit 64 x h0 hx
  obtain ⟨hi, htab⟩ := Lib.deBruijn64_at _ hk
  have hcell := hT _ hi
  rw [htab] at hcell
  exact tz_core x _ _ w (by simp; omega) (tz64_key x _ hx h0 hlow) hi hk hcell
theorem lowest_any (i x : Nat) (w : World) (hi : i < 4) (hx : x < 18446744073709551616) (h0 : x ≠ 0) (hT : Tab w) :
    Calls Tryd.prog 72 #[.int .i64 i, .int .u64 x] w fun e w' => e = .returned (.int .u8 (64 * i + Lib.ctz 64 x : Nat)) ∧ w = w' := by
  obtain ⟨-, hk⟩ := Lib.lowest_bit 64 x h0 hx
  go_enter Tryd.func72, Tryd.ntmps72
  go_wp2_with (go_at_call 65; refine (tz_any _ _ hx h0 hT).mono ?_; rintro e w' ⟨rfl, rfl⟩)
  go_ret
  exact ⟨ret_int (by omega), rfl⟩
theorem Tab.below {B : Nat} {w w' : World} (h : Tab w) (hb : Below B w w') (hB : 0 < B) : Tab w' := fun j hj => (hb.cell hB).trans (h j hj)
theorem idx0 (a b c d : Value) (w : World) : (Instr.index 41 (.agg #[a, b, c, d]) (.int .i64 0)).run Tryd.prog w = .ok a w := by kernel_rfl
theorem idx1 (a b c d : Value) (w : World) : (Instr.index 41 (.agg #[a, b, c, d]) (.int .i64 1)).run Tryd.prog w = .ok b w := by kernel_rfl
theorem idx2 (a b c d : Value) (w : World) : (Instr.index 41 (.agg #[a, b, c, d]) (.int .i64 2)).run Tryd.prog w = .ok c w := by kernel_rfl
theorem idx3 (a b c d : Value) (w : World) : (Instr.index 41 (.agg #[a, b, c, d]) (.int .i64 3)).run Tryd.prog w = .ok d w := by kernel_rfl
attribute [go_sem] idx0 idx1 idx2 idx3
theorem ne_zero_b {n : Nat} (h : n ≠ 0) : ((n : Int) != 0) = true := by rw [bne_iff_ne]; omega
theorem eq_zero_b {n : Nat} (h : n = 0) : ((n : Int) != 0) = false := by rw [h]; rfl
set_option maxHeartbeats 400000 in
theorem count_any (S : Nat) (w : World) :
    Calls Tryd.prog 71 #[.agg #[.int .u64 (wd S 0), .int .u64 (wd S 1), .int .u64 (wd S 2), .int .u64 (wd S 3)]] w fun e w' =>
      e = .returned (.int .i64 (cnt S)) ∧ Below w.heap.size w w' := by
  have l0 := pop_le (wd S 0)
  have l1 := pop_le (wd S 1)
  have l2 := pop_le (wd S 2)
  have l3 := pop_le (wd S 3)
  have HP := Lib.hid (cnt_pop S)
  go_enter Tryd.func71, Tryd.ntmps71
  go_wp2
  refine wp_loop_rounds 5 ?_
  repeat (rw [rounds_succ]; go_wp2_with (go_at_call 75; refine (ones_any _ _ (wd_lt _ _)).mono ?_; rintro e w' ⟨rfl, rfl⟩))
  go_ret
  exact ⟨ret_int (by rw [HP.out]; go_num), (Below.refl _ _).alloc (Nat.le_refl _) _⟩
end Go.Proofs.YtghbgfkkdknmnaaDoor
namespace Go.Proofs.YtghbgfkkdknmnaaDoor
open Go.RowKit Sets
theorem infoB : (Tryd.prog.info? 5).map (fun i => (i.zero, i.size, i.bytes)) = some (some (.int .u8 0), 1, 1) := by kernel_rfl
def u8s (l : List Nat) : List Value := l.map fun (c : Nat) => Value.int .u8 c
theorem idxk (S k : Nat) (hk : k < 4) (w : World) : (Instr.index 41 (.agg #[.int .u64 (wd S 0), .int .u64 (wd S 1), .int .u64 (wd S 2), .int .u64 (wd S 3)]) (.int .i64 k)).run Tryd.prog w = .ok (.int .u64 (wd S k)) w := by
  have : k = 0 ∨ k = 1 ∨ k = 2 ∨ k = 3 := by omega
  rcases this with rfl | rfl | rfl | rfl
  · exact idx0 _ _ _ _ w
  · exact idx1 _ _ _ _ w
  · exact idx2 _ _ _ _ w
  · exact idx3 _ _ _ _ w
theorem clear_word (r : Nat) (h0 : r ≠ 0) (h : r < 18446744073709551616) : bits .and .u64 (r : Int) (IntKind.u64.wrap ((r : Int) - 1)) = ((r &&& (r - 1) : Nat) : Int) := by
  have e : IntKind.u64.wrap ((r : Int) - 1) = ((r - 1 : Nat) : Int) := by rw [IntKind.wrap_u64]; omega
  rw [e, bits_and_u64_nat _ _ h (by omega)]
set_option maxHeartbeats 800000 in
set_option maxRecDepth 100000 in
theorem list_any (S : Nat) (w : World) (hT : Tab w) (hg : 0 < w.heap.size) :
    Calls Tryd.prog 67 #[.agg #[.int .u64 (wd S 0), .int .u64 (wd S 1), .int .u64 (wd S 2), .int .u64 (wd S 3)]] w fun e w' =>
      ∃ v, e = .returned v ∧ w'.ownsRow w.heap.size 5 1 v (listN S).length (u8s (listN S)) ∧ Below w.heap.size w w' := by
  obtain ⟨i0, hi, hz0, hz1, hz2⟩ := info_parts infoB
  have hlc := cnt_le S
  go_enter Tryd.func67, Tryd.ntmps67
  go_wp2_with fail
  refine (count_any _ _).mono ?_
  rintro e w1 ⟨rfl, hb1⟩
  have hb0 : Below w.heap.size w w1 := ((Below.refl _ _).alloc (Nat.le_refl _) _).trans (hb1.mono (by simp))
  have hB1 : w.heap.size + 1 ≤ w1.heap.size := by have := hb1.size; simp at this; omega
  have c0 : w1.cell? ⟨w.heap.size, 0, none⟩ = some (.int .u64 (wd S 0)) := (hb1.cell (by simp)).trans (by simp)
  have c1 : w1.cell? ⟨w.heap.size, 1, none⟩ = some (.int .u64 (wd S 1)) := (hb1.cell (by simp)).trans (by simp)
  have c2 : w1.cell? ⟨w.heap.size, 2, none⟩ = some (.int .u64 (wd S 2)) := (hb1.cell (by simp)).trans (by simp)
  have c3 : w1.cell? ⟨w.heap.size, 3, none⟩ = some (.int .u64 (wd S 3)) := (hb1.cell (by simp)).trans (by simp)
  obtain ⟨w2, hmk, hown, hgr⟩ := run_make_own (P := Tryd.prog) w1 w.heap.size 30 5 i0 (.int .u8 0) 1 Tryd.underlying30 hi hz0 hz1 .i64 .i64 (cnt S) (by rw [hz2]; omega) (by unfold maxLen; omega) (by omega)
  have d0 := hgr.cell c0 (by simp)
  have d1 := hgr.cell c1 (by simp)
  have d2 := hgr.cell c2 (by simp)
  have d3 := hgr.cell c3 (by simp)
  have hb2 : Below w.heap.size w w2 := hb0.grown hgr (by omega) (by simp)
  clear hb1 hb0 hgr
  go_wp2
  obtain ⟨B, hB⟩ : ∃ B, B = w.heap.size := ⟨_, rfl⟩
  have hgB : 0 < B := by omega
  have hBs : B ≤ w2.heap.size := by have := hb2.size; omega
  rw [← hB] at hown hb2 ⊢
  clear d0 d1 d2 d3 c0 c1 c2 c3 hmk hB1 hg
  have HB := Lib.hid hB
  clear hB
  go_loopw [3, 10] (fun v i wr => ∃ k : Nat, k ≤ 4 ∧ i = .int .i64 k ∧ wr.ownsRow B 5 1 v (upTo S k).length (u8s (upTo S k)) ∧ Below B w wr ∧ B ≤ wr.heap.size) (fun _ i _ => (4 - intOf i).toNat)
  case atStart => exact ⟨0, by omega, rfl, by rw [upTo_zero]; exact hown, hb2, hBs⟩
  case round =>
    obtain ⟨k, hk, rfl, hown, hb, hBr⟩ := hrel
    by_cases hlt : k < 4
    · have hix := idxk S k hlt
      have hdk : decide ((k : Int) < 4) = true := by simp; omega
      go_wp2
      have hlo := upTo_length S (k + 1)
      have HS := Lib.hid (upTo_succ S k)
      go_loopw [3, 5] (fun v x wr => ∃ (r : Nat) (D : List Nat), x = .int .u64 r ∧ r < 18446744073709551616 ∧ Hid (D ++ bitsOf k r = upTo S (k + 1)) ∧ wr.ownsRow B 5 1 v D.length (u8s D) ∧ Below B w wr ∧ B ≤ wr.heap.size) (fun _ x _ => (intOf x).toNat)
      case atStart => exact ⟨_, _, rfl, wd_lt _ _, Lib.hid HS.out.symm, hown, hb, hBr⟩
      case round =>
        obtain ⟨r, D, rfl, hr, HD, hown, hb, hBr⟩ := hrel
        have hDl : D.length ≤ 64 * (k + 1) := by rw [← HD.out, List.length_append] at hlo; omega
        by_cases hz : r = 0
        · have hzb := eq_zero_b hz
          have HZ := Lib.hid hz
          clear hz
          go_wp2
          go_roundw
          case rel =>
            have e := HD.out
            rw [HZ.out, bitsOf_zero, List.append_nil] at e
            exact ⟨k + 1, by omega, by go_num, by rw [← e]; exact hown, hb, hBr⟩
          case measure => simp [intOf]; omega
        · have hzb := ne_zero_b hz
          have HZ := Lib.hid hz
          clear hz
          have HT := Lib.hid (hT.below hb hgB)
          go_wp2_with (first
            | (go_at_call 72; refine (lowest_any _ _ _ hlt hr HZ.out HT.out).mono ?_; rintro e w' ⟨rfl, rfl⟩)
            | (at_builtin; refine wpList_append_own _ rfl _ _ 30 rfl B 5 i0 (.int .u8 0) 1 1 Tryd.underlying30 hi hz0 hz1 hz2 rfl (by decide) _ _ _ rfl (hown.alloc _) ⟨wr.heap.size, 0, none⟩ 1 1 [.int .u8 (64 * (k : Int) + (Lib.ctz 64 r : Int))] rfl rfl ?c1 ?c2 ?c3 ?c4 ?c5 ?_))
          case c1 => exact cell_one_new _ _ _
          case c2 => intro u hu; simp at hu; subst hu; rfl
          case c3 => unfold maxLen; omega
          case c4 => omega
          case c5 => simp; omega
          intro v' w3 hown3 hgr3 _
          have hb3 : Below B w w3 := (hb.alloc hBr _).grown hgr3 (by simp; omega) (fun j hj => (hown.lt j hj).1)
          have hB3 : B ≤ w3.heap.size := by have := hgr3.size; simp at this; omega
          clear hgr3 hown
          go_wp2
          go_roundw
          case rel =>
            refine ⟨_, D ++ [64 * k + Lib.ctz 64 r], by rw [clear_word r HZ.out hr], Nat.lt_trans (clear_lt r HZ.out) hr, ?_, ?_, hb3, hB3⟩
            · have e := HD.out
              rw [bitsOf_step k r HZ.out hr] at e
              exact Lib.hid (by rw [List.append_assoc]; exact e)
            · have e : u8s (D ++ [64 * k + Lib.ctz 64 r]) = u8s D ++ [.int .u8 (64 * (k : Int) + (Lib.ctz 64 r : Int))] := by
                unfold u8s; rw [List.map_append]; simp
              rw [e, List.length_append]
              exact hown3
          case measure =>
            have := clear_lt r HZ.out
            rw [clear_word r HZ.out hr]
            simp only [intOf]; omega
    · have : k = 4 := by omega
      subst this
      go_wp2
      go_ret
      obtain rfl := HB.out
      rw [upTo_four] at hown
      exact ⟨_, rfl, hown, hb⟩
theorem eqSet (a b c d a' b' c' d' : Int) (w : World) : (Op.equalIn 10000 41 (.agg #[.int .u64 a, .int .u64 b, .int .u64 c, .int .u64 d]) (.agg #[.int .u64 a', .int .u64 b', .int .u64 c', .int .u64 d'])).run Tryd.prog w = .ok (a == a' && b == b' && c == c' && d == d') w := by
  have u3 := Tryd.underlying39
  have a3 := Tryd.isAgg39
  have z3 := Tryd.sizeOf39
  rw [show (10000 : Nat) = 9999 + 1 from rfl, Op.equalIn]
  simp only [Sem.run_bind, run_underlying Tryd.underlying41, Result.andThen_ok]
  simp only [Std.Legacy.Range.forIn_eq_forIn_range', Std.Legacy.Range.size, Nat.sub_zero, Nat.add_sub_cancel, Nat.div_one, List.range'_succ, List.range'_zero, List.forIn_cons, List.forIn_nil]
  go_simp
  by_cases h1 : a = a' <;> by_cases h2 : b = b' <;> by_cases h3 : c = c' <;> by_cases h4 : d = d' <;> simp [h1, h2, h3, h4]

theorem owns_bytes {w : World} {B : Nat} {v : Value} {l : List Nat} (h : w.ownsRow B 5 1 v l.length (u8s l)) (hl : ∀ x ∈ l, x < 256) (hm : l.length ≤ maxLen) : BytesAt w v l := by
  refine ⟨hl, hm, ?_⟩
  rcases h.2 with ⟨rfl, h0⟩ | ⟨g, cap, cur, rfl, hb, hg, hn, hc, hs, htake⟩
  · have h0' : l.length = 0 := h0
    refine ⟨none, 0, by rw [h0'], fun i hi => by omega⟩
  · refine ⟨some ⟨g, 0, none⟩, cap, rfl, fun i hi => ⟨g, 0, rfl, ?_⟩⟩
    have := h.cells (g := g) rfl i (.int .u8 (l.getD i 0)) (by unfold u8s; rw [List.getElem?_map, List.getElem?_eq_getElem hi, List.getD_eq_getElem?_getD, List.getElem?_eq_getElem hi]; rfl)
    have e : (⟨g, 0, none⟩ : Addr).add i = ⟨g, 0 + i, none⟩ := by unfold Addr.add; split <;> simp_all
    rw [e] at this
    exact this
theorem BytesAt.kept {w w' : World} {v : Value} {l : List Nat} (h : BytesAt w v l) (hb : Below w.heap.size w w') : BytesAt w' v l := by
  obtain ⟨h1, h2, a, cap, h3, h4⟩ := h
  refine ⟨h1, h2, a, cap, h3, fun i hi => ?_⟩
  obtain ⟨b, o, e, hc⟩ := h4 i hi
  exact ⟨b, o, e, (hb.cell (World.block_lt_of_cell? _ _ hc)).trans hc⟩
theorem listN_lt (S : Nat) : ∀ x ∈ listN S, x < 256 := fun x hx => ((mem_listN S x).1 hx).1
theorem listN_len (S : Nat) : (listN S).length ≤ 256 := by rw [listN_length]; exact cnt_le S
/-- List, its answer read as bytes. -/
theorem list_bytes (S : Nat) (w : World) (hT : Tab w) (hg : 0 < w.heap.size) :
    Calls Tryd.prog 67 #[.agg #[.int .u64 (wd S 0), .int .u64 (wd S 1), .int .u64 (wd S 2), .int .u64 (wd S 3)]] w fun e w' =>
      ∃ v, e = .returned v ∧ BytesAt w' v (listN S) ∧ Below w.heap.size w w' :=
  (list_any S w hT hg).mono fun _ _ ⟨v, he, ho, hb⟩ => ⟨v, he, owns_bytes ho (listN_lt S) (by have := listN_len S; unfold maxLen; omega), hb⟩
end Go.Proofs.YtghbgfkkdknmnaaDoor
namespace Go.Proofs.YtghbgfkkdknmnaaDoor
open Go.RowKit Sets
theorem not_zero (w : World) :
    Calls Tryd.prog 69 #[.agg #[.int .u64 0, .int .u64 0, .int .u64 0, .int .u64 0]] w fun e w' =>
      e = .returned (.agg #[.int .u64 (wd full 0), .int .u64 (wd full 1), .int .u64 (wd full 2), .int .u64 (wd full 3)]) ∧ Below w.heap.size w w' := by
  have h := not_any 0 w
  simp only [wd_zero, Nat.xor_zero] at h
  exact h
set_option maxRecDepth 100000 in
set_option maxHeartbeats 400000 in
theorem of_any (v : Value) (l : List Nat) (w : World) (h : BytesAt w v l) :
    Calls Tryd.prog 36 #[v] w fun e w' =>
      e = .returned (.agg #[.int .u64 (wd (ofN l) 0), .int .u64 (wd (ofN l) 1), .int .u64 (wd (ofN l) 2), .int .u64 (wd (ofN l) 3)]) ∧ Below w.heap.size w w' := by
  obtain ⟨hl, hm, a, cap, rfl, hc⟩ := h
  unfold maxLen at hm
  go_enter Tryd.func36, Tryd.ntmps36
  go_wp2
  go_loopw [8] (fun i wr => ∃ k n : Nat, i = .int .i64 k ∧ k ≤ l.length ∧ wr = ((w.alloc (.cells #[.int .u64 0, .int .u64 0, .int .u64 0, .int .u64 0] 41)).alloc (.cells #[.int .u64 (wd (ofN (l.take k)) 0), .int .u64 (wd (ofN (l.take k)) 1), .int .u64 (wd (ofN (l.take k)) 2), .int .u64 (wd (ofN (l.take k)) 3)] 41)).drewN n) (fun i _ => (l.length - intOf i).toNat)
  case atStart => exact ⟨0, 0, rfl, Nat.zero_le _, by simp [ofN, wd, World.drewN_zero]⟩
  case round =>
    obtain ⟨k, n, rfl, hk, rfl⟩ := hrel
    by_cases hlt : k < l.length
    · obtain ⟨b, o, rfl, hcell⟩ := hc k hlt
      clear hc
      have hbk := World.block_lt_of_cell? _ _ hcell
      have hbk1 : b < w.heap.size + 1 := Nat.lt_succ_of_lt hbk
      have hx : l.getD k 0 < 256 := by
        rw [List.getD_eq_getElem?_getD, List.getElem?_eq_getElem hlt]; exact hl _ (List.getElem_mem hlt)
      have HT := Lib.hid (ofN_take l k hlt)
      generalize l.getD k 0 = c at *
      have hq : (c : Int) / 64 = 0 ∨ (c : Int) / 64 = 1 ∨ (c : Int) / 64 = 2 ∨ (c : Int) / 64 = 3 := by omega
      rcases hq with hq | hq | hq | hq
      all_goals
        have hq2 : (c : Int).tdiv 64 = (c : Int) / 64 := Int.tdiv_eq_ediv_of_nonneg (by omega)
        rw [hq] at hq2
        have hz0 : IntKind.u8.wrap 0 = 0 := by decide
        have hz1 : IntKind.u8.wrap 1 = 1 := by decide
        have hz2 : IntKind.u8.wrap 2 = 2 := by decide
        have hz3 : IntKind.u8.wrap 3 = 3 := by decide
        go_wp2
        refine region_tail 7 (by kernel_rfl) (by kernel_rfl) ?_
        simp only [List.take_succ_cons, List.take_zero, List.drop_succ_cons, List.drop_zero]
        repeat (first | still_step | still_call ((bit_any _ _ (by omega) (by omega)).mono fun _ _ h => ⟨h.1, h.2.symm⟩))
        refine wpStill_nil ?_
        go_wp2
        refine ⟨⟨k + 1, n + 1, by go_num, by omega, ?_⟩, by simp [intOf]; omega⟩
        rw [HT.out]
        first
          | rw [bor_bit _ _ 0 (by omega), wd_keep _ c 1 (by omega), wd_keep _ c 2 (by omega), wd_keep _ c 3 (by omega)]
          | rw [bor_bit _ _ 1 (by omega), wd_keep _ c 0 (by omega), wd_keep _ c 2 (by omega), wd_keep _ c 3 (by omega)]
          | rw [bor_bit _ _ 2 (by omega), wd_keep _ c 0 (by omega), wd_keep _ c 1 (by omega), wd_keep _ c 3 (by omega)]
          | rw [bor_bit _ _ 3 (by omega), wd_keep _ c 0 (by omega), wd_keep _ c 1 (by omega), wd_keep _ c 2 (by omega)]
    · have hkl : k = l.length := by omega
      subst hkl
      rw [List.take_length]
      go_wp2
      refine bodyPost_ret (v := .agg #[.int .u64 (wd (ofN l) 0), .int .u64 (wd (ofN l) 1), .int .u64 (wd (ofN l) 2), .int .u64 (wd (ofN l) 3)]) (by simp [results, Tryd.results36, go_sem]) rfl ⟨rfl, ?_⟩
      repeat (first | refine Below.drew ?_ | refine below_drewN ?_ _ | refine Below.alloc ?_ (by simp <;> omega) _)
      exact Below.refl _ _
end Go.Proofs.YtghbgfkkdknmnaaDoor
