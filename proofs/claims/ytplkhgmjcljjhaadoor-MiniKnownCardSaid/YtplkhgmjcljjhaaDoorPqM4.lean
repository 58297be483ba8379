/- stepsInto, walked. -/
import Derived.Test.YtplkhgmjcljjhaaDoorPqM3
namespace Go.Proofs.YtplkhgmjcljjhaaDoor
open Go.RowKit Sets Nf
namespace Mi
/-- The next state, by class. -/
def goR (R : List (List Int)) (s c : Nat) : Nat := ((R.getD s []).getD c 0).toNat
structure RRt (R : List (List Int)) (nc : Nat) : Prop where
  pos : 0 < R.length
  row : ∀ l ∈ R, l.length = nc ∧ ∀ k ∈ l, 0 ≤ k ∧ k < (R.length : Int)
theorem RRt.go {R : List (List Int)} {nc : Nat} (h : RRt R nc) {s c : Nat} (hs : s < R.length) (hc : c < nc) : (R.getD s []).length = nc ∧ (R.getD s []).getD c 0 = ((goR R s c : Nat) : Int) ∧ goR R s c < R.length := by
  have h1 := h.row _ (getD_mem (d := []) hs)
  have h2 := h1.2 _ (getD_mem (d := 0) (show c < (R.getD s []).length by rw [h1.1]; exact hc))
  unfold goR
  exact ⟨h1.1, by omega, by omega⟩
theorem buildSt (f c : Int) (w : World) : (Instr.build 145 #[(0, .int .i32 f), (1, .int .u8 c)]).run Tryd.prog w = .ok (.agg #[.int .i32 f, .int .u8 c]) w := by kernel_rfl
/-- The counts: a row of numbers, none above b. -/
def CntI (W : World) (q n b : Nat) : Prop := ∃ M : Nat → Nat, W.rowIs q 3 n (fun i => .int .i64 (M i : Nat)) ∧ ∀ i, i < n → M i ≤ b
set_option maxHeartbeats 6400000 in
set_option maxRecDepth 100000 in
theorem into_any (a : Option Addr) (cap nc : Nat) (R : List (List Int)) (w : World) (h : ListsIn w a R) (hr : RRt R nc) (hn : R.length ≤ 90000) (hnc : nc ≤ 256) (hmn : R.length * nc ≤ 100000) :
    Calls Tryd.prog 73 #[.slice a R.length cap] w fun e w' => ∃ ib ia ic, e = .returned (.slice (some ⟨ib, 0, none⟩) R.length R.length) ∧ w'.rowIs ib 143 R.length (fun s => .slice (ia s) (gT (goR R) (eL nc R.length 0) s).length (ic s)) ∧ IntoS w' ib ia ic R.length (gT (goR R) (eL nc R.length 0)) ∧ w.heap.size ≤ ib ∧ Below w.heap.size w w' := by
  have HL := Lib.hid h
  have HR := Lib.hid hr
  have HN := Lib.hid (And.intro hn hnc)
  have HMN := Lib.hid hmn
  obtain ⟨n, hnn⟩ : ∃ n, Hid (R.length = n) := ⟨_, Lib.hid rfl⟩
  clear h hr hn hnc hmn
  go_enter Tryd.func73, Tryd.ntmps73
  obtain ⟨i0, hi0, hz0⟩ := Option.map_eq_some_iff.1 infoInt
  simp only [Prod.mk.injEq] at hz0
  have HI0 := Lib.hid hi0
  have HZ0 := Lib.hid hz0
  clear hi0 hz0
  rw [hnn.out]
  go_upto_region 2 with (refine wpList_make_row _ rfl (.tmp 16) (.tmp 16) 31 rfl 3 i0 (.int .i64 0) Tryd.underlying31 HI0.out HZ0.out.1 HZ0.out.2.1 rfl .i64 .i64 n rfl rfl (by rw [HZ0.out.2.2]; have := HN.out; have := hnn.out; omega) (by have := HN.out; have := hnn.out; omega) ?_)
  clear HI0 HZ0
  obtain ⟨s0, hs0⟩ : ∃ s0, Hid (w.heap.size = s0) := ⟨_, Lib.hid rfl⟩
  have HC1 : Hid (CntI (w.alloc (.cells (madeCells #[.int .i64 0] n) 3)) s0 n 0) := Lib.hid ⟨fun _ => 0, by rw [← hs0.out]; exact World.rowIs_made w _ _ _, fun _ _ => Nat.le_refl _⟩
  have HB1 : Hid (Below s0 w (w.alloc (.cells (madeCells #[.int .i64 0] n) 3))) := Lib.hid ((Below.refl _ _).alloc (by rw [hs0.out]; exact Nat.le_refl _) _)
  rw [hs0.out]
  generalize w.alloc (.cells (madeCells #[.int .i64 0] n) 3) = w1 at *
  go_wp2_with fail
  go_loopw [20] (fun v wr => ∃ j : Nat, v = .int .i64 j ∧ j ≤ n ∧ Hid (CntI wr s0 n (j * nc)) ∧ Hid (Below s0 w wr)) (fun v _ => ((n : Int) - intOf v).toNat)
  case atStart => exact ⟨0, rfl, Nat.zero_le _, by rw [Nat.zero_mul]; exact HC1, HB1⟩
  case round =>
    clear HC1 HB1
    obtain ⟨j, rfl, hj, HC2, HB2⟩ := hrel
    generalize hwr : wr = w2 at *
    clear hwr wr w1
    by_cases hlt : j < n
    · have hdd : decide ((j : Int) < (n : Int)) = true := decide_eq_true (by omega)
      have hd2 : decide (j < n) = true := decide_eq_true hlt
      have HJ := Lib.hid hlt
      have hlR : j < R.length := by rw [hnn.out]; exact hlt
      obtain ⟨b, o, y, c, rfl, hc0, hnu⟩ := HL.out j hlR
      have hc := (HB2.out.cell (by rw [← hs0.out]; exact World.block_lt_of_cell? _ _ hc0)).trans hc0
      have HLen := Lib.hid (HR.out.row _ (getD_mem (d := []) hlR)).1
      have HGO := Lib.hid (fun k (hk : k < nc) => HR.out.go hlR hk)
      have HNU := Lib.hid hnu
      have hji : (j : Int) < (n : Int) := by omega
      have HW1 : Hid (wrap64 ((j : Int) + 1) = ((j + 1 : Nat) : Int)) := Lib.hid (wrap_big (by have := HN.out; have := hnn.out; omega))
      clear hlt hlR hc0 hnu
      generalize R.getD j [] = l at *
      have HLN := HLen.out
      rw [HLN] at hc
      clear HLN
      go_wp2_with fail
      clear hc hdd hd2
      go_loopw [26] (fun v wr => ∃ k : Nat, v = .int .i64 k ∧ k ≤ nc ∧ Hid (CntI wr s0 n (j * nc + k)) ∧ Hid (Below s0 w wr)) (fun v _ => ((nc : Int) - intOf v).toNat)
      case atStart => exact ⟨0, rfl, Nat.zero_le _, HC2, HB2⟩
      case round =>
        clear HC2 HB2
        obtain ⟨k, rfl, hk, HC3, HB3⟩ := hrel
        generalize hwr : wr = w3 at *
        clear hwr wr w2
        by_cases hlt : k < nc
        · have hdd : decide ((k : Int) < (nc : Int)) = true := decide_eq_true (by omega)
          have hd2 : decide (k < nc) = true := decide_eq_true hlt
          have HK := Lib.hid hlt
          have hki : (k : Int) < (nc : Int) := by omega
          have HW2 : Hid (wrap64 ((k : Int) + 1) = ((k + 1 : Nat) : Int)) := Lib.hid (wrap_big (by have := HN.out; omega))
          obtain ⟨b2, o2, rfl, hc0⟩ := HNU.out k (by rw [HLen.out]; exact hlt)
          have hc := (HB3.out.cell (by rw [← hs0.out]; exact World.block_lt_of_cell? _ _ hc0)).trans hc0
          rw [(HGO.out k hlt).2.1] at hc
          have HT := Lib.hid (HGO.out k hlt).2.2
          rw [hnn.out] at HT
          generalize goR R j k = tt at *
          obtain ⟨M, hM, hMb⟩ := HC3.out
          have hm := World.rowIs.cell hM HT.out
          have hmf := World.rowIs.frozen hM tt
          have hti : (tt : Int) < (n : Int) := by have := HT.out; omega
          have hjn : j * nc + k ≤ 90000 * 256 := by
            have h1 : (j + 1) * nc ≤ 90000 * 256 := Nat.mul_le_mul (by have := HJ.out; have := HN.out; have := hnn.out; omega) HN.out.2
            rw [Nat.succ_mul] at h1
            omega
          have hw3 : wrap64 (((M tt : Nat) : Int) + 1) = ((M tt + 1 : Nat) : Int) := wrap_big (by have := hMb tt HT.out; omega)
          have HMS : Hid (CntI (w3.setCell ⟨s0, tt, none⟩ (.int .i64 (M tt + 1 : Nat))) s0 n (j * nc + (k + 1))) := Lib.hid ⟨fun i => if i = tt then M tt + 1 else M i, World.rowIs.congr (World.rowIs.set hM tt (.int .i64 (M tt + 1 : Nat))) (fun i _ => by by_cases e : i = tt <;> simp [e]), fun i hi => by
            have h1 := hMb i hi
            have h2 := hMb tt HT.out
            show (if i = tt then M tt + 1 else M i) ≤ _
            split <;> omega⟩
          have HBS : Hid (Below s0 w (w3.setCell ⟨s0, tt, none⟩ (.int .i64 (M tt + 1 : Nat)))) := Lib.hid (HB3.out.setCell (Nat.le_refl s0) _)
          clear hlt hc0 hM hMb hjn HC3 HB3
          generalize M tt = mt at *
          go_wp2_with fail
          go_roundw
          case rel => exact ⟨k + 1, by rw [HW2.out], HK.out, HMS, HBS⟩
          case measure => rw [HW2.out]; exact meas8 HK.out
        · have hdd : decide ((k : Int) < (nc : Int)) = false := decide_eq_false (by omega)
          have hd2 : decide (k < nc) = false := decide_eq_false hlt
          obtain rfl : k = nc := by omega
          clear hlt hk
          go_wp2_with fail
          go_roundw
          case rel => exact ⟨j + 1, by rw [HW1.out], HJ.out, by rw [Nat.succ_mul]; exact HC3, HB3⟩
          case measure => rw [HW1.out]; exact meas8 HJ.out
    · have hdd : decide ((j : Int) < (n : Int)) = false := decide_eq_false (by omega)
      have hd2 : decide (j < n) = false := decide_eq_false hlt
      obtain rfl : j = n := by omega
      clear hlt hj
      obtain ⟨i0, hi0, hz0⟩ := Option.map_eq_some_iff.1 infoSts
      simp only [Prod.mk.injEq] at hz0
      have HI0 := Lib.hid hi0
      have HZ0 := Lib.hid hz0
      clear hi0 hz0
      have HNj : Hid (j ≤ 90000) := Lib.hid (by have := HN.out; have := hnn.out; omega)
      have HJC : Hid (j * nc ≤ 90000 * 256) := Lib.hid (Nat.mul_le_mul HNj.out HN.out.2)
      go_upto_region 12 with (refine wpList_make_row _ rfl (.tmp 39) (.tmp 39) 103 rfl 143 i0 (.slice none 0 0) Tryd.underlying103 HI0.out HZ0.out.1 HZ0.out.2.1 rfl .i64 .i64 j rfl rfl (by rw [HZ0.out.2.2]; have := HNj.out; omega) (by have := HNj.out; omega) ?_)
      clear HI0 HZ0 hdd hd2
      have hal := (Below.refl w2.heap.size w2).alloc (Nat.le_refl _) (.cells (madeCells #[.slice none 0 0] j) 143)
      have HT1 := Lib.hid (TsI.new w2 j)
      have HM1 : Hid (∃ M : Nat → Nat, (w2.alloc (.cells (madeCells #[.slice none 0 0] j) 143)).rowIs s0 3 j (fun i => .int .i64 (M i : Nat)) ∧ (∀ i, i < j → M i ≤ j * nc) ∧ s0 < w2.heap.size) := Lib.hid (by
        obtain ⟨M, h1, h2⟩ := HC2.out
        exact ⟨M, World.rowIs.of_block h1 (hal.block _ (World.rowIs.lt h1)), h2, World.rowIs.lt h1⟩)
      clear hal HC2
      generalize w2.alloc (.cells (madeCells #[.slice none 0 0] j) 143) = w3 at *
      obtain ⟨A, hA⟩ : ∃ A, Hid (w2.heap.size = A) := ⟨_, Lib.hid rfl⟩
      rw [hA.out] at HT1 HM1 ⊢
      obtain ⟨M, hMr, hMb, hsA⟩ := HM1.out
      have HMB := Lib.hid (And.intro hMb hsA)
      have HMR := Lib.hid hMr
      clear hMr hMb hsA HM1
      go_wp2_with fail
      go_loopw [43] (fun v wr => ∃ (k : Nat) (vs : Nat → Value), v = .int .i64 k ∧ k ≤ j ∧ Hid (TsI w2 A j vs (fun _ => []) wr) ∧ Hid (wr.rowIs s0 3 j (fun i => .int .i64 (M i : Nat)))) (fun v _ => ((j : Int) - intOf v).toNat)
      case atStart => exact ⟨0, _, rfl, Nat.zero_le _, HT1, HMR⟩
      case round =>
        clear HT1 HMR
        obtain ⟨k, vs, rfl, hk, HT2, HM2⟩ := hrel
        generalize hwr : wr = w4 at *
        clear hwr wr w3
        by_cases hlt : k < j
        · have hdd : decide ((k : Int) < (j : Int)) = true := decide_eq_true (by omega)
          have hd2 : decide (k < j) = true := decide_eq_true hlt
          have HK := Lib.hid hlt
          have hki : (k : Int) < (j : Int) := by omega
          have HW1 : Hid (wrap64 ((k : Int) + 1) = ((k + 1 : Nat) : Int)) := Lib.hid (wrap_big (by have := HNj.out; omega))
          have hm := World.rowIs.cell HM2.out hlt
          have HMK : Hid (M k ≤ 90000 * 256) := Lib.hid (Nat.le_trans (HMB.out.1 k hlt) HJC.out)
          have HOL := Lib.hid (HT2.out.own k hlt)
          have HAL : Hid (A < w4.heap.size ∧ w2.heap.size ≤ w4.heap.size) := Lib.hid ⟨World.rowIs.lt HT2.out.row, HT2.out.below.size⟩
          clear hlt
          obtain ⟨i1, hi1, hz1⟩ := Option.map_eq_some_iff.1 infoStep
          simp only [Prod.mk.injEq] at hz1
          have HI1 := Lib.hid hi1
          have HZ1 := Lib.hid hz1
          clear hi1 hz1
          go_upto_region 15 with fail
          generalize M k = mk at *
          have hAi := World.rowIs.cell HT2.out.row HK.out
          have hAf := World.rowIs.frozen HT2.out.row k
          go_wp2_with (refine wpList_make_own w4 rfl (.const (.int .i64 0)) (.tmp 50) 143 rfl w2.heap.size 145 i1 _ 2 Tryd.underlying143 HI1.out HZ1.out.1 HZ1.out.2.1 .i64 .i64 (mk : Int) mk rfl rfl rfl (by rw [HZ1.out.2.2]; have := HMK.out; omega) (by have := HMK.out; unfold maxLen; omega) HAL.out.2 ?_; intro w5 ho hg; have HO5 := Lib.hid ho; have HG5 := Lib.hid hg; have hcA := (World.cell?_of_block (w := w4) (hg.block A HAL.out.1 (by simp))).trans hAi; have hfA := (World.frozen?_of_block (w := w4) (a := ⟨A, k, none⟩) (hg.block A HAL.out.1 (by simp))).trans hAf; clear ho hg hAi hAf)
          have HAP : Hid (Ap w4 (vs k) w5 (.slice (some ⟨w4.heap.size, 0, none⟩) 0 mk)) := Lib.hid ⟨HG5.out.size, fun q hq _ => HG5.out.block q hq (by simp), fun q hq => .inr (by simp [Value.ownBlock] at hq; omega)⟩
          have HBE : Hid (Below w2.heap.size w4 w5) := Lib.hid ⟨HG5.out.os, HG5.out.tape, HG5.out.output, HG5.out.size, fun q hq => HG5.out.block q (Nat.lt_of_lt_of_le hq HAL.out.2) (by simp)⟩
          have HPU := Lib.hid (HT2.out.put (ls' := fun _ => []) HK.out HO5.out HBE.out HAP.out (fun _ _ _ => rfl))
          have HM5 : Hid ((w5.setCell ⟨A, k, none⟩ (.slice (some ⟨w4.heap.size, 0, none⟩) 0 mk)).rowIs s0 3 j (fun i => .int .i64 (M i : Nat))) := Lib.hid (World.rowIs.of_block HM2.out ((hset w5 A k _ s0 (by have := HMB.out.2; omega)).trans (HG5.out.block s0 (World.rowIs.lt HM2.out) (by simp))))
          go_roundw
          case rel => exact ⟨k + 1, _, by rw [HW1.out], HK.out, HPU, HM5⟩
          case measure => rw [HW1.out]; exact meas8 HK.out
        · have hdd : decide ((k : Int) < (j : Int)) = false := decide_eq_false (by omega)
          have hd2 : decide (k < j) = false := decide_eq_false hlt
          obtain rfl : k = j := by omega
          clear hlt hk HM2
          go_wp2_with fail
          clear hdd hd2
          go_loopw [56] (fun v wr => ∃ (i : Nat) (vs : Nat → Value), v = .int .i64 i ∧ i ≤ k ∧ Hid (TsI w2 A k vs (gT (goR R) (eL nc i 0)) wr)) (fun v _ => ((k : Int) - intOf v).toNat)
          case atStart => exact ⟨0, vs, rfl, Nat.zero_le _, HT2⟩
          case round =>
            clear HT2 vs
            obtain ⟨i, vs, rfl, hi, HT3⟩ := hrel
            generalize hwr : wr = w5 at *
            clear hwr wr w4
            by_cases hlt : i < k
            · have hdd : decide ((i : Int) < (k : Int)) = true := decide_eq_true (by omega)
              have hd2 : decide (i < k) = true := decide_eq_true hlt
              have HI := Lib.hid hlt
              have hlR : i < R.length := by rw [hnn.out]; exact hlt
              obtain ⟨b, o, y, c, rfl, hc0, hnu⟩ := HL.out i hlR
              have HBW : Hid (Below s0 w w5) := Lib.hid (HB2.out.trans (HT3.out.below.mono (by have := HMB.out.2; have := hA.out; omega)))
              have hc := (HBW.out.cell (by rw [← hs0.out]; exact World.block_lt_of_cell? _ _ hc0)).trans hc0
              have HLen := Lib.hid (HR.out.row _ (getD_mem (d := []) hlR)).1
              have HGO := Lib.hid (fun k (hk : k < nc) => HR.out.go hlR hk)
              have HNU := Lib.hid hnu
              have hii : (i : Int) < (k : Int) := by omega
              have HW1 : Hid (wrap64 ((i : Int) + 1) = ((i + 1 : Nat) : Int)) := Lib.hid (wrap_big (by have := HNj.out; omega))
              clear hlt hlR hc0 hnu
              generalize R.getD i [] = l at *
              have HLN := HLen.out
              rw [HLN] at hc
              clear HLN
              go_wp2_with fail
              clear hc hdd hd2
              go_loopw [63] (fun v wr => ∃ (q : Nat) (vs : Nat → Value), v = .int .i64 q ∧ q ≤ nc ∧ Hid (TsI w2 A k vs (gT (goR R) (eL nc i q)) wr)) (fun v _ => ((nc : Int) - intOf v).toNat)
              case atStart => exact ⟨0, vs, rfl, Nat.zero_le _, HT3⟩
              case round =>
                clear HT3 HBW vs
                obtain ⟨q, vs, rfl, hq, HT4⟩ := hrel
                generalize hwr : wr = w6 at *
                clear hwr wr w5
                by_cases hlt : q < nc
                · have hdd : decide ((q : Int) < (nc : Int)) = true := decide_eq_true (by omega)
                  have hd2 : decide (q < nc) = true := decide_eq_true hlt
                  have HQ := Lib.hid hlt
                  have hqi : (q : Int) < (nc : Int) := by omega
                  have HW2 : Hid (wrap64 ((q : Int) + 1) = ((q + 1 : Nat) : Int)) := Lib.hid (wrap_big (by have := HN.out; omega))
                  obtain ⟨b2, o2, rfl, hc0⟩ := HNU.out q (by rw [HLen.out]; exact hlt)
                  have HBW : Hid (Below s0 w w6) := Lib.hid (HB2.out.trans (HT4.out.below.mono (by have := HMB.out.2; have := hA.out; omega)))
                  have hc := (HBW.out.cell (by rw [← hs0.out]; exact World.block_lt_of_cell? _ _ hc0)).trans hc0
                  rw [(HGO.out q hlt).2.1] at hc
                  have HT := Lib.hid (HGO.out q hlt).2.2
                  rw [hnn.out] at HT
                  have HGS := Lib.hid (fun t => gT_snoc (goR R) (eL nc i q) (i, q) t)
                  have HEN := Lib.hid (eL_next nc i q)
                  have HGL : Hid ((gT (goR R) (eL nc i q) (goR R i q)).length ≤ 100000) := Lib.hid (by
                    have h1 : (gT (goR R) (eL nc i q) (goR R i q)).length ≤ (eL nc i q).length := List.length_filter_le _ _
                    rw [eL_len] at h1
                    have h2 : (i + 1) * nc ≤ k * nc := Nat.mul_le_mul_right nc HI.out
                    rw [Nat.succ_mul] at h2
                    have h3 := HMN.out
                    rw [hnn.out] at h3
                    omega)
                  simp only [] at HGS
                  have hcv1 : IntKind.i32.wrap (i : Int) = (i : Int) := by have := HI.out; have := HNj.out; unfold IntKind.wrap; simp [IntKind.signed, IntKind.bits]; omega
                  have hcv2 : IntKind.u8.wrap (q : Int) = (q : Int) := by have := HQ.out; have := HN.out; unfold IntKind.wrap; simp [IntKind.signed, IntKind.bits]; omega
                  generalize goR R i q = tt at *
                  have hAi := World.rowIs.cell HT4.out.row HT.out
                  have hti : (tt : Int) < (k : Int) := by have := HT.out; omega
                  have HOT := Lib.hid (HT4.out.own tt HT.out)
                  clear hlt hc0
                  have HAL : Hid (A < w6.heap.size ∧ w2.heap.size ≤ w6.heap.size) := Lib.hid ⟨World.rowIs.lt HT4.out.row, HT4.out.below.size⟩
                  have hbs := buildSt
                  have hAf := World.rowIs.frozen HT4.out.row tt
                  have HNA := Lib.hid (HT4.out.notA tt HT.out)
                  go_upto_region 23 with fail
                  go_wp2_with (refine wpList_push 143 145 (.agg #[.int .i32 0, .int .u8 0]) 2 8 Tryd.underlying143 infoStep rfl (by decide) rfl (.tmp 73) (.tmp 79) rfl w2.heap.size (vs tt) _ _ rfl HOT.out (sp2 (i, q)) _ rfl rfl (fun u hu => by simp [sp2] at hu; rcases hu with rfl | rfl <;> rfl) rfl HGL.out (by decide) HAL.out.2 ?_; intro v' w7 ho hb ha; obtain ⟨a9, c9, hsv, -⟩ := own_slice ho; subst hsv; have HO7 := Lib.hid ho; have HB7 := Lib.hid hb; have HA7 := Lib.hid ha; have hcA := (World.cell?_of_block (w := w6) (ha.block A HAL.out.1 HNA.out)).trans hAi; have hfA := (World.frozen?_of_block (w := w6) (a := ⟨A, tt, none⟩) (ha.block A HAL.out.1 HNA.out)).trans hAf; clear ho hb ha hAi hAf)
                  have HPU := Lib.hid (HT4.out.put (ls' := gT (goR R) (eL nc i (q + 1))) HT.out (by
                    rw [HEN.out, HGS.out, if_pos rfl]
                    show World.ownsRow _ _ _ 2 _ (List.length _) (stL _)
                    rw [List.length_append, stL_app]
                    have := HO7.out
                    rw [show sp2 (i, q) = stL [(i, q)] from by simp [stL]] at this
                    exact this) HB7.out HA7.out (fun t _ hne => by rw [HEN.out, HGS.out, if_neg hne]))
                  go_roundw
                  case rel => exact ⟨q + 1, _, by rw [HW2.out], HQ.out, HPU⟩
                  case measure => rw [HW2.out]; exact meas8 HQ.out
                · have hdd : decide ((q : Int) < (nc : Int)) = false := decide_eq_false (by omega)
                  have hd2 : decide (q < nc) = false := decide_eq_false hlt
                  obtain rfl : q = nc := by omega
                  clear hlt hq
                  go_wp2_with fail
                  go_roundw
                  case rel => exact ⟨i + 1, vs, by rw [HW1.out], HI.out, by rw [eL_row]; exact HT4⟩
                  case measure => rw [HW1.out]; exact meas8 HI.out
            · have hdd : decide ((i : Int) < (k : Int)) = false := decide_eq_false (by omega)
              have hd2 : decide (i < k) = false := decide_eq_false hlt
              obtain rfl : i = k := by omega
              clear hlt hi
              go_wp2_with fail
              go_ret
              refine ⟨A, _, _, rfl, World.rowIs.congr HT3.out.row (fun s hs => ?_), HT3.out.into, by rw [hs0.out]; exact Nat.le_of_lt HMB.out.2, by rw [hs0.out]; exact HB2.out.trans (HT3.out.below.mono (by have := HMB.out.2; have := hA.out; omega))⟩
              obtain ⟨a1, c1, e1, -⟩ := own_slice (HT3.out.own s hs)
              simp only [e1, slA, slC]
end Mi
end Go.Proofs.YtplkhgmjcljjhaaDoor
