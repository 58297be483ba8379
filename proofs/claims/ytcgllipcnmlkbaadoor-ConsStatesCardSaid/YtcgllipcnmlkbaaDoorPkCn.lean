/- Places as the document's Next has them; the document's Next. -/
import Derived.Test.YtcgllipcnmlkbaaDoorPkCc
import Derived.Test.YtcgllipcnmlkbaaDoorPkCm
namespace Go.Proofs.YtcgllipcnmlkbaaDoor
open Go.RowKit Sets Tr Rx Sp
open Cn
def pl5 (p : Nat × Nat) : List Value := st4 p.1 ++ [.int .u64 (p.2 : Int)]
def pls (L : List (Nat × Nat)) : List Value := L.flatMap pl5
theorem pls_append (l m : List (Nat × Nat)) : pls (l ++ m) = pls l ++ pls m := by unfold pls; simp
theorem pls_length (l : List (Nat × Nat)) : (pls l).length = l.length * 5 := by
  induction l with
  | nil => rfl
  | cons x l ih => unfold pls at *; rw [List.flatMap_cons, List.length_append, ih, List.length_cons]; simp [pl5, st4]; omega
theorem pl5_ones (p : Nat × Nat) : ∀ u ∈ pl5 p, u.oneCell' = true := by
  intro u hu
  simp [pl5, st4] at hu
  rcases hu with rfl | rfl | rfl | rfl | rfl <;> rfl
theorem pls_get (l : List (Nat × Nat)) (i q : Nat) (hi : i < l.length) (v : Value) (hq : (pl5 (l.getD i (0, 0)))[q]? = some v) : (pls l)[i * 5 + q]? = some v := by
  induction l generalizing i with
  | nil => simp at hi
  | cons x l ih =>
    have hl : (pl5 x).length = 5 := rfl
    cases i with
    | zero =>
      simp only [List.getD_cons_zero] at hq
      unfold pls
      rw [List.flatMap_cons, Nat.zero_mul, Nat.zero_add, List.getElem?_append_left (List.getElem?_eq_some_iff.1 hq).1]
      exact hq
    | succ i =>
      simp only [List.getD_cons_succ] at hq
      unfold pls
      rw [List.flatMap_cons, List.getElem?_append_right (by rw [hl]; omega), hl, show (i + 1) * 5 + q - 5 = i * 5 + q from by omega]
      exact ih i (by simpa using hi) hq
def OwnPl (B : Nat) (w : World) (v : Value) (L : List (Nat × Nat)) : Prop := w.ownsRow B 54 5 v L.length (pls L)
theorem infoPl : (Tryd.prog.info? 54).map (fun i => (i.zero, i.size, i.bytes)) = some (some (.agg #[.int .u64 0, .int .u64 0, .int .u64 0, .int .u64 0, .int .u64 0]), 5, 40) := by kernel_rfl
theorem pl_range {w : World} {B q c : Nat} {L : List (Nat × Nat)} (h : OwnPl B w (.slice (some ⟨q, 0, none⟩) L.length c) L) {j : Nat} (hj : j < L.length) : w.rangeAt q (j * 5) (pl5 (L.getD j (0, 0))) := by
  intro i v hv
  have hl : i < 5 := (List.getElem?_eq_some_iff.1 hv).1
  rw [World.ownsRow.cellAt h (j * 5 + i) (by omega)]
  exact pls_get L j i hj v hv
theorem selOr_mod (q k : Nat) : (q / 2 ^ k % 2 = 1) ↔ q.testBit k = true := by
  rw [Nat.testBit_eq_decide_div_mod_eq, decide_eq_true_iff]
theorem and_next (f : Nat) (s : List Nat) (c k : Nat) : f &&& wth s c (k + 1) = if f.testBit k && (s.getD k 0).testBit c then (f &&& wth s c k) + 2 ^ k else f &&& wth s c k := by
  have hlt : f &&& wth s c k < 2 ^ k := Nat.lt_of_le_of_lt Nat.and_le_right (wth_lt s c k)
  have hstep : wth s c (k + 1) = if (s.getD k 0).testBit c then wth s c k ||| 2 ^ k else wth s c k := rfl
  rw [hstep]
  cases h2 : (s.getD k 0).testBit c
  · rw [Bool.and_false]; rfl
  · rw [if_pos rfl, Bool.and_true, Nat.and_or_distrib_left]
    cases h1 : f.testBit k
    · have : f &&& 2 ^ k = 0 := by
        apply Nat.eq_of_testBit_eq; intro i
        rw [Nat.testBit_and, Nat.testBit_two_pow, Nat.zero_testBit]
        by_cases e : k = i
        · subst e; rw [h1]; rfl
        · rw [decide_eq_false e, Bool.and_false]
      rw [this, Nat.or_zero]; rfl
    · have : f &&& 2 ^ k = 2 ^ k := by
        apply Nat.eq_of_testBit_eq; intro i
        rw [Nat.testBit_and, Nat.testBit_two_pow]
        by_cases e : k = i
        · subst e; rw [h1]; simp
        · rw [decide_eq_false e, Bool.and_false]
      rw [this, if_pos rfl]
      have h5 := Nat.two_pow_add_eq_or_of_lt hlt 1
      rw [Nat.mul_one] at h5
      rw [Nat.or_comm, ← h5, Nat.add_comm]
theorem index_arr9 (p : Nat → Bool) (k : Nat) (h : k < 256) (w : World) : (Instr.index 83 (.agg (arr p)) (.int .u8 k)).run Tryd.prog w = .ok (.bool (p k)) w := by
  have hg := arr_get p k h
  have u3 := Tryd.underlying4
  have a3 := Tryd.isAgg4
  have z3 := Tryd.sizeOf4
  unfold Instr.index
  go_simp
theorem getD_fst (L : List (Nat × Nat)) (j : Nat) : (L.map (·.1)).getD j 0 = (L.getD j (0, 0)).1 := by
  rw [List.getD_eq_getElem?_getD, List.getElem?_map, List.getD_eq_getElem?_getD]
  cases L[j]? <;> rfl
theorem getD_snd (L : List (Nat × Nat)) (j : Nat) : (L.map (·.2)).getD j 0 = (L.getD j (0, 0)).2 := by
  rw [List.getD_eq_getElem?_getD, List.getElem?_map, List.getD_eq_getElem?_getD]
  cases L[j]? <;> rfl
def r9 (L : List (Nat × Nat)) (first q c : Nat) : Nat := (if q = top then first else selOr q (L.map (·.2)) L.length) &&& wth (L.map (·.1)) c L.length
theorem next63 {i n : Nat} (h : i < n) (hn : n ≤ 63) : wrap64 ((i : Int) + 1) = ((i + 1 : Nat) : Int) := by unfold wrap64; omega
theorem half_step (q i : Nat) : ((q / 2 ^ i : Nat) : Int) / 2 = ((q / 2 ^ (i + 1) : Nat) : Int) := by
  rw [Nat.pow_succ, ← Nat.div_div_eq_div_mul]; omega
theorem odd_bit (q k : Nat) : (((q / 2 ^ k : Nat) : Int) % 2 == 1) = q.testBit k := by
  rw [Bool.eq_iff_iff, ← selOr_mod, beq_iff_eq]; omega
theorem twice_pow (k : Nat) (hk : k ≤ 62) : IntKind.u64.wrap (((2 ^ k : Nat) : Int) * 2) = ((2 ^ (k + 1) : Nat) : Int) := by
  have h : 2 ^ (k + 1) < 2 ^ 64 := Nat.pow_lt_pow_right (by decide) (by omega)
  have e : ((2 ^ k : Nat) : Int) * 2 = ((2 ^ (k + 1) : Nat) : Int) := by rw [Nat.pow_succ]; rfl
  rw [e, IntKind.wrap_u64]
  exact Int.emod_eq_of_lt (Int.natCast_nonneg _) (Int.ofNat_lt.2 h)
theorem sum_pow (x k : Nat) (hx : x < 2 ^ 63) (hk : k ≤ 62) : IntKind.u64.wrap ((x : Int) + ((2 ^ k : Nat) : Int)) = ((x + 2 ^ k : Nat) : Int) := by
  have h : 2 ^ k < 2 ^ 63 := Nat.pow_lt_pow_right (by decide) (by omega)
  rw [IntKind.wrap_u64, ← Int.natCast_add]
  have h3 : x + 2 ^ k < 2 ^ 64 := by omega
  exact Int.emod_eq_of_lt (Int.natCast_nonneg _) (Int.ofNat_lt.2 h3)
set_option maxHeartbeats 6400000 in
set_option maxRecDepth 100000 in
theorem ref9_any (v : Value) (L : List (Nat × Nat)) (first q c B : Nat) (w : World) (h : OwnPl B w v L) (hL : L.length ≤ 63) (hfo : ∀ j, (L.getD j (0, 0)).2 < 2 ^ 63) (hfi : first < 2 ^ 63) (hq : q < 2 ^ 64) (hc : c < 256) :
    Calls Tryd.prog 23 #[v, .int .u64 first, .int .u64 q, .int .u8 c] w fun e w' => e = .returned (.int .u64 (r9 L first q c)) ∧ Below w.heap.size w w' := by
  obtain ⟨va, vc, rfl⟩ := own_slice h
  have HO := Lib.hid h
  have HL := Lib.hid hL
  have HFO := Lib.hid hfo
  have HFI := Lib.hid hfi
  have HQ := Lib.hid hq
  have HCC := Lib.hid hc
  clear h hL hfo hfi hq
  generalize hn : L.length = n at *
  have HN := Lib.hid hn
  clear hn
  go_enter Tryd.func23, Tryd.ntmps23
  go_upto_if 18 with fail
  go_cut [9] from 16 (fun x wr => wr = w ∧ x = .int .u64 (if q = top then first else selOr q (L.map (·.2)) n : Nat))
  case first =>
    by_cases ht : q = top
    · have hd : ((q : Int) != 9223372036854775808) = false := by rw [ht]; rfl
      have HE : Hid ((if q = top then first else selOr q (L.map (·.2)) n) = first) := Lib.hid (by rw [if_pos ht])
      clear ht
      go_wp2_with fail
      go_meet
      case rel => exact ⟨rfl, by rw [HE.out]⟩
    · have hd : ((q : Int) != 9223372036854775808) = true := by rw [bne_iff_ne]; intro e; apply ht; unfold top; omega
      have HE : Hid ((if q = top then first else selOr q (L.map (·.2)) n) = selOr q (L.map (·.2)) n) := Lib.hid (by rw [if_neg ht])
      clear ht
      go_wp2_with fail
      go_loopw [9, 10] (fun x i wr => ∃ k : Nat, i = .int .i64 k ∧ x = .int .u64 (selOr q (L.map (·.2)) k : Nat) ∧ k ≤ n ∧ wr = w) (fun _ i _ => ((n : Int) - intOf i).toNat)
      case atStart => exact ⟨0, rfl, rfl, Nat.zero_le _, by first | rfl | trivial⟩
      case round =>
        obtain ⟨k, rfl, rfl, hk, hwe⟩ := hrel
        subst hwe
        by_cases hlt : k < n
        · have hdd : decide ((k : Int) < (n : Int)) = true := decide_eq_true (by omega)
          have hd2 : decide (k < n) = true := decide_eq_true hlt
          have HK : Hid (k < n) := Lib.hid hlt
          have HZ : Hid (q / 2 ^ 0 = q) := Lib.hid (by simp)
          go_wp2_with fail
          go_loop [11, 12] (fun x i => ∃ j : Nat, i = .int .i64 j ∧ x = .int .u64 (q / 2 ^ j : Nat) ∧ j ≤ k) (fun _ i => ((k : Int) - intOf i).toNat)
          case atStart => exact ⟨0, rfl, by rw [HZ.out], Nat.zero_le _⟩
          case round =>
            obtain ⟨j, rfl, rfl, hj⟩ := hrel
            by_cases hjl : j < k
            · have hd3 : decide ((j : Int) < (k : Int)) = true := decide_eq_true (by omega)
              have hd4 : decide (j < k) = true := decide_eq_true hjl
              have hhh := half_step q j
              have hlz : q / 2 ^ (j + 1) < 2 ^ 64 := Nat.lt_of_le_of_lt (Nat.div_le_self _ _) HQ.out
              have hwz : IntKind.u64.wrap ((q / 2 ^ (j + 1) : Nat) : Int) = ((q / 2 ^ (j + 1) : Nat) : Int) := by
                rw [IntKind.wrap_u64]
                exact Int.emod_eq_of_lt (Int.natCast_nonneg _) (Int.ofNat_lt.2 hlz)
              clear hlz
              have HZQ : Hid (∃ z, z = q / 2 ^ (j + 1)) := Lib.hid ⟨_, rfl⟩
              have HW1 : Hid (wrap64 ((j : Int) + 1) = ((j + 1 : Nat) : Int)) := Lib.hid (by have := HL.out; unfold wrap64; omega)
              obtain ⟨z, hz⟩ := HZQ.out
              rw [← hz] at hhh hwz
              have HZZ := Lib.hid hz
              clear hz HZQ
              generalize q / 2 ^ j = y at *
              go_wp2_with fail
              go_round
              case rel => exact ⟨j + 1, by rw [HW1.out], by rw [← HZZ.out], hjl⟩
              case measure => rw [HW1.out]; exact meas2 hjl
            · have hd3 : decide ((j : Int) < (k : Int)) = false := decide_eq_false (by omega)
              have hd4 : decide (j < k) = false := decide_eq_false hjl
              have hje : j = k := by omega
              subst hje
              have hob := odd_bit q j
              have hn0 : 0 < n := by omega
              obtain ⟨g, gc, e1⟩ := own_some HO.out (by have := HN.out; omega)
              injection e1 with e2 e3 e4
              subst e2
              have HO2 := Lib.hid HO.out
              have hN2 := HN.out
              have hrg : wr.rangeAt g (j * 5) (pl5 (L.getD j (0, 0))) := by
                have h5 := HO.out
                rw [← HN.out] at h5
                exact pl_range h5 (by omega)
              have hcell := hrg 4 _ (show (pl5 (L.getD j (0, 0)))[4]? = some (.int .u64 ((L.getD j (0, 0)).2 : Int)) from rfl)
              have hfl := HFO.out j
              have hgs := getD_snd L j
              have HSS : Hid (selOr q (L.map (·.2)) (j + 1) = if q.testBit j then selOr q (L.map (·.2)) j ||| (L.getD j (0, 0)).2 else selOr q (L.map (·.2)) j) := Lib.hid (by rw [← hgs]; rfl)
              have hsl : selOr q (L.map (·.2)) j < 2 ^ 63 := selOr_lt (fun i => by rw [getD_snd]; exact HFO.out i) j
              have hor := u64_or_nat (selOr q (L.map (·.2)) j) (L.getD j (0, 0)).2 (Nat.lt_trans hsl (by decide)) (Nat.lt_trans hfl (by decide))
              have HW1 := Lib.hid (next63 (i := j) HK.out HL.out)
              clear hrg hgs hfl hsl hN2
              generalize (L.getD j (0, 0)).2 = fo at *
              generalize selOr q (L.map (·.2)) j = x at *
              generalize q / 2 ^ j = y at *
              cases hqb : q.testBit j
              · rw [hqb] at hob HSS
                clear hqb
                go_wp2_with fail
                go_roundw
                case rel => exact ⟨j + 1, by rw [HW1.out], by rw [HSS.out]; rfl, HK.out, by first | rfl | trivial⟩
                case measure => rw [HW1.out]; exact meas2 HK.out
              · rw [hqb] at hob HSS
                clear hqb
                go_wp2_with fail
                go_roundw
                case rel => exact ⟨j + 1, by rw [HW1.out], by rw [HSS.out]; rfl, HK.out, by first | rfl | trivial⟩
                case measure => rw [HW1.out]; exact meas2 HK.out
        · have hdd : decide ((k : Int) < (n : Int)) = false := decide_eq_false (by omega)
          have hd2 : decide (k < n) = false := decide_eq_false hlt
          have hke : k = n := by omega
          subst hke
          go_wp2_with fail
          go_meet
          case rel => exact ⟨by first | rfl | trivial, by rw [HE.out]⟩
  case rest =>
    obtain ⟨hwe, hx⟩ := hcut
    have hwe := hwe.symm
    subst hwe
    subst hx
    have HRR : Hid (r9 L first q c = (if q = top then first else selOr q (L.map (·.2)) n) &&& wth (L.map (·.1)) c n) := Lib.hid (by unfold r9; rw [HN.out])
    have hfl : (if q = top then first else selOr q (L.map (·.2)) n) < 2 ^ 63 := by
      split
      · exact HFI.out
      · exact selOr_lt (fun i => by rw [getD_snd]; exact HFO.out i) n
    generalize (if q = top then first else selOr q (L.map (·.2)) n) = fr at *
    have HFR := Lib.hid hfl
    clear hfl
    have HX0 : Hid (fr &&& wth (L.map (·.1)) c 0 = 0) := Lib.hid (by show fr &&& 0 = 0; simp)
    go_wp2_with fail
    go_loopw [13, 14, 15] (fun x y i wr => ∃ k : Nat, i = .int .i64 k ∧ x = .int .u64 (fr &&& wth (L.map (·.1)) c k : Nat) ∧ y = .int .u64 (if k ≤ 63 then 2 ^ k else 0 : Nat) ∧ k ≤ n ∧ Hid (Below w.heap.size w wr)) (fun _ _ i _ => ((n : Int) - intOf i).toNat)
    case atStart => exact ⟨0, rfl, by rw [HX0.out]; rfl, rfl, Nat.zero_le _, Lib.hid (Below.refl _ _)⟩
    case round =>
      obtain ⟨k, rfl, rfl, rfl, hk, HB⟩ := hrel
      generalize hwr : wr = w1 at *
      clear hwr wr
      by_cases hlt : k < n
      · have hdd : decide ((k : Int) < (n : Int)) = true := decide_eq_true (by omega)
        have hd2 : decide (k < n) = true := decide_eq_true hlt
        have hk62 : k ≤ 62 := by have := HL.out; omega
        rw [if_pos (by omega : k ≤ 63)]
        have hba := bit_and fr k (Nat.lt_trans HFR.out (by decide)) (by omega)
        have htw := twice_pow k hk62
        have hxl : fr &&& wth (L.map (·.1)) c k < 2 ^ 63 := Nat.lt_of_le_of_lt Nat.and_le_left HFR.out
        have hsu := sum_pow _ k hxl hk62
        have hst := and_next fr (L.map (·.1)) c k
        rw [getD_fst] at hst
        have HST := Lib.hid hst
        have HW1 := Lib.hid (next63 (i := k) hlt HL.out)
        obtain ⟨g, gc, e1⟩ := own_some HO.out (by have := HN.out; omega)
        injection e1 with e2 e3 e4
        subst e2
        have hrg : w1.rangeAt g (k * 5) (st4 (L.getD k (0, 0)).1) := by
          have h5 := HO.out
          rw [← HN.out] at h5
          have h6 := pl_range h5 (j := k) (by rw [HN.out]; exact hlt)
          intro j u hj
          have hjl : j < 4 := (List.getElem?_eq_some_iff.1 hj).1
          have h7 := h6 j u (show (pl5 (L.getD k (0, 0)))[j]? = some u by unfold pl5; rw [List.getElem?_append_left hjl]; exact hj)
          exact (HB.out.cell (World.block_lt_of_cell? _ _ h7)).trans h7
        have HRG := Lib.hid hrg
        have HME := Lib.hid (mem_any (L.getD k (0, 0)).1 w1)
        have HIX := Lib.hid (index_arr9 (L.getD k (0, 0)).1.testBit c HCC.out)
        clear hxl hst hrg e3 e4 hk62
        obtain ⟨p2, hp2⟩ : ∃ p2, p2 = 2 ^ k := ⟨_, rfl⟩
        rw [← hp2] at hba htw hsu HST
        rw [← hp2]
        have HPP := Lib.hid hp2
        clear hp2
        obtain ⟨p3, hp3⟩ : ∃ p3, p3 = 2 ^ (k + 1) := ⟨_, rfl⟩
        rw [← hp3] at htw
        have HP2 : Hid ((if k + 1 ≤ 63 then 2 ^ (k + 1) else 0 : Nat) = p3) := Lib.hid (by rw [if_pos (by have := HL.out; omega), hp3])
        clear hp3
        generalize fr &&& wth (L.map (·.1)) c k = x at *
        generalize (L.getD k (0, 0)).1 = S at *
        have hix := HIX.out
        cases hfb : fr.testBit k
        · rw [hfb] at hba HST
          clear hfb
          go_wp2_with fail
          go_roundw
          case rel => exact ⟨k + 1, by rw [HW1.out], by rw [HST.out]; rfl, by rw [HP2.out], hlt, HB⟩
          case measure => rw [HW1.out]; exact meas2 hlt
        · rw [hfb] at hba HST
          clear hfb
          cases hsb : S.testBit c
          · rw [hsb] at hix HST
            clear hsb
            go_wp2_with (first
              | (refine BigFrame.wpList_want rfl (fun K' hK' => ?_); refine wp_load_mid 52 _ rfl g (k * 5) rfl (st4 S) _ HRG.out Tryd.underlying52 rfl sizeSet9 ?_; refine hK' _ _ ?_; clear hK' K')
              | (go_at_call 34; refine HME.out.mono ?_; rintro e w2 ⟨rfl, hb⟩; have HB2 := Lib.hid (HB.out.trans (hb.mono HB.out.size)); clear hb))
            go_roundw
            case rel => exact ⟨k + 1, by rw [HW1.out], by rw [HST.out]; rfl, by rw [HP2.out], hlt, HB2⟩
            case measure => rw [HW1.out]; exact meas2 hlt
          · rw [hsb] at hix HST
            clear hsb
            go_wp2_with (first
              | (refine BigFrame.wpList_want rfl (fun K' hK' => ?_); refine wp_load_mid 52 _ rfl g (k * 5) rfl (st4 S) _ HRG.out Tryd.underlying52 rfl sizeSet9 ?_; refine hK' _ _ ?_; clear hK' K')
              | (go_at_call 34; refine HME.out.mono ?_; rintro e w2 ⟨rfl, hb⟩; have HB2 := Lib.hid (HB.out.trans (hb.mono HB.out.size)); clear hb))
            go_roundw
            case rel => exact ⟨k + 1, by rw [HW1.out], by rw [HST.out]; rfl, by rw [HP2.out], hlt, HB2⟩
            case measure => rw [HW1.out]; exact meas2 hlt
      · have hdd : decide ((k : Int) < (n : Int)) = false := decide_eq_false (by omega)
        have hd2 : decide (k < n) = false := decide_eq_false hlt
        have hke : k = n := by omega
        go_wp2_with fail
        go_ret
        exact ⟨by rw [HRR.out]; rfl, HB.out⟩
end Go.Proofs.YtcgllipcnmlkbaaDoor
