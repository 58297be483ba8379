/- ConsSteps. -/
import Derived.Test.YtcgllipcnmlkbaaDoorPkCc
import Derived.Deep.Cut
namespace Go.Proofs.YtcgllipcnmlkbaaDoor
open Go.RowKit Sets Tr Rx Sp
open Cn
theorem size_cut9 (s : ByteArray) (n : Nat) : (s.extract 0 n).size ≤ n := by rw [size_tx, tx_extract]; simp; omega
theorem by_cat9 (s t : ByteArray) : by' (s ++ t) = by' s ++ by' t := by
  have : by' (s ++ t) = (tx (s ++ t)).map UInt8.toNat := rfl
  rw [this, tx_append, List.map_append]; rfl
theorem run_more (m : Sp.Md) (q : Nat) (u l : List Nat) (j : Nat) (h : j < l.length) : runM m q (u ++ l.take (j + 1)) = nextM m (runM m q (u ++ l.take j)) (l.getD j 256) := by
  rw [runM_append, run_snoc m _ l j h, ← runM_append]
set_option maxHeartbeats 12800000 in
set_option maxRecDepth 100000 in
theorem csteps_any (s v0 w0 : ByteArray) (w : World) (hT : Tab w) :
    Calls Tryd.prog 9 #[.string s, .string v0, .string w0] w fun e w' => e = .returned (.bool true) ∧ Below w.heap.size w w' := by
  have HT := Lib.hid hT
  have HG := Lib.hid (tab_lt hT)
  clear hT
  go_enter Tryd.func9, Tryd.ntmps9
  by_cases hs : 200 < s.size
  · have hd : decide ((200 : Int) < (s.size : Int)) = true := decide_eq_true (by omega)
    have hd' : decide (200 < s.size) = true := decide_eq_true (by omega)
    go_wp2_with fail
    refine (awake9_any w HT.out).mono ?_
    rintro e w1 ⟨rfl, hb⟩
    have HB := Lib.hid hb
    clear hb
    go_wp2_with fail
    go_ret
    exact ⟨rfl, HB.out⟩
  have hd : decide ((200 : Int) < (s.size : Int)) = false := decide_eq_false (by omega)
  have hd' : decide (200 < s.size) = false := decide_eq_false (by omega)
  go_upto_if 19 with fail
  go_cut [1] from 13 (fun x wr => wr = w ∧ ∃ q : ByteArray, x = .string q ∧ q.size ≤ 40)
  case first =>
    by_cases hl : 40 < v0.size
    · have hx := size_cut9 v0 40
      have hd1 : decide ((40 : Int) < (v0.size : Int)) = true := decide_eq_true (by omega)
      have hd2 : decide (40 < v0.size) = true := decide_eq_true (by omega)
      go_wp2_with fail
      go_meet
      case rel => exact ⟨rfl, _, rfl, hx⟩
    · have hd1 : decide ((40 : Int) < (v0.size : Int)) = false := decide_eq_false (by omega)
      have hd2 : decide (40 < v0.size) = false := decide_eq_false (by omega)
      go_wp2_with fail
      go_meet
      case rel => exact ⟨rfl, _, rfl, by omega⟩
  case rest =>
    obtain ⟨hwe, v, rfl, hv⟩ := hcut
    have hwe := hwe.symm
    subst hwe
    go_upto_if 24 with fail
    go_cut [2] from 13 (fun x wr => wr = w ∧ ∃ q : ByteArray, x = .string q ∧ q.size ≤ 40)
    case first =>
      by_cases hl : 40 < w0.size
      · have hx := size_cut9 w0 40
        have hd1 : decide ((40 : Int) < (w0.size : Int)) = true := decide_eq_true (by omega)
        have hd2 : decide (40 < w0.size) = true := decide_eq_true (by omega)
        go_wp2_with fail
        go_meet
        case rel => exact ⟨rfl, _, rfl, hx⟩
      · have hd1 : decide ((40 : Int) < (w0.size : Int)) = false := decide_eq_false (by omega)
        have hd2 : decide (40 < w0.size) = false := decide_eq_false (by omega)
        go_wp2_with fail
        go_meet
        case rel => exact ⟨rfl, _, rfl, by omega⟩
    case rest =>
      obtain ⟨hwe, u, rfl, hu⟩ := hcut
      have hwe := hwe.symm
      subst hwe
      have HV := Lib.hid hv
      have HU := Lib.hid hu
      have HR := Lib.hid (read_any s w HT.out)
      have HVL := Lib.hid (by_len v)
      have HUL := Lib.hid (by_len u)
      have HVB := Lib.hid (by_lt v)
      have HUB := Lib.hid (by_lt u)
      clear hv hu hs hd hd'
      go_wp2_with fail
      refine HR.out.mono ?_
      clear HR
      rintro e w1 ⟨hB, hE⟩
      have HB1 := Lib.hid hB
      clear hB
      cases hc : cons (by' s) with
      | bad lg p =>
        rw [hc] at hE
        subst hE
        have HT1 := Lib.hid (HT.out.below HB1.out HG.out)
        clear hc
        have h8 : (((if lg = true then 3 else 8 : Int)) != 0) = true := by cases lg <;> rfl
        generalize (if lg = true then 3 else 8 : Int) = er at *
        go_wp2_with fail
        refine (awake9_any w1 HT1.out).mono ?_
        rintro e w2 ⟨rfl, hb⟩
        have HB2 := Lib.hid (HB1.out.trans (hb.mono HB1.out.size))
        clear hb
        go_wp2_with fail
        go_ret
        exact ⟨rfl, HB2.out⟩
      | ok x N R =>
        rw [hc] at hE
        obtain ⟨C, rfl, hC⟩ := hE
        have HF := Lib.hid (fit_cons hc).1
        have HC := Lib.hid hC
        clear hc hC
        generalize Sp.md (parts N R) = m at *
        go_wp2_with fail
        refine (start_any C w1).mono ?_
        rintro e w2 ⟨rfl, hb⟩
        have HB2 := Lib.hid (HB1.out.trans (hb.mono HB1.out.size))
        have HC2 := Lib.hid (HC.out.kept hb)
        clear hb HB1 HC
        go_wp2_with fail
        go_loopw [10, 11] (fun x i wr => ∃ j : Nat, i = .int .i64 j ∧ x = .int .u64 (runM m top ((by' v).take j)) ∧ j ≤ v.size ∧ Hid (Below w.heap.size w wr) ∧ Hid (ConsAt wr C m)) (fun _ i _ => ((v.size : Int) - intOf i).toNat)
        case atStart => exact ⟨0, rfl, rfl, Nat.zero_le _, HB2, HC2⟩
        case round =>
          obtain ⟨j, rfl, rfl, hj, HB3, HC3⟩ := hrel
          generalize hwr : wr = w3 at *
          clear hwr wr HB2 HC2
          have HRL := Lib.hid (runM_lt HF.out ((by' v).take j) top top_lt)
          by_cases hlt : j < v.size
          · have hdd : decide ((j : Int) < (v.size : Int)) = true := decide_eq_true (by omega)
            have hd2 : decide (j < v.size) = true := decide_eq_true hlt
            have HSN := Lib.hid (run_snoc m top (by' v) j (by rw [HVL.out]; exact hlt))
            have hpl := pk_ne (l := by' v) (p := j) (by rw [HVL.out]; exact hlt) HVB.out
            have hix : ∀ w, (Instr.index 9 (.string v) (.int .i64 (j : Int))).run Tryd.prog w = .ok (.int .u8 (pk (by' v) j : Nat)) w := fun w => index_by v j _ rfl hlt w
            have HNX := Lib.hid (next_any C (runM m top ((by' v).take j)) (pk (by' v) j) m w3 HC3.out HF.out HRL.out hpl)
            have HW1 : Hid (wrap64 ((j : Int) + 1) = ((j + 1 : Nat) : Int)) := Lib.hid (by have := HV.out; unfold wrap64; omega)
            rw [show (by' v).getD j 256 = pk (by' v) j from rfl] at HSN
            clear hpl
            generalize pk (by' v) j = c at *
            generalize runM m top ((by' v).take j) = q at *
            go_wp2_with fail
            refine HNX.out.mono ?_
            rintro e w4 ⟨rfl, hb⟩
            have HB4 := Lib.hid (HB3.out.trans (hb.mono HB3.out.size))
            have HC4 := Lib.hid (HC3.out.kept hb)
            clear hb HB3 HC3
            go_wp2_with fail
            go_roundw
            case rel => exact ⟨j + 1, by rw [HW1.out], by rw [HSN.out], hlt, HB4, HC4⟩
            case measure => rw [HW1.out]; exact meas2 hlt
          · have hje : j = v.size := by omega
            have hdd : decide ((j : Int) < (v.size : Int)) = false := decide_eq_false (by omega)
            have hd2 : decide (j < v.size) = false := decide_eq_false hlt
            have HTK : Hid (runM m top ((by' v).take j) = runM m top (by' v)) := Lib.hid (by rw [List.take_of_length_le (by rw [HVL.out]; omega)])
            have HMM : Hid (matchM m (by' v) = goodM m (runM m top (by' v))) := Lib.hid rfl
            rw [HTK.out] at HRL ⊢
            have HQ0 : Hid (runM m top (by' v ++ (by' u).take 0) = runM m top (by' v)) := Lib.hid (by simp)
            clear HTK
            generalize runM m top (by' v) = q at *
            go_wp2_with fail
            refine (good_any C q m w3 HC3.out HF.out HRL.out).mono ?_
            rintro e w4 ⟨rfl, rfl⟩
            go_wp2_with fail
            refine (match_any C m v w3 HC3.out HF.out (by have := HV.out; omega)).mono ?_
            rintro e w4 ⟨rfl, hb⟩
            rw [HMM.out]
            have HB4 := Lib.hid (HB3.out.trans (hb.mono HB3.out.size))
            have HC4 := Lib.hid (HC3.out.kept hb)
            clear hb HB3 HC3
            have hneq : (goodM m q != goodM m q) = false := by simp
            generalize goodM m q = gq at *
            go_wp2_with fail
            go_loopw [10, 12] (fun x i wr => ∃ j : Nat, i = .int .i64 j ∧ x = .int .u64 (runM m top (by' v ++ (by' u).take j)) ∧ j ≤ u.size ∧ Hid (Below w.heap.size w wr) ∧ Hid (ConsAt wr C m)) (fun _ i _ => ((u.size : Int) - intOf i).toNat)
            case atStart => exact ⟨0, rfl, by rw [HQ0.out], Nat.zero_le _, HB4, HC4⟩
            case round =>
              obtain ⟨j, rfl, rfl, hj, HB5, HC5⟩ := hrel
              generalize hwr : wr = w5 at *
              clear hwr wr HB4 HC4
              have HRM := Lib.hid (runM_lt HF.out (by' v ++ (by' u).take j) top top_lt)
              by_cases hlt : j < u.size
              · have hdd : decide ((j : Int) < (u.size : Int)) = true := decide_eq_true (by omega)
                have hd2 : decide (j < u.size) = true := decide_eq_true hlt
                have HSN := Lib.hid (run_more m top (by' v) (by' u) j (by rw [HUL.out]; exact hlt))
                have hpl := pk_ne (l := by' u) (p := j) (by rw [HUL.out]; exact hlt) HUB.out
                have hix : ∀ w, (Instr.index 9 (.string u) (.int .i64 (j : Int))).run Tryd.prog w = .ok (.int .u8 (pk (by' u) j : Nat)) w := fun w => index_by u j _ rfl hlt w
                have HNX := Lib.hid (next_any C (runM m top (by' v ++ (by' u).take j)) (pk (by' u) j) m w5 HC5.out HF.out HRM.out hpl)
                have HW1 : Hid (wrap64 ((j : Int) + 1) = ((j + 1 : Nat) : Int)) := Lib.hid (by have := HU.out; unfold wrap64; omega)
                rw [show (by' u).getD j 256 = pk (by' u) j from rfl] at HSN
                clear hpl
                generalize pk (by' u) j = c at *
                generalize runM m top (by' v ++ (by' u).take j) = q2 at *
                go_wp2_with fail
                refine HNX.out.mono ?_
                rintro e w6 ⟨rfl, hb⟩
                have HB6 := Lib.hid (HB5.out.trans (hb.mono HB5.out.size))
                have HC6 := Lib.hid (HC5.out.kept hb)
                clear hb HB5 HC5
                go_wp2_with fail
                go_roundw
                case rel => exact ⟨j + 1, by rw [HW1.out], by rw [HSN.out], hlt, HB6, HC6⟩
                case measure => rw [HW1.out]; exact meas2 hlt
              · have hje : j = u.size := by omega
                have hdd : decide ((j : Int) < (u.size : Int)) = false := decide_eq_false (by omega)
                have hd2 : decide (j < u.size) = false := decide_eq_false hlt
                have HMN : Hid (matchM m (by' (v ++ u)) = goodM m (runM m top (by' v ++ (by' u).take j))) := Lib.hid (by rw [List.take_of_length_le (by rw [HUL.out]; omega), by_cat9]; rfl)
                have HSZ : Hid ((v ++ u).size < 2 ^ 62) := Lib.hid (by rw [ByteArray.size_append]; have := HV.out; have := HU.out; omega)
                have hcat : ¬ 9223372036854775807 < v.size + u.size := by have := HV.out; have := HU.out; omega
                generalize runM m top (by' v ++ (by' u).take j) = q2 at *
                go_wp2_with fail
                refine (good_any C q2 m w5 HC5.out HF.out HRM.out).mono ?_
                rintro e w6 ⟨rfl, rfl⟩
                go_wp2_with fail
                refine (match_any C m (v ++ u) w5 HC5.out HF.out HSZ.out).mono ?_
                rintro e w6 ⟨rfl, hb⟩
                rw [HMN.out]
                have HB6 := Lib.hid (HB5.out.trans (hb.mono HB5.out.size))
                have HT6 := Lib.hid (HT.out.below HB6.out HG.out)
                clear hb HB5 HC5
                have heq : (goodM m q2 == goodM m q2) = true := by simp
                generalize goodM m q2 = gq2 at *
                go_wp2_with fail
                refine (awake9_any w6 HT6.out).mono ?_
                rintro e w7 ⟨rfl, hb⟩
                have HB7 := Lib.hid (HB6.out.trans (hb.mono HB6.out.size))
                clear hb
                go_wp2_with fail
                go_ret
                exact ⟨rfl, HB7.out⟩
end Go.Proofs.YtcgllipcnmlkbaaDoor
