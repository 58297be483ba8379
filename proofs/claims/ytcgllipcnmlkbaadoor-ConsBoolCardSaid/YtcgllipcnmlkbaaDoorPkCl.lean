/- ConsBool. -/
import Derived.Test.YtcgllipcnmlkbaaDoorPkCk
import Derived.Deep.Cut
namespace Go.Proofs.YtcgllipcnmlkbaaDoor
open Go.RowKit Sets Tr Rx Sp
open Cn
/-- what Read says, in one form -/
theorem read_un (s : ByteArray) (w : World) (hT : Tab w) : Calls Tryd.prog 16 #[.string s] w fun e w' =>
    ∃ (v : Option Addr) (a er : Int), e = .returned (.tuple #[.pointer v, .int .i64 a, .int .i64 er]) ∧ Below w.heap.size w w' := by
  refine (read_any s w hT).mono ?_
  rintro e w' ⟨hb, h⟩
  cases hc : cons (by' s) with
  | ok q N R =>
    rw [hc] at h
    obtain ⟨C, rfl, -⟩ := h
    exact ⟨_, _, _, rfl, hb⟩
  | bad lg p =>
    rw [hc] at h
    exact ⟨_, _, _, h, hb⟩
theorem by_amp : by' ⟨#[38]⟩ = [38] := by decide
theorem by_two : by' ⟨#[33, 33]⟩ = [33, 33] := by decide
theorem by_not : by' ⟨#[33]⟩ = [33] := by decide
set_option maxHeartbeats 51200000 in
set_option maxRecDepth 100000 in
theorem cbool_any (a b v0 : ByteArray) (w : World) (hT : Tab w) :
    Calls Tryd.prog 7 #[.string a, .string b, .string v0] w fun e w' => e = .returned (.bool true) ∧ Below w.heap.size w w' := by
  have HT := Lib.hid hT
  have HG := Lib.hid (tab_lt hT)
  clear hT
  go_enter Tryd.func7, Tryd.ntmps7
  by_cases ha : 90 < a.size
  · have hd : decide ((90 : Int) < (a.size : Int)) = true := decide_eq_true (by omega)
    have hd' : decide (90 < a.size) = true := decide_eq_true (by omega)
    go_wp2_with fail
    refine (awake9_any w HT.out).mono ?_
    rintro e w1 ⟨rfl, hb⟩
    have HB := Lib.hid hb
    clear hb
    go_wp2_with fail
    go_ret
    exact ⟨rfl, HB.out⟩
  have hd : decide ((90 : Int) < (a.size : Int)) = false := decide_eq_false (by omega)
  have hd' : decide (90 < a.size) = false := decide_eq_false (by omega)
  by_cases hbz : 90 < b.size
  · have he : decide ((90 : Int) < (b.size : Int)) = true := decide_eq_true (by omega)
    have he' : decide (90 < b.size) = true := decide_eq_true (by omega)
    go_wp2_with fail
    refine (awake9_any w HT.out).mono ?_
    rintro e w1 ⟨rfl, hb⟩
    have HB := Lib.hid hb
    clear hb
    go_wp2_with fail
    go_ret
    exact ⟨rfl, HB.out⟩
  have he : decide ((90 : Int) < (b.size : Int)) = false := decide_eq_false (by omega)
  have he' : decide (90 < b.size) = false := decide_eq_false (by omega)
  go_upto_if 34 with fail
  go_cut [2] from 23 (fun x wr => wr = w ∧ ∃ q : ByteArray, x = .string q ∧ q.size ≤ 60)
  case first =>
    by_cases hl : 60 < v0.size
    · have hx := size_cutU v0 60
      have hd1 : decide ((60 : Int) < (v0.size : Int)) = true := decide_eq_true (by omega)
      have hd2 : decide (60 < v0.size) = true := decide_eq_true (by omega)
      go_wp2_with fail
      go_meet
      case rel => exact ⟨rfl, _, rfl, hx⟩
    · have hd1 : decide ((60 : Int) < (v0.size : Int)) = false := decide_eq_false (by omega)
      have hd2 : decide (60 < v0.size) = false := decide_eq_false (by omega)
      go_wp2_with fail
      go_meet
      case rel => exact ⟨rfl, _, rfl, by omega⟩
  case rest =>
    obtain ⟨hwe, v, rfl, hv⟩ := hcut
    have hwe := hwe.symm
    subst hwe
    have HVS : Hid (v.size < 2 ^ 62) := Lib.hid (by omega)
    have HAZ : Hid (a.size ≤ 90) := Lib.hid (by omega)
    have HBZ : Hid (b.size ≤ 90) := Lib.hid (by omega)
    have HAL : Hid ((by' a).length ≤ 90) := Lib.hid (by rw [by_len]; omega)
    have HR := Lib.hid (read_any a w HT.out)
    clear hv ha hbz hd hd' he he'
    go_wp2_with fail
    refine HR.out.mono ?_
    clear HR
    rintro e w1 ⟨hB, hE⟩
    have HB1 := Lib.hid hB
    have HT1 := Lib.hid (HT.out.below HB1.out HG.out)
    clear hB
    cases hca : cons (by' a) with
    | bad lg p =>
      rw [hca] at hE
      subst hE
      clear hca
      have h8 : (((if lg = true then 3 else 8 : Int)) != 0) = true := by cases lg <;> rfl
      generalize (if lg = true then 3 else 8 : Int) = er at *
      go_wp2_with fail
      refine (read_un b w1 HT1.out).mono ?_
      rintro e w2 ⟨v2, a2, er2, rfl, hb⟩
      have HB2 := Lib.hid (HB1.out.trans (hb.mono HB1.out.size))
      have HT2 := Lib.hid (HT.out.below HB2.out HG.out)
      clear hb HB1 HT1
      go_wp2_with fail
      refine (awake9_any w2 HT2.out).mono ?_
      rintro e w3 ⟨rfl, hb⟩
      have HB3 := Lib.hid (HB2.out.trans (hb.mono HB2.out.size))
      clear hb
      go_wp2_with fail
      go_ret
      exact ⟨rfl, HB3.out⟩
    | ok x N R =>
      rw [hca] at hE
      obtain ⟨C1, rfl, hC⟩ := hE
      have HF1 := Lib.hid (fit_cons hca).1
      have HR1 := Lib.hid (fit_cons hca).2.1
      have HCA := Lib.hid hca
      have HC1 := Lib.hid hC
      clear hca hC
      go_wp2_with fail
      refine (read_any b w1 HT1.out).mono ?_
      rintro e w2 ⟨hb, hE⟩
      have HB2 := Lib.hid (HB1.out.trans (hb.mono HB1.out.size))
      have HT2 := Lib.hid (HT.out.below HB2.out HG.out)
      have HC12 := Lib.hid (HC1.out.kept hb)
      clear hb HB1 HT1 HC1
      cases hcb : cons (by' b) with
      | bad lg p =>
        rw [hcb] at hE
        subst hE
        clear hcb
        have h8 : (((if lg = true then 3 else 8 : Int)) != 0) = true := by cases lg <;> rfl
        generalize (if lg = true then 3 else 8 : Int) = er at *
        go_wp2_with fail
        refine (awake9_any w2 HT2.out).mono ?_
        rintro e w3 ⟨rfl, hb⟩
        have HB3 := Lib.hid (HB2.out.trans (hb.mono HB2.out.size))
        clear hb
        go_wp2_with fail
        go_ret
        exact ⟨rfl, HB3.out⟩
      | ok y M S =>
        rw [hcb] at hE
        obtain ⟨C2, rfl, hC⟩ := hE
        have HF2 := Lib.hid (fit_cons hcb).1
        have HR2 := Lib.hid (fit_cons hcb).2.1
        have HC22 := Lib.hid hC
        have HAND := Lib.hid (cons_and (by_lt a) (by_lt b) HCA.out hcb)
        clear hcb hC
        obtain ⟨bx, hbx⟩ : ∃ bx, matchM (Sp.md (parts N R)) (by' v) = bx := ⟨_, rfl⟩
        obtain ⟨by_, hby⟩ : ∃ by_, matchM (Sp.md (parts M S)) (by' v) = by_ := ⟨_, rfl⟩
        have HMX := Lib.hid hbx
        have HMY := Lib.hid hby
        clear hbx hby
        have hno1 : ¬ 9223372036854775807 < a.size + (⟨#[38]⟩ : ByteArray).size := by
          have h5 : (⟨#[38]⟩ : ByteArray).size = 1 := rfl
          have := HAZ.out; omega
        have hno0 : ¬ 9223372036854775807 < (a ++ ⟨#[38]⟩ : ByteArray).size + b.size := by
          rw [ByteArray.size_append]
          have h5 : (⟨#[38]⟩ : ByteArray).size = 1 := rfl
          have := HAZ.out; have := HBZ.out; omega
        go_wp2_with fail
        refine (read_any _ w2 HT2.out).mono ?_
        rintro e wI ⟨hb, hE⟩
        generalize hbt : (a ++ ({ data := #[38] } : ByteArray) ++ b) = t at *
        have hbs : by' t = by' a ++ 38 :: by' b := by
          rw [← hbt, by_catU, by_catU, List.append_assoc, by_amp]; rfl
        clear hbt
        have HBI := Lib.hid (HB2.out.trans (hb.mono HB2.out.size))
        have HC1I := Lib.hid (HC12.out.kept hb)
        have HC2I := Lib.hid (HC22.out.kept hb)
        have HTI := Lib.hid (HT.out.below HBI.out HG.out)
        clear hb HB2 HC12 HC22 HT2 hno1 hno0
        rcases HAND.out with ⟨p, hp⟩ | ⟨z, hz, hz63⟩
        · have hp2 : cons (by' t) = .bad true p := by rw [hbs]; exact hp
          rw [hp2] at hE
          obtain rfl : e = .returned (.tuple #[.pointer none, .int .i64 (p : Nat), .int .i64 3]) := hE
          clear hp hp2 hbs
          have HS2 := Lib.hid (cons_two (by_lt a) HAL.out HCA.out)
          have hno2 : ¬ 9223372036854775807 < (⟨#[33, 33]⟩ : ByteArray).size + a.size := by
            have h5 : (⟨#[33, 33]⟩ : ByteArray).size = 2 := rfl
            have := HAZ.out; omega
          go_wp2_with fail
          refine (read_any _ wI HTI.out).mono ?_
          rintro e wJ ⟨hb, hE⟩
          generalize hbu : (({ data := #[33, 33] } : ByteArray) ++ a) = u at *
          obtain ⟨z2, hz2⟩ := HS2.out
          have hz2 : cons (by' u) = .ok z2 N R := by rw [← hbu, by_catU, by_two]; exact hz2
          clear hbu
          rw [hz2] at hE
          obtain ⟨C4, rfl, hC4⟩ := hE
          have HBJ := Lib.hid (HBI.out.trans (hb.mono HBI.out.size))
          have HC1J := Lib.hid (HC1I.out.kept hb)
          have HC4J := Lib.hid hC4
          clear hb hC4 hz2 HBI HC1I HTI HS2 hno2
          go_wp2_with fail
          refine (match_any C4 _ v wJ HC4J.out HF1.out HVS.out).mono ?_
          rintro e wK ⟨rfl, hb⟩
          rw [HMX.out]
          have HBK := Lib.hid (HBJ.out.trans (hb.mono HBJ.out.size))
          have HC1K := Lib.hid (HC1J.out.kept hb)
          clear hb HBJ HC1J HC4J
          go_wp2_with fail
          refine (match_any C1 _ v wK HC1K.out HF1.out HVS.out).mono ?_
          rintro e wL ⟨rfl, hb⟩
          rw [HMX.out]
          have HBL := Lib.hid (HBK.out.trans (hb.mono HBK.out.size))
          have HC1L := Lib.hid (HC1K.out.kept hb)
          clear hb HBK HC1K
          have hxx : (bx != bx) = false := by simp
          go_wp2_with fail
          go_loopw [19] (fun i wr => ∃ j : Nat, i = .int .i64 j ∧ j ≤ a.size ∧ wr = wL ∧ Hid (∀ k, k < j → pk (by' a) k ≠ 38)) (fun i _ => ((a.size : Int) - intOf i).toNat)
          case atStart => exact ⟨0, rfl, Nat.zero_le _, by first | rfl | trivial, Lib.hid (fun k hk => by omega)⟩
          case round =>
            obtain ⟨j, rfl, hj, hwe, HNO⟩ := hrel
            subst hwe
            by_cases hlt : j < a.size
            · have hdd : decide ((j : Int) < (a.size : Int)) = true := decide_eq_true (by omega)
              have hd2 : decide (j < a.size) = true := decide_eq_true hlt
              have hix : ∀ w, (Instr.index 9 (.string a) (.int .i64 (j : Int))).run Tryd.prog w = .ok (.int .u8 (pk (by' a) j : Nat)) w := fun w => index_by a j _ rfl hlt w
              by_cases h38 : pk (by' a) j = 38
              · have hq : (((pk (by' a) j : Nat) : Int) == 38) = true := by rw [h38]; rfl
                generalize pk (by' a) j = c at *
                clear h38
                have HTW := Lib.hid (HT.out.below HBL.out HG.out)
                go_wp2_with fail
                refine (awake9_any wr HTW.out).mono ?_
                rintro e wM ⟨rfl, hb⟩
                have HBM := Lib.hid (HBL.out.trans (hb.mono HBL.out.size))
                clear hb
                go_wp2_with fail
                go_ret
                exact ⟨rfl, HBM.out⟩
              · have hq : (((pk (by' a) j : Nat) : Int) == 38) = false := by rw [beq_eq_false_iff_ne]; omega
                have HN2 : Hid (∀ k, k < j + 1 → pk (by' a) k ≠ 38) := Lib.hid (fun k hk => by
                  by_cases e : k = j
                  · subst e; exact h38
                  · exact HNO.out k (by omega))
                have HW1 : Hid (wrap64 ((j : Int) + 1) = ((j + 1 : Nat) : Int)) := Lib.hid (by have := HAZ.out; unfold wrap64; omega)
                generalize pk (by' a) j = c at *
                clear h38
                go_wp2_with fail
                go_roundw
                case rel => exact ⟨j + 1, by rw [HW1.out], hlt, by first | rfl | trivial, HN2⟩
                case measure => rw [HW1.out]; exact meas2 hlt
            · have hdd : decide ((j : Int) < (a.size : Int)) = false := decide_eq_false (by omega)
              have hd2 : decide (j < a.size) = false := decide_eq_false hlt
              have hje : j = a.size := by omega
              have h38 : ∀ c ∈ by' a, c ≠ 38 := by
                intro c hc
                obtain ⟨k, hk, e⟩ := List.mem_iff_getElem.1 hc
                have h5 := HNO.out k (by have h6 := by_len a; omega)
                unfold pk at h5
                rw [List.getD_eq_getElem?_getD, List.getElem?_eq_getElem hk, Option.getD_some, e] at h5
                exact h5
              have HONE := Lib.hid (cons_one (by_lt a) HCA.out h38)
              have HS3 := Lib.hid (cons_not (by_lt a) HAL.out HCA.out h38)
              have hno3 : ¬ 9223372036854775807 < (⟨#[33]⟩ : ByteArray).size + a.size := by
                have h5 : (⟨#[33]⟩ : ByteArray).size = 1 := rfl
                have := HAZ.out; omega
              have HTW := Lib.hid (HT.out.below HBL.out HG.out)
              clear h38
              go_wp2_with fail
              refine (read_any _ wr HTW.out).mono ?_
              rintro e wM ⟨hb, hE⟩
              generalize hbu : (({ data := #[33] } : ByteArray) ++ a) = u2 at *
              obtain ⟨z3, hz3⟩ := HS3.out
              have hz4 : cons (by' u2) = .ok z3 N (R.map fun p => (p.1, !p.2)) := by rw [← hbu, by_catU, by_not]; exact hz3
              clear hbu
              rw [hz4] at hE
              obtain ⟨C5, rfl, hC5⟩ := hE
              have HF5 := Lib.hid (fit_cons hz4).1
              have HM5 : Hid (matchM (Sp.md (parts N (R.map fun p => (p.1, !p.2)))) (by' v) = !bx) := Lib.hid (by
                have h6 := HF5.out.s
                rw [parts_flip] at h6 ⊢
                rw [match_not (by unfold parts; rw [List.length_map]; exact HONE.out) HF1.out.s h6, HMX.out])
              have HBM := Lib.hid (HBL.out.trans (hb.mono HBL.out.size))
              have HC1M := Lib.hid (HC1L.out.kept hb)
              have HC5M := Lib.hid hC5
              clear hb hC5 hz3 hz4 HS3 hno3
              go_wp2_with fail
              refine (match_any C5 _ v wM HC5M.out HF5.out HVS.out).mono ?_
              rintro e wN ⟨rfl, hb⟩
              rw [HM5.out]
              have HBN := Lib.hid (HBM.out.trans (hb.mono HBM.out.size))
              have HC1N := Lib.hid (HC1M.out.kept hb)
              clear hb HBM HC1M HC5M
              go_wp2_with fail
              refine (match_any C1 _ v wN HC1N.out HF1.out HVS.out).mono ?_
              rintro e wO ⟨rfl, hb⟩
              rw [HMX.out]
              have HBO := Lib.hid (HBN.out.trans (hb.mono HBN.out.size))
              have HTO := Lib.hid (HT.out.below HBO.out HG.out)
              clear hb HBN HC1N
              cases bx
              all_goals
                go_wp2_with fail
                refine (awake9_any wO HTO.out).mono ?_
                rintro e wP ⟨rfl, hb⟩
                have HBP := Lib.hid (HBO.out.trans (hb.mono HBO.out.size))
                clear hb
                go_wp2_with fail
                go_ret
                exact ⟨rfl, HBP.out⟩
        · have hz2 : cons (by' t) = .ok z (sft N M) (R ++ shP N.length S) := by rw [hbs]; exact hz
          rw [hz2] at hE
          obtain ⟨C3, rfl, hC⟩ := hE
          have HF3 := Lib.hid (fit_cons hz2).1
          have HMZ : Hid (matchM (Sp.md (parts (sft N M) (R ++ shP N.length S))) (by' v) = (bx && by_)) := Lib.hid (by
            have h6 := HF3.out.s
            rw [parts_sft HR1.out HR2.out] at h6 ⊢
            rw [match_and h6 HF1.out.s HF2.out.s, HMX.out, HMY.out])
          have HC3I := Lib.hid hC
          clear hC hz hz2 hz63 hbs
          go_wp2_with fail
          refine (match_any C3 _ v wI HC3I.out HF3.out HVS.out).mono ?_
          rintro e w4 ⟨rfl, hb⟩
          rw [HMZ.out]
          have HB4 := Lib.hid (HBI.out.trans (hb.mono HBI.out.size))
          have HC14 := Lib.hid (HC1I.out.kept hb)
          have HC24 := Lib.hid (HC2I.out.kept hb)
          clear hb HBI HC1I HC2I HC3I HTI HMZ HF3
          go_wp2_with fail
          refine (match_any C1 _ v w4 HC14.out HF1.out HVS.out).mono ?_
          rintro e w5 ⟨rfl, hb⟩
          rw [HMX.out]
          have HB5 := Lib.hid (HB4.out.trans (hb.mono HB4.out.size))
          have HC15 := Lib.hid (HC14.out.kept hb)
          have HC25 := Lib.hid (HC24.out.kept hb)
          clear hb HB4 HC14 HC24
          cases bx with
          | false =>
            have hz0 : (false && by_) = false := rfl
            rw [hz0]
            have HBI := HB5
            have HC1I := HC15
            have HTI := Lib.hid (HT.out.below HBI.out HG.out)
            clear HB5 HC15 HC25
            generalize w5 = wI at *
            obtain ⟨bx, hbx⟩ : ∃ bx, bx = false := ⟨_, rfl⟩
            rw [← hbx] at HMX
            clear hbx
            have HS2 := Lib.hid (cons_two (by_lt a) HAL.out HCA.out)
            have hno2 : ¬ 9223372036854775807 < (⟨#[33, 33]⟩ : ByteArray).size + a.size := by
              have h5 : (⟨#[33, 33]⟩ : ByteArray).size = 2 := rfl
              have := HAZ.out; omega
            go_wp2_with fail
            refine (read_any _ wI HTI.out).mono ?_
            rintro e wJ ⟨hb, hE⟩
            generalize hbu : (({ data := #[33, 33] } : ByteArray) ++ a) = u at *
            obtain ⟨z2, hz2⟩ := HS2.out
            have hz2 : cons (by' u) = .ok z2 N R := by rw [← hbu, by_catU, by_two]; exact hz2
            clear hbu
            rw [hz2] at hE
            obtain ⟨C4, rfl, hC4⟩ := hE
            have HBJ := Lib.hid (HBI.out.trans (hb.mono HBI.out.size))
            have HC1J := Lib.hid (HC1I.out.kept hb)
            have HC4J := Lib.hid hC4
            clear hb hC4 hz2 HBI HC1I HTI HS2 hno2
            go_wp2_with fail
            refine (match_any C4 _ v wJ HC4J.out HF1.out HVS.out).mono ?_
            rintro e wK ⟨rfl, hb⟩
            rw [HMX.out]
            have HBK := Lib.hid (HBJ.out.trans (hb.mono HBJ.out.size))
            have HC1K := Lib.hid (HC1J.out.kept hb)
            clear hb HBJ HC1J HC4J
            go_wp2_with fail
            refine (match_any C1 _ v wK HC1K.out HF1.out HVS.out).mono ?_
            rintro e wL ⟨rfl, hb⟩
            rw [HMX.out]
            have HBL := Lib.hid (HBK.out.trans (hb.mono HBK.out.size))
            have HC1L := Lib.hid (HC1K.out.kept hb)
            clear hb HBK HC1K
            have hxx : (bx != bx) = false := by simp
            go_wp2_with fail
            go_loopw [19] (fun i wr => ∃ j : Nat, i = .int .i64 j ∧ j ≤ a.size ∧ wr = wL ∧ Hid (∀ k, k < j → pk (by' a) k ≠ 38)) (fun i _ => ((a.size : Int) - intOf i).toNat)
            case atStart => exact ⟨0, rfl, Nat.zero_le _, by first | rfl | trivial, Lib.hid (fun k hk => by omega)⟩
            case round =>
              obtain ⟨j, rfl, hj, hwe, HNO⟩ := hrel
              subst hwe
              by_cases hlt : j < a.size
              · have hdd : decide ((j : Int) < (a.size : Int)) = true := decide_eq_true (by omega)
                have hd2 : decide (j < a.size) = true := decide_eq_true hlt
                have hix : ∀ w, (Instr.index 9 (.string a) (.int .i64 (j : Int))).run Tryd.prog w = .ok (.int .u8 (pk (by' a) j : Nat)) w := fun w => index_by a j _ rfl hlt w
                by_cases h38 : pk (by' a) j = 38
                · have hq : (((pk (by' a) j : Nat) : Int) == 38) = true := by rw [h38]; rfl
                  generalize pk (by' a) j = c at *
                  clear h38
                  have HTW := Lib.hid (HT.out.below HBL.out HG.out)
                  go_wp2_with fail
                  refine (awake9_any wr HTW.out).mono ?_
                  rintro e wM ⟨rfl, hb⟩
                  have HBM := Lib.hid (HBL.out.trans (hb.mono HBL.out.size))
                  clear hb
                  go_wp2_with fail
                  go_ret
                  exact ⟨rfl, HBM.out⟩
                · have hq : (((pk (by' a) j : Nat) : Int) == 38) = false := by rw [beq_eq_false_iff_ne]; omega
                  have HN2 : Hid (∀ k, k < j + 1 → pk (by' a) k ≠ 38) := Lib.hid (fun k hk => by
                    by_cases e : k = j
                    · subst e; exact h38
                    · exact HNO.out k (by omega))
                  have HW1 : Hid (wrap64 ((j : Int) + 1) = ((j + 1 : Nat) : Int)) := Lib.hid (by have := HAZ.out; unfold wrap64; omega)
                  generalize pk (by' a) j = c at *
                  clear h38
                  go_wp2_with fail
                  go_roundw
                  case rel => exact ⟨j + 1, by rw [HW1.out], hlt, by first | rfl | trivial, HN2⟩
                  case measure => rw [HW1.out]; exact meas2 hlt
              · have hdd : decide ((j : Int) < (a.size : Int)) = false := decide_eq_false (by omega)
                have hd2 : decide (j < a.size) = false := decide_eq_false hlt
                have hje : j = a.size := by omega
                have h38 : ∀ c ∈ by' a, c ≠ 38 := by
                  intro c hc
                  obtain ⟨k, hk, e⟩ := List.mem_iff_getElem.1 hc
                  have h5 := HNO.out k (by have h6 := by_len a; omega)
                  unfold pk at h5
                  rw [List.getD_eq_getElem?_getD, List.getElem?_eq_getElem hk, Option.getD_some, e] at h5
                  exact h5
                have HONE := Lib.hid (cons_one (by_lt a) HCA.out h38)
                have HS3 := Lib.hid (cons_not (by_lt a) HAL.out HCA.out h38)
                have hno3 : ¬ 9223372036854775807 < (⟨#[33]⟩ : ByteArray).size + a.size := by
                  have h5 : (⟨#[33]⟩ : ByteArray).size = 1 := rfl
                  have := HAZ.out; omega
                have HTW := Lib.hid (HT.out.below HBL.out HG.out)
                clear h38
                go_wp2_with fail
                refine (read_any _ wr HTW.out).mono ?_
                rintro e wM ⟨hb, hE⟩
                generalize hbu : (({ data := #[33] } : ByteArray) ++ a) = u2 at *
                obtain ⟨z3, hz3⟩ := HS3.out
                have hz4 : cons (by' u2) = .ok z3 N (R.map fun p => (p.1, !p.2)) := by rw [← hbu, by_catU, by_not]; exact hz3
                clear hbu
                rw [hz4] at hE
                obtain ⟨C5, rfl, hC5⟩ := hE
                have HF5 := Lib.hid (fit_cons hz4).1
                have HM5 : Hid (matchM (Sp.md (parts N (R.map fun p => (p.1, !p.2)))) (by' v) = !bx) := Lib.hid (by
                  have h6 := HF5.out.s
                  rw [parts_flip] at h6 ⊢
                  rw [match_not (by unfold parts; rw [List.length_map]; exact HONE.out) HF1.out.s h6, HMX.out])
                have HBM := Lib.hid (HBL.out.trans (hb.mono HBL.out.size))
                have HC1M := Lib.hid (HC1L.out.kept hb)
                have HC5M := Lib.hid hC5
                clear hb hC5 hz3 hz4 HS3 hno3
                go_wp2_with fail
                refine (match_any C5 _ v wM HC5M.out HF5.out HVS.out).mono ?_
                rintro e wN ⟨rfl, hb⟩
                rw [HM5.out]
                have HBN := Lib.hid (HBM.out.trans (hb.mono HBM.out.size))
                have HC1N := Lib.hid (HC1M.out.kept hb)
                clear hb HBM HC1M HC5M
                go_wp2_with fail
                refine (match_any C1 _ v wN HC1N.out HF1.out HVS.out).mono ?_
                rintro e wO ⟨rfl, hb⟩
                rw [HMX.out]
                have HBO := Lib.hid (HBN.out.trans (hb.mono HBN.out.size))
                have HTO := Lib.hid (HT.out.below HBO.out HG.out)
                clear hb HBN HC1N
                cases bx
                all_goals
                  go_wp2_with fail
                  refine (awake9_any wO HTO.out).mono ?_
                  rintro e wP ⟨rfl, hb⟩
                  have HBP := Lib.hid (HBO.out.trans (hb.mono HBO.out.size))
                  clear hb
                  go_wp2_with fail
                  go_ret
                  exact ⟨rfl, HBP.out⟩
          | true =>
            have hz0 : (true && by_) = by_ := rfl
            rw [hz0]
            go_wp2_with fail
            refine (match_any C2 _ v w5 HC25.out HF2.out HVS.out).mono ?_
            rintro e wI ⟨rfl, hb⟩
            rw [HMY.out]
            have HBI := Lib.hid (HB5.out.trans (hb.mono HB5.out.size))
            have HC1I := Lib.hid (HC15.out.kept hb)
            have HTI := Lib.hid (HT.out.below HBI.out HG.out)
            have hyy : (by_ != by_) = false := by simp
            clear hb HB5 HC15 HC25
            obtain ⟨bx, hbx⟩ : ∃ bx, bx = true := ⟨_, rfl⟩
            rw [← hbx] at HMX
            clear hbx
            have HS2 := Lib.hid (cons_two (by_lt a) HAL.out HCA.out)
            have hno2 : ¬ 9223372036854775807 < (⟨#[33, 33]⟩ : ByteArray).size + a.size := by
              have h5 : (⟨#[33, 33]⟩ : ByteArray).size = 2 := rfl
              have := HAZ.out; omega
            go_wp2_with fail
            refine (read_any _ wI HTI.out).mono ?_
            rintro e wJ ⟨hb, hE⟩
            generalize hbu : (({ data := #[33, 33] } : ByteArray) ++ a) = u at *
            obtain ⟨z2, hz2⟩ := HS2.out
            have hz2 : cons (by' u) = .ok z2 N R := by rw [← hbu, by_catU, by_two]; exact hz2
            clear hbu
            rw [hz2] at hE
            obtain ⟨C4, rfl, hC4⟩ := hE
            have HBJ := Lib.hid (HBI.out.trans (hb.mono HBI.out.size))
            have HC1J := Lib.hid (HC1I.out.kept hb)
            have HC4J := Lib.hid hC4
            clear hb hC4 hz2 HBI HC1I HTI HS2 hno2
            go_wp2_with fail
            refine (match_any C4 _ v wJ HC4J.out HF1.out HVS.out).mono ?_
            rintro e wK ⟨rfl, hb⟩
            rw [HMX.out]
            have HBK := Lib.hid (HBJ.out.trans (hb.mono HBJ.out.size))
            have HC1K := Lib.hid (HC1J.out.kept hb)
            clear hb HBJ HC1J HC4J
            go_wp2_with fail
            refine (match_any C1 _ v wK HC1K.out HF1.out HVS.out).mono ?_
            rintro e wL ⟨rfl, hb⟩
            rw [HMX.out]
            have HBL := Lib.hid (HBK.out.trans (hb.mono HBK.out.size))
            have HC1L := Lib.hid (HC1K.out.kept hb)
            clear hb HBK HC1K
            have hxx : (bx != bx) = false := by simp
            go_wp2_with fail
            go_loopw [19] (fun i wr => ∃ j : Nat, i = .int .i64 j ∧ j ≤ a.size ∧ wr = wL ∧ Hid (∀ k, k < j → pk (by' a) k ≠ 38)) (fun i _ => ((a.size : Int) - intOf i).toNat)
            case atStart => exact ⟨0, rfl, Nat.zero_le _, by first | rfl | trivial, Lib.hid (fun k hk => by omega)⟩
            case round =>
              obtain ⟨j, rfl, hj, hwe, HNO⟩ := hrel
              subst hwe
              by_cases hlt : j < a.size
              · have hdd : decide ((j : Int) < (a.size : Int)) = true := decide_eq_true (by omega)
                have hd2 : decide (j < a.size) = true := decide_eq_true hlt
                have hix : ∀ w, (Instr.index 9 (.string a) (.int .i64 (j : Int))).run Tryd.prog w = .ok (.int .u8 (pk (by' a) j : Nat)) w := fun w => index_by a j _ rfl hlt w
                by_cases h38 : pk (by' a) j = 38
                · have hq : (((pk (by' a) j : Nat) : Int) == 38) = true := by rw [h38]; rfl
                  generalize pk (by' a) j = c at *
                  clear h38
                  have HTW := Lib.hid (HT.out.below HBL.out HG.out)
                  go_wp2_with fail
                  refine (awake9_any wr HTW.out).mono ?_
                  rintro e wM ⟨rfl, hb⟩
                  have HBM := Lib.hid (HBL.out.trans (hb.mono HBL.out.size))
                  clear hb
                  go_wp2_with fail
                  go_ret
                  exact ⟨rfl, HBM.out⟩
                · have hq : (((pk (by' a) j : Nat) : Int) == 38) = false := by rw [beq_eq_false_iff_ne]; omega
                  have HN2 : Hid (∀ k, k < j + 1 → pk (by' a) k ≠ 38) := Lib.hid (fun k hk => by
                    by_cases e : k = j
                    · subst e; exact h38
                    · exact HNO.out k (by omega))
                  have HW1 : Hid (wrap64 ((j : Int) + 1) = ((j + 1 : Nat) : Int)) := Lib.hid (by have := HAZ.out; unfold wrap64; omega)
                  generalize pk (by' a) j = c at *
                  clear h38
                  go_wp2_with fail
                  go_roundw
                  case rel => exact ⟨j + 1, by rw [HW1.out], hlt, by first | rfl | trivial, HN2⟩
                  case measure => rw [HW1.out]; exact meas2 hlt
              · have hdd : decide ((j : Int) < (a.size : Int)) = false := decide_eq_false (by omega)
                have hd2 : decide (j < a.size) = false := decide_eq_false hlt
                have hje : j = a.size := by omega
                have h38 : ∀ c ∈ by' a, c ≠ 38 := by
                  intro c hc
                  obtain ⟨k, hk, e⟩ := List.mem_iff_getElem.1 hc
                  have h5 := HNO.out k (by have h6 := by_len a; omega)
                  unfold pk at h5
                  rw [List.getD_eq_getElem?_getD, List.getElem?_eq_getElem hk, Option.getD_some, e] at h5
                  exact h5
                have HONE := Lib.hid (cons_one (by_lt a) HCA.out h38)
                have HS3 := Lib.hid (cons_not (by_lt a) HAL.out HCA.out h38)
                have hno3 : ¬ 9223372036854775807 < (⟨#[33]⟩ : ByteArray).size + a.size := by
                  have h5 : (⟨#[33]⟩ : ByteArray).size = 1 := rfl
                  have := HAZ.out; omega
                have HTW := Lib.hid (HT.out.below HBL.out HG.out)
                clear h38
                go_wp2_with fail
                refine (read_any _ wr HTW.out).mono ?_
                rintro e wM ⟨hb, hE⟩
                generalize hbu : (({ data := #[33] } : ByteArray) ++ a) = u2 at *
                obtain ⟨z3, hz3⟩ := HS3.out
                have hz4 : cons (by' u2) = .ok z3 N (R.map fun p => (p.1, !p.2)) := by rw [← hbu, by_catU, by_not]; exact hz3
                clear hbu
                rw [hz4] at hE
                obtain ⟨C5, rfl, hC5⟩ := hE
                have HF5 := Lib.hid (fit_cons hz4).1
                have HM5 : Hid (matchM (Sp.md (parts N (R.map fun p => (p.1, !p.2)))) (by' v) = !bx) := Lib.hid (by
                  have h6 := HF5.out.s
                  rw [parts_flip] at h6 ⊢
                  rw [match_not (by unfold parts; rw [List.length_map]; exact HONE.out) HF1.out.s h6, HMX.out])
                have HBM := Lib.hid (HBL.out.trans (hb.mono HBL.out.size))
                have HC1M := Lib.hid (HC1L.out.kept hb)
                have HC5M := Lib.hid hC5
                clear hb hC5 hz3 hz4 HS3 hno3
                go_wp2_with fail
                refine (match_any C5 _ v wM HC5M.out HF5.out HVS.out).mono ?_
                rintro e wN ⟨rfl, hb⟩
                rw [HM5.out]
                have HBN := Lib.hid (HBM.out.trans (hb.mono HBM.out.size))
                have HC1N := Lib.hid (HC1M.out.kept hb)
                clear hb HBM HC1M HC5M
                go_wp2_with fail
                refine (match_any C1 _ v wN HC1N.out HF1.out HVS.out).mono ?_
                rintro e wO ⟨rfl, hb⟩
                rw [HMX.out]
                have HBO := Lib.hid (HBN.out.trans (hb.mono HBN.out.size))
                have HTO := Lib.hid (HT.out.below HBO.out HG.out)
                clear hb HBN HC1N
                cases bx
                all_goals
                  go_wp2_with fail
                  refine (awake9_any wO HTO.out).mono ?_
                  rintro e wP ⟨rfl, hb⟩
                  have HBP := Lib.hid (HBO.out.trans (hb.mono HBO.out.size))
                  clear hb
                  go_wp2_with fail
                  go_ret
                  exact ⟨rfl, HBP.out⟩
end Go.Proofs.YtcgllipcnmlkbaaDoor
