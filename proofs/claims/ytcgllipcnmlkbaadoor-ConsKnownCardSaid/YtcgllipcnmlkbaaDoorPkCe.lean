/- ConsKnown. -/
import Derived.Test.YtcgllipcnmlkbaaDoorPkCc
import Derived.Test.YtcgllipcnmlkbaaDoorPkCd
namespace Go.Proofs.YtcgllipcnmlkbaaDoor
open Go.RowKit Sets Tr Rx Sp
open Cn
theorem next_is (C q c : Nat) (m : Sp.Md) (w : World) (r : Int) (h : ConsAt w C m) (hf : Fit m) (hq : decide (q < 2 ^ 64) = true) (hc : decide (c < 256) = true) (hb : ((nextM m q c : Nat) : Int) = r) :
    Calls Tryd.prog 11 #[.pointer (some ⟨C, 0, none⟩), .int .u64 q, .int .u8 c] w fun e w' => e = .returned (.int .u64 r) ∧ Below w.heap.size w w' := by
  subst hb
  exact next_any C q c m w h hf (of_decide_eq_true hq) (of_decide_eq_true hc)
theorem good_is (C q : Nat) (m : Sp.Md) (w : World) (b : Bool) (h : ConsAt w C m) (hf : Fit m) (hq : decide (q < 2 ^ 64) = true) (hb : goodM m q = b) :
    Calls Tryd.prog 13 #[.pointer (some ⟨C, 0, none⟩), .int .u64 q] w fun e w' => e = .returned (.bool b) ∧ Below w.heap.size w w' := by
  subst hb
  exact (good_any C q m w h hf (of_decide_eq_true hq)).mono fun _ _ h => ⟨h.1, h.2 ▸ Below.refl _ _⟩
theorem of_same {f : Nat} {args : Array Value} {w : World} {v : Value} (h : Calls Tryd.prog f args w fun e w' => e = .returned v ∧ w = w') : Calls Tryd.prog f args w fun e w' => e = .returned v ∧ Below w.heap.size w w' :=
  h.mono fun _ _ h => ⟨h.1, h.2 ▸ Below.refl _ _⟩
theorem start_is (C : Nat) (w : World) : Calls Tryd.prog 12 #[.pointer (some ⟨C, 0, none⟩)] w fun e w' => e = .returned (.int .u64 9223372036854775808) ∧ Below w.heap.size w w' := start_any C w
namespace Aw
def C1 : Sp.Md := ⟨[2 ^ 97, 2 ^ 98, 2 ^ 99], [2, 0, 0], [5], [6], [false], [false]⟩
def nD : List Nd := [⟨2, full, 0, 0, 0, 0⟩]
def rD : List (Int × Bool) := [(0, true)]
def D1 : Sp.Md := ⟨[full], [0], [1], [1], [false], [true]⟩
theorem cD : cons (by' ⟨#[33, 46]⟩) = .ok 2 nD rD := by rw [cons_eq (by_lt _)]; kernel_rfl
theorem hD : Tz.rightC nD rD = true := by decide +kernel
theorem mD : Sp.md (parts nD rD) = D1 := by rw [parts_F hD]; kernel_rfl
theorem cE : cons (by' ⟨#[97, 42, 42]⟩) = .bad false 2 := by rw [cons_eq (by_lt _)]; kernel_rfl
theorem nodes0 (w : World) : NodesAt w (.slice none 0 0) [] := ⟨fun x hx => (by cases hx), (by decide), none, 0, rfl, fun i hi => (by cases hi)⟩
theorem parts0 (w : World) : PartsAt w (.slice none 0 0) [] := ⟨fun x hx => (by cases hx), (by decide), none, 0, rfl, fun i hi => (by cases hi)⟩
end Aw
set_option maxHeartbeats 25600000 in
set_option maxRecDepth 100000 in
theorem cknown_any (w : World) (hT : Tab w) : Calls Tryd.prog 3 #[] w fun e w' => e = .returned (.bool true) ∧ Below w.heap.size w w' := by
  have HT := Lib.hid hT
  have HG := Lib.hid (tab_lt hT)
  have HO := Lib.hid (of9_any _ w hT _ _ _ St.c0)
  have HF : Hid (Fit Aw.C1) := Lib.hid (by have := (fit_cons St.c0).1; rw [St.m0] at this; exact this)
  have HFD : Hid (Fit Aw.D1) := Lib.hid (by have := (fit_cons Aw.cD).1; rw [Aw.mD] at this; exact this)
  clear hT
  go_enter Tryd.func3, Tryd.ntmps3
  go_wp2_with fail
  refine HO.out.mono ?_
  clear HO
  rintro e w1 ⟨hB, C, rfl, hC⟩
  rw [St.m0] at hC
  have HB1 := Lib.hid hB
  have HC1 : Hid (ConsAt w1 C Aw.C1) := Lib.hid hC
  have HT1 := Lib.hid (HT.out.below HB1.out HG.out)
  clear hB hC
  go_wp2_with fail
  refine (of9_any _ w1 HT1.out _ _ _ Aw.cD).mono ?_
  rintro e w2 ⟨hB, D, rfl, hD⟩
  rw [Aw.mD] at hD
  have HB2 := Lib.hid (HB1.out.trans (hB.mono HB1.out.size))
  have HC2 := Lib.hid (HC1.out.kept hB)
  have HD2 : Hid (ConsAt w2 D Aw.D1) := Lib.hid hD
  clear hB hD HT1 HB1 HC1
  go_wp2_with fail
  refine (start_is C _).mono ?_
  rintro e w3 ⟨rfl, hb⟩
  have HB3 := Lib.hid (HB2.out.trans (hb.mono HB2.out.size))
  have HC3 := Lib.hid (HC2.out.kept hb)
  have HD3 := Lib.hid (HD2.out.kept hb)
  clear hb HB2 HC2 HD2
  go_wp2_with fail
  refine (next_is C 9223372036854775808 97 Aw.C1 _ 1 HC3.out HF.out (by decide) (by decide) (by decide +kernel)).mono ?_
  rintro e w4 ⟨rfl, hb⟩
  have HB4 := Lib.hid (HB3.out.trans (hb.mono HB3.out.size))
  have HC4 := Lib.hid (HC3.out.kept hb)
  have HD4 := Lib.hid (HD3.out.kept hb)
  clear hb HB3 HC3 HD3
  go_wp2_with fail
  refine (next_is C 1 98 Aw.C1 _ 2 HC4.out HF.out (by decide) (by decide) (by decide +kernel)).mono ?_
  rintro e w5 ⟨rfl, hb⟩
  have HB5 := Lib.hid (HB4.out.trans (hb.mono HB4.out.size))
  have HC5 := Lib.hid (HC4.out.kept hb)
  have HD5 := Lib.hid (HD4.out.kept hb)
  clear hb HB4 HC4 HD4
  go_wp2_with fail
  refine (next_is C 1 97 Aw.C1 _ 0 HC5.out HF.out (by decide) (by decide) (by decide +kernel)).mono ?_
  rintro e w6 ⟨rfl, hb⟩
  have HB6 := Lib.hid (HB5.out.trans (hb.mono HB5.out.size))
  have HC6 := Lib.hid (HC5.out.kept hb)
  have HD6 := Lib.hid (HD5.out.kept hb)
  clear hb HB5 HC5 HD5
  go_wp2_with fail
  refine (good_is C 2 Aw.C1 _ true HC6.out HF.out (by decide) (by decide +kernel)).mono ?_
  rintro e w7 ⟨rfl, hb⟩
  have HB7 := Lib.hid (HB6.out.trans (hb.mono HB6.out.size))
  have HC7 := Lib.hid (HC6.out.kept hb)
  have HD7 := Lib.hid (HD6.out.kept hb)
  clear hb HB6 HC6 HD6
  go_wp2_with fail
  refine (good_is C 1 Aw.C1 _ false HC7.out HF.out (by decide) (by decide +kernel)).mono ?_
  rintro e w8 ⟨rfl, hb⟩
  have HB8 := Lib.hid (HB7.out.trans (hb.mono HB7.out.size))
  have HC8 := Lib.hid (HC7.out.kept hb)
  have HD8 := Lib.hid (HD7.out.kept hb)
  clear hb HB7 HC7 HD7
  go_wp2_with fail
  refine (match_is C Aw.C1 _ _ true HC8.out HF.out (by decide) (by decide +kernel)).mono ?_
  rintro e w9 ⟨rfl, hb⟩
  have HB9 := Lib.hid (HB8.out.trans (hb.mono HB8.out.size))
  have HC9 := Lib.hid (HC8.out.kept hb)
  have HD9 := Lib.hid (HD8.out.kept hb)
  clear hb HB8 HC8 HD8
  go_wp2_with fail
  refine (next_is C 0 97 Aw.C1 _ 0 HC9.out HF.out (by decide) (by decide) (by decide +kernel)).mono ?_
  rintro e w10 ⟨rfl, hb⟩
  have HB10 := Lib.hid (HB9.out.trans (hb.mono HB9.out.size))
  have HC10 := Lib.hid (HC9.out.kept hb)
  have HD10 := Lib.hid (HD9.out.kept hb)
  clear hb HB9 HC9 HD9
  go_wp2_with fail
  refine (start_is C _).mono ?_
  rintro e w11 ⟨rfl, hb⟩
  have HB11 := Lib.hid (HB10.out.trans (hb.mono HB10.out.size))
  have HC11 := Lib.hid (HC10.out.kept hb)
  have HD11 := Lib.hid (HD10.out.kept hb)
  clear hb HB10 HC10 HD10
  go_wp2_with fail
  refine (good_is C 9223372036854775808 Aw.C1 _ false HC11.out HF.out (by decide) (by decide +kernel)).mono ?_
  rintro e w12 ⟨rfl, hb⟩
  have HB12 := Lib.hid (HB11.out.trans (hb.mono HB11.out.size))
  have HC12 := Lib.hid (HC11.out.kept hb)
  have HD12 := Lib.hid (HD11.out.kept hb)
  clear hb HB11 HC11 HD11
  go_wp2_with fail
  refine (next_is C 9223372036854775809 98 Aw.C1 _ 2 HC12.out HF.out (by decide) (by decide) (by decide +kernel)).mono ?_
  rintro e w13 ⟨rfl, hb⟩
  have HB13 := Lib.hid (HB12.out.trans (hb.mono HB12.out.size))
  have HC13 := Lib.hid (HC12.out.kept hb)
  have HD13 := Lib.hid (HD12.out.kept hb)
  clear hb HB12 HC12 HD12
  go_wp2_with fail
  refine (next_is C 1099511627776 98 Aw.C1 _ 0 HC13.out HF.out (by decide) (by decide) (by decide +kernel)).mono ?_
  rintro e w14 ⟨rfl, hb⟩
  have HB14 := Lib.hid (HB13.out.trans (hb.mono HB13.out.size))
  have HC14 := Lib.hid (HC13.out.kept hb)
  have HD14 := Lib.hid (HD13.out.kept hb)
  clear hb HB13 HC13 HD13
  go_wp2_with fail
  refine (match_is D Aw.D1 _ _ true HD14.out HFD.out (by decide) (by decide +kernel)).mono ?_
  rintro e w15 ⟨rfl, hb⟩
  have HB15 := Lib.hid (HB14.out.trans (hb.mono HB14.out.size))
  have HC15 := Lib.hid (HC14.out.kept hb)
  have HD15 := Lib.hid (HD14.out.kept hb)
  clear hb HB14 HC14 HD14
  go_wp2_with fail
  refine (match_is D Aw.D1 _ _ false HD15.out HFD.out (by decide) (by decide +kernel)).mono ?_
  rintro e w16 ⟨rfl, hb⟩
  have HB16 := Lib.hid (HB15.out.trans (hb.mono HB15.out.size))
  have HC16 := Lib.hid (HC15.out.kept hb)
  have HD16 := Lib.hid (HD15.out.kept hb)
  clear hb HB15 HC15 HD15
  go_wp2_with fail
  refine (match_is D Aw.D1 _ _ true HD16.out HFD.out (by decide) (by decide +kernel)).mono ?_
  rintro e w17 ⟨rfl, hb⟩
  have HB17 := Lib.hid (HB16.out.trans (hb.mono HB16.out.size))
  have HC17 := Lib.hid (HC16.out.kept hb)
  have HD17 := Lib.hid (HD16.out.kept hb)
  clear hb HB16 HC16 HD16
  go_wp2_with fail
  refine (start_is D _).mono ?_
  rintro e w18 ⟨rfl, hb⟩
  have HB18 := Lib.hid (HB17.out.trans (hb.mono HB17.out.size))
  have HC18 := Lib.hid (HC17.out.kept hb)
  have HD18 := Lib.hid (HD17.out.kept hb)
  clear hb HB17 HC17 HD17
  go_wp2_with fail
  refine (next_is D 9223372036854775808 97 Aw.D1 _ 1 HD18.out HFD.out (by decide) (by decide) (by decide +kernel)).mono ?_
  rintro e w19 ⟨rfl, hb⟩
  have HB19 := Lib.hid (HB18.out.trans (hb.mono HB18.out.size))
  have HC19 := Lib.hid (HC18.out.kept hb)
  have HD19 := Lib.hid (HD18.out.kept hb)
  clear hb HB18 HC18 HD18
  go_wp2_with fail
  refine (csets_any D Aw.D1 w19 HD19.out HFD.out).mono ?_
  rintro e w20 ⟨v', rfl, ho, hb⟩
  obtain ⟨qa, qc, hv⟩ := own_slice ho
  subst hv
  have HB20 := Lib.hid (HB19.out.trans (hb.mono HB19.out.size))
  clear hb ho HB19 HC19 HD19
  have hl1 : ((Aw.D1.s.length : Int) != 1) = false := rfl
  have HT20 := Lib.hid (HT.out.below HB20.out HG.out)
  go_wp2_with fail
  refine (read_any _ w20 HT20.out).mono ?_
  rintro e w21 ⟨hb, hE⟩
  rw [Aw.cE] at hE
  obtain rfl : e = .returned (.tuple #[.pointer none, .int .i64 2, .int .i64 8]) := hE
  have HB21 := Lib.hid (HB20.out.trans (hb.mono HB20.out.size))
  clear hb HB20 HT20 hl1
  have HT21 := Lib.hid (HT.out.below HB21.out HG.out)
  go_wp2_with fail
  refine (new_any' _ _ [] [] w21 (Aw.nodes0 _) (Aw.parts0 _) HT21.out).mono ?_
  rintro e w22 ⟨hb, hE⟩
  have hr : rightB [] [] = false := by
    cases hh : rightB [] [] with
    | false => rfl
    | true => have := (rightB_iff.1 hh).few.1; simp at this
  rw [hr] at hE
  obtain rfl : e = .returned (.tuple #[.pointer none, .int .i64 8]) := by
    rcases hE with ⟨-, h⟩ | ⟨h, -⟩ | ⟨h, -⟩
    · exact h
    · cases h
    · cases h
  have HB22 := Lib.hid (HB21.out.trans (hb.mono HB21.out.size))
  clear hb hE hr HB21 HT21
  go_wp2_with fail
  refine (start_nil _).mono ?_
  rintro e w23 ⟨rfl, hb⟩
  have HB23 := Lib.hid (HB22.out.trans (hb.mono HB22.out.size))
  clear hb HB22
  go_wp2_with fail
  refine (of_same (next_nil 1 97 _)).mono ?_
  rintro e w24 ⟨rfl, hb⟩
  have HB24 := Lib.hid (HB23.out.trans (hb.mono HB23.out.size))
  clear hb HB23
  go_wp2_with fail
  refine (of_same (good_nil 0 _)).mono ?_
  rintro e w25 ⟨rfl, hb⟩
  have HB25 := Lib.hid (HB24.out.trans (hb.mono HB24.out.size))
  clear hb HB24
  go_wp2_with fail
  refine (match_nil _ rfl _).mono ?_
  rintro e w26 ⟨rfl, hb⟩
  have HB26 := Lib.hid (HB25.out.trans (hb.mono HB25.out.size))
  clear hb HB25
  go_wp2_with fail
  refine (of_same (csets_nil _)).mono ?_
  rintro e w27 ⟨rfl, hb⟩
  have HB27 := Lib.hid (HB26.out.trans (hb.mono HB26.out.size))
  clear hb HB26
  go_wp2_with fail
  refine (of_same (places_nil _)).mono ?_
  rintro e w28 ⟨rfl, hb⟩
  have HB28 := Lib.hid (HB27.out.trans (hb.mono HB27.out.size))
  clear hb HB27
  have HTz := Lib.hid (HT.out.below HB28.out HG.out)
  go_wp2_with fail
  refine (awake9_any _ HTz.out).mono ?_
  rintro e w29 ⟨rfl, hb⟩
  have HB29 := Lib.hid (HB28.out.trans (hb.mono HB28.out.size))
  clear hb HB28
  go_wp2_with fail
  go_ret
  exact ⟨rfl, HB29.out⟩
end Go.Proofs.YtcgllipcnmlkbaaDoor
