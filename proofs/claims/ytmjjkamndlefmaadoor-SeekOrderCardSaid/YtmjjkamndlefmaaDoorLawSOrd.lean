/- SeekOrder holds: of any three texts the call answers true. No condition. -/
import Derived.Test.YtmjjkamndlefmaaDoorPqS6
import Derived.Test.YtmjjkamndlefmaaDoorPq43
import Derived.Test.YtmjjkamndlefmaaDoorPq02
import Derived.Test.YtmjjkamndlefmaaDoorRows
import Derived.Lay
import Derived.Lib.LaidU8
import Derived.MakeChecks
import Derived.OpenShut
import Derived.Test.YtmjjkamndlefmaaDoorTie
import Derived.Test.YtmjjkamndlefmaaDoorCards
import Derived.SevenTiedAt
import Derived.WalkKit
import Derived.ProofKit
import Derived.ShutString
namespace Go.Proofs.YtmjjkamndlefmaaDoor
open Go.RowKit Sets Nf Df Cls
namespace Sk
theorem eq_bs (a b : ByteArray) : (a.toList == b.toList) = (!ls (Nf.bs a) (Nf.bs b) && !ls (Nf.bs b) (Nf.bs a)) := by
  have h1 : (a.toList == b.toList) = true ↔ a = b := by
    rw [ByteArray.toList_eq, ByteArray.toList_eq, beq_iff_eq]
    constructor
    · intro h; cases a; cases b; simp only [ByteArray.mk.injEq]; exact Array.toList_inj.1 h
    · rintro rfl; rfl
  have h2 : (!ls (Nf.bs a) (Nf.bs b) && !ls (Nf.bs b) (Nf.bs a)) = true ↔ a = b := by
    rw [Bool.and_eq_true, Bool.not_eq_true', Bool.not_eq_true']
    constructor
    · rintro ⟨h3, h4⟩; exact bs_inj (ls_tot h3 h4)
    · rintro rfl; exact ⟨ls_irr _, ls_irr _⟩
  cases hx : (a.toList == b.toList) with
  | true => exact ((h2.2 (h1.1 hx))).symm
  | false =>
    cases hy : (!ls (Nf.bs a) (Nf.bs b) && !ls (Nf.bs b) (Nf.bs a)) with
    | false => rfl
    | true => have := h1.2 (h2.1 hy); rw [hx] at this; cases this
set_option maxHeartbeats 12800000 in
set_option maxRecDepth 100000 in
theorem sord_any (a b c : ByteArray) (w : World) (hT : Tab w) : Calls Tryd.prog 8 #[.string a, .string b, .string c] w fun e w' => e = .returned (.bool true) ∧ Below w.heap.size w w' := by
  have HAW := Lib.hid (awake13_any w hT)
  clear hT
  go_enter Tryd.func8, Tryd.ntmps8
  by_cases hbig : 300 < a.size ∨ 300 < b.size ∨ 300 < c.size
  · by_cases ha : 300 < a.size
    · have d1 : decide ((300 : Int) < (a.size : Int)) = true := decide_eq_true (by omega)
      have e1 : decide (300 < a.size) = true := decide_eq_true ha
      clear ha hbig
      go_wp2_with (go_at_call 10; refine HAW.out.mono ?_; rintro e w1 ⟨rfl, hb⟩; have HB := Lib.hid hb; clear hb)
      go_ret
      exact ⟨rfl, HB.out⟩
    · have d1 : decide ((300 : Int) < (a.size : Int)) = false := decide_eq_false (by omega)
      have e1 : decide (300 < a.size) = false := decide_eq_false ha
      by_cases hb : 300 < b.size
      · have d2 : decide ((300 : Int) < (b.size : Int)) = true := decide_eq_true (by omega)
        have e2 : decide (300 < b.size) = true := decide_eq_true hb
        clear ha hb hbig
        go_wp2_with (go_at_call 10; refine HAW.out.mono ?_; rintro e w1 ⟨rfl, hb⟩; have HB := Lib.hid hb; clear hb)
        go_ret
        exact ⟨rfl, HB.out⟩
      · have d2 : decide ((300 : Int) < (b.size : Int)) = false := decide_eq_false (by omega)
        have e2 : decide (300 < b.size) = false := decide_eq_false hb
        have hc : 300 < c.size := by omega
        have d3 : decide ((300 : Int) < (c.size : Int)) = true := decide_eq_true (by omega)
        have e3 : decide (300 < c.size) = true := decide_eq_true hc
        clear ha hb hc hbig
        go_wp2_with (go_at_call 10; refine HAW.out.mono ?_; rintro e w1 ⟨rfl, hb⟩; have HB := Lib.hid hb; clear hb)
        go_ret
        exact ⟨rfl, HB.out⟩
  · have d1 : decide ((300 : Int) < (a.size : Int)) = false := decide_eq_false (by omega)
    have e1 : decide (300 < a.size) = false := decide_eq_false (by omega)
    have d2 : decide ((300 : Int) < (b.size : Int)) = false := decide_eq_false (by omega)
    have e2 : decide (300 < b.size) = false := decide_eq_false (by omega)
    have d3 : decide ((300 : Int) < (c.size : Int)) = false := decide_eq_false (by omega)
    have e3 : decide (300 < c.size) = false := decide_eq_false (by omega)
    clear hbig
    have HAB := Lib.hid (less_any a b w)
    have HBA := Lib.hid (less_any b a w)
    have HBC := Lib.hid (less_any b c w)
    have HAC := Lib.hid (less_any a c w)
    have F1 := Lib.hid (@ls_asym (Nf.bs a) (Nf.bs b))
    have hE := eq_bs a b
    have F3 := Lib.hid (@ls_trans (Nf.bs a) (Nf.bs b) (Nf.bs c))
    have F4 : Hid (a.size = b.size ∨ ls (Nf.bs a) (Nf.bs b) = decide (a.size < b.size)) := Lib.hid (by
      by_cases h : a.size = b.size
      · exact .inl h
      · refine .inr ?_
        unfold ls
        rw [bs_len, bs_len, if_neg h])
    generalize ls (Nf.bs a) (Nf.bs b) = lab at *
    generalize ls (Nf.bs b) (Nf.bs a) = lba at *
    generalize ls (Nf.bs b) (Nf.bs c) = lbc at *
    generalize ls (Nf.bs a) (Nf.bs c) = lac at *
    have HEQ := Lib.hid hE
    clear hE
    have hF : (lab = true ∧ lba = true) ∨ (lab = true ∧ lba = false ∧ lbc = true ∧ lac = false) ∨ ¬ ((lab = true ∧ lba = true) ∨ (lab = true ∧ lba = false ∧ lbc = true ∧ lac = false)) := by
      cases lab <;> cases lba <;> cases lbc <;> cases lac <;> simp
    rcases hF with ⟨rfl, rfl⟩ | ⟨rfl, rfl, rfl, rfl⟩ | hF
    · exact absurd (F1.out rfl) (by decide)
    · exact absurd (F3.out rfl rfl) (by decide)
    · clear F1 F3
      by_cases hsz : a.size = b.size
      · have d5 : ((a.size : Int) == (b.size : Int)) = true := by rw [beq_iff_eq]; omega
        clear F4 hsz
        cases lab <;> cases lba <;> cases lbc <;> cases lac <;> first
          | (exfalso; apply hF; simp; done)
          | (first
               | have hE : (a.toList == b.toList) = true := HEQ.out
               | have hE : (a.toList == b.toList) = false := HEQ.out
             clear hF
             go_wp2_with (first
               | (go_at_call 11; with_reducible refine HAB.out.mono ?_; rintro e w1 ⟨rfl, rfl⟩)
               | (go_at_call 11; with_reducible refine HBA.out.mono ?_; rintro e w1 ⟨rfl, rfl⟩)
               | (go_at_call 11; with_reducible refine HBC.out.mono ?_; rintro e w1 ⟨rfl, rfl⟩)
               | (go_at_call 11; with_reducible refine HAC.out.mono ?_; rintro e w1 ⟨rfl, rfl⟩)
               | (go_at_call 10; refine HAW.out.mono ?_; rintro e w1 ⟨rfl, hb⟩; have HB := Lib.hid hb; clear hb))
             go_ret
             exact ⟨rfl, HB.out⟩)
      · have d5 : ((a.size : Int) == (b.size : Int)) = false := by rw [beq_eq_false_iff_ne]; omega
        have hl := F4.out.resolve_left hsz
        have d6 : decide ((a.size : Int) < (b.size : Int)) = lab := by rw [hl]; by_cases h : a.size < b.size <;> simp [h]
        have d7 : decide (a.size < b.size) = lab := hl.symm
        clear F4 hsz hl
        cases lab <;> cases lba <;> cases lbc <;> cases lac <;> first
          | (exfalso; apply hF; simp; done)
          | (first
               | have hE : (a.toList == b.toList) = true := HEQ.out
               | have hE : (a.toList == b.toList) = false := HEQ.out
             clear hF
             go_wp2_with (first
               | (go_at_call 11; with_reducible refine HAB.out.mono ?_; rintro e w1 ⟨rfl, rfl⟩)
               | (go_at_call 11; with_reducible refine HBA.out.mono ?_; rintro e w1 ⟨rfl, rfl⟩)
               | (go_at_call 11; with_reducible refine HBC.out.mono ?_; rintro e w1 ⟨rfl, rfl⟩)
               | (go_at_call 11; with_reducible refine HAC.out.mono ?_; rintro e w1 ⟨rfl, rfl⟩)
               | (go_at_call 10; refine HAW.out.mono ?_; rintro e w1 ⟨rfl, hb⟩; have HB := Lib.hid hb; clear hb))
             go_ret
             exact ⟨rfl, HB.out⟩)
end Sk
end Go.Proofs.YtmjjkamndlefmaaDoor
namespace Go.Proofs.YtmjjkamndlefmaaDoor
theorem own : ownKnob Tryd.prog.godebug = none := by kernel_rfl
theorem laidOut : laidOutB Tryd.prog = true := by kernel_rfl
end Go.Proofs.YtmjjkamndlefmaaDoor
namespace Go.Proofs.YtmjjkamndlefmaaDoor
open Go.ChangeShapes Go.WideShapes Go.ChangeAt Go.WideMaps Go.WideElems Go.RowKit Sets
def laidT : List (String × DataW Unit) := Rows.seekOrderRow.laid
theorem laid_list : (Rows.laid_math_bits_deBruijn64tab : DataW Unit) = .agg (Lib.deBruijn64tab.map fun (n : Nat) => .lit (.int .u8 n)) := rfl
theorem of_laid {W : World} (h : laidMetH Tryd.prog laidT W) : Tab W := by
  rw [MakeChecks.laidMetH_plain _ _ _ (by kernel_rfl)] at h
  have hu := Lib.laidMet.reads h (n := "math/bits.deBruijn64tab") (d := Rows.laid_math_bits_deBruijn64tab) (by unfold laidT Rows.seekOrderRow; simp)
  obtain ⟨g0, t0, cs0, f0, p0, hg0, ht0, hv0, hd0⟩ := hu
  obtain rfl := Option.some.inj ((show Tryd.prog.globalNamed "math/bits.deBruijn64tab" = some 0 by kernel_rfl).symm.trans hg0)
  obtain rfl := Option.some.inj ((show (Tryd.prog.globals[0]?).map (·.type) = some 148 by kernel_rfl).symm.trans ht0)
  have ce : Tryd.prog.cellsOf 5 = 1 := by kernel_rfl
  have hcell := fun j => World.var?_cell hg0 hv0 j
  rw [laid_list] at hd0
  intro i hi
  have hi64 : i < 64 := hi
  obtain ⟨fu, d, q, hd1, hd2⟩ := Lib.array_elem Tryd.underlying148 hd0 i hi64
  rw [ce] at hd2
  rw [List.getElem?_map, List.getElem?_eq_getElem hi] at hd1
  simp only [Option.map_some, Option.some.injEq] at hd1
  subst hd1
  obtain ⟨n, e1, e2, -⟩ := DataW.trod_int Tryd.underlying5 hd2
  simp only [Prod.mk.injEq, DataW.lit.injEq, Lit.int.injEq] at e2
  have e0 := congrArg (·[0]?) e1
  simp [List.getElem?_drop] at e0
  rw [hcell, List.getD_eq_getElem?_getD, List.getElem?_eq_getElem hi, Option.getD_some, e2.1.2]
  simpa using e0
end Go.Proofs.YtmjjkamndlefmaaDoor
namespace Go.Proofs.YtmjjkamndlefmaaDoor
open Go.ChangeShapes Go.WideShapes Go.ChangeAt Go.WideMaps Go.WideElems Go.RowKit
open Go.ChangeMaps (open_string shut_string)
namespace LawSOrd
set_option maxRecDepth 100000 in
theorem lifted (os : Os) (started : os.Started) (H : Type) (enc : TypeId × Value → H) :
    ReturnsInHanded {} Tryd.checked os 8 .any (fun w args => (Rows.seekOrderSpec.pre enc Tryd.prog Tryd.f8 [] false w args ∧ laidMetH Tryd.prog laidT w) ∧ sizedMet enc Tryd.prog Tryd.f8 (OpenSpec.ofChange Rows.seekOrderSpec) false w args)
      (Rows.seekOrderSpec.post enc Tryd.prog Tryd.f8 false true false false) := by
  refine returnsInHanded_of_change_and (C := Tryd.checked) (X := fun w _ => laidMetH Tryd.prog laidT w) (fun _ _ _ hh h => h.of_heap hh) own started (by kernel_rfl) Tryd.func8
    (ChangeSpec.witness_shaped (enc := enc) (C := Tryd.checked) (os := os) (X := fun w _ => laidMetH Tryd.prog laidT w) false (World.laidAll Tryd.prog os laidT) #[.string ByteArray.empty, .string ByteArray.empty, .string ByteArray.empty] 8 (World.laidAll_os _ _ _) (World.shaped_of_ZipB (by kernel_rfl) (by kernel_rfl)) (by kernel_rfl) (by kernel_rfl) (by kernel_rfl)
      (by rw [MakeChecks.laidMetH_plain _ _ _ (by kernel_rfl)]; exact laidMet_laidAll _ (by kernel_rfl) (by kernel_rfl))) ?_
  intro W base args ds gs before hval0 hW _ _ hL _
  have hval : ∀ (j : Nat) t v, Tryd.f8.params[j]? = some t → args[j]? = some v → Value.okWide Tryd.prog W .any base t v := hval0
  have hW' := hW
  obtain ⟨p, q, hA0, hV, rfl, hfz, hnd⟩ := hW
  have hA : DataW.TrodAll enc Tryd.prog W 0 (fun _ => true) true Tryd.f8.params.toList args.toList ds p := hA0
  rw [Tryd.params8] at hA hval
  obtain ⟨v0, vs0, d0, ds0, p0, q0, hargs, rfl, rfl, h0, r0⟩ := trodAll_cons hA
  obtain ⟨v1, vs1, d1, ds1, p1, q1, rfl, rfl, rfl, h1, r1⟩ := trodAll_cons r0
  obtain ⟨v2, vs2, d2, ds2, p2, q2, rfl, rfl, rfl, h2, r2⟩ := trodAll_cons r1
  obtain ⟨rfl, rfl, rfl⟩ := trodAll_nil r2
  obtain rfl : args = #[v0, v1, v2] := by cases args; simp_all
  obtain ⟨rfl, rfl⟩ := trodVars_none hV
  obtain ⟨s0, rfl, -, -, w0⟩ := open_string Tryd.underlying9 (hval 0 _ v0 rfl rfl) h0
  obtain ⟨s1, rfl, -, -, w1⟩ := open_string Tryd.underlying9 (hval 1 _ v1 rfl rfl) h1
  obtain ⟨s2, rfl, -, -, w2⟩ := open_string Tryd.underlying9 (hval 2 _ v2 rfl rfl) h2
  have hT := of_laid hL
  refine (Sk.sord_any s0 s1 s2 W hT).mono fun e W' ⟨he, hb⟩ => ?_
  subst he
  exact ⟨_, rfl, post_law hW' rfl laidOut (by kernel_rfl) (by kernel_rfl) Tryd.underlying4 rfl hb⟩
theorem law_holds : Rows.SeekOrderSaid :=
  OpenClaim.holds_of_wide 8 Tryd.f8 rfl rfl rfl rfl rfl rfl rfl ⟨rfl, rfl, rfl, rfl, rfl⟩ rfl rfl rfl rfl rfl (by kernel_rfl) Tryd.func8 (by kernel_rfl)
    (of_decide_eq_true (by kernel_rfl)) (by unfold Func.isWrapper; first | (rw [if_pos (by decide +kernel)]; kernel_rfl) | (rw [if_neg (by decide +kernel)]; exact ⟨rfl, rfl⟩))
    (fun os started H enc _ => lifted os started H enc)
theorem card_holds : Rows.SeekOrderCardSaid :=
  Claim7.holds_tied_plain_at .later [] [.data] true (true, "5ae6efb057a676888604708a25ee45a9dc5ee2ee62c2315df0fcae417ffdc528") false
    law_holds (fun _ h => by cases h) (by kernel_rfl) (fun _ h => by cases h) seekOrder_row_tie rfl ⟨rfl, rfl⟩ (by kernel_rfl) rfl
    (fun f fn hf hfn => by
      obtain rfl : f = 8 := Option.some.inj ((show Tryd.prog.funcNamed "shibboleth/shibbolethlaw13.SeekOrder" = some 8 by kernel_rfl).symm.trans hf) |>.symm
      obtain rfl : fn = Tryd.f8 := (Option.some.inj (Tryd.func8.symm.trans hfn)).symm
      exact ⟨by kernel_rfl, fun j t ht => by
        have hm := Array.mem_of_getElem? ht
        have hall : ((Tryd.f8.params).all fun u => !Tryd.prog.wantsStandIn u) = true := by kernel_rfl
        show Tryd.prog.wantsStandIn t = false
        simpa using Array.all_eq_true_iff_forall_mem.1 hall t hm⟩)
    (by kernel_rfl)
#print axioms card_holds
end LawSOrd
end Go.Proofs.YtmjjkamndlefmaaDoor
