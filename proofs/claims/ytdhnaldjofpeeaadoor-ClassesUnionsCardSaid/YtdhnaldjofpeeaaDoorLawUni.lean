/- ClassesUnions holds: of any sets and any more sets the call answers true. No condition. -/
import Derived.Test.YtdhnaldjofpeeaaDoorUni
import Derived.Test.YtdhnaldjofpeeaaDoorOpenS
import Derived.Test.YtdhnaldjofpeeaaDoorLaid
import Derived.Test.YtdhnaldjofpeeaaDoorTie
import Derived.Test.YtdhnaldjofpeeaaDoorCards
import Derived.SevenTiedAt
namespace Go.Proofs.YtdhnaldjofpeeaaDoor
open Go.ChangeShapes Go.WideShapes Go.ChangeAt Go.WideMaps Go.WideElems Go.RowKit Sets
namespace LawUni
set_option maxRecDepth 100000 in
theorem lifted (os : Os) (started : os.Started) (H : Type) (enc : TypeId × Value → H) :
    ReturnsInHanded {} Tryd.checked os 6 .any (fun w args => (Rows.classesUnionsSpec.pre enc Tryd.prog Tryd.f6 [] false w args ∧ laidMetH Tryd.prog laidT w) ∧ sizedMet enc Tryd.prog Tryd.f6 (OpenSpec.ofChange Rows.classesUnionsSpec) false w args)
      (Rows.classesUnionsSpec.post enc Tryd.prog Tryd.f6 false true false false) := by
  refine returnsInHanded_of_change_and (C := Tryd.checked) (X := fun w _ => laidMetH Tryd.prog laidT w) (fun _ _ _ hh h => h.of_heap hh) own started (by kernel_rfl) Tryd.func6
    (ChangeSpec.witness_shaped (enc := enc) (C := Tryd.checked) (os := os) (X := fun w _ => laidMetH Tryd.prog laidT w) false (World.doorLaid Tryd.prog 400 os) #[.slice none 0 0, .slice none 0 0] 8 rfl (World.shaped_of_RefB (by kernel_rfl) (by kernel_rfl)) (by kernel_rfl) (by kernel_rfl) (by kernel_rfl) (door_met os _)) ?_
  intro W base args ds gs before hval0 hW _ _ hL _
  have hval : ∀ (j : Nat) t v, Tryd.f6.params[j]? = some t → args[j]? = some v → Value.okWide Tryd.prog W .any base t v := hval0
  have hW' := hW
  obtain ⟨p, q, hA0, hV, rfl, hfz, hnd⟩ := hW
  have hA : DataW.TrodAll enc Tryd.prog W 0 (fun _ => true) true Tryd.f6.params.toList args.toList ds p := hA0
  rw [Tryd.params6] at hA hval
  obtain ⟨v0, v1, d0, d1, p0, p1, rfl, rfl, rfl, h0, h1⟩ := trodAll_two hA
  obtain ⟨rfl, rfl⟩ := trodVars_none hV
  obtain ⟨L0, l0, q0⟩ := open_sets (hval 0 _ v0 rfl rfl) h0
  obtain ⟨L1, l1, q1⟩ := open_sets (hval 1 _ v1 rfl rfl) h1
  obtain ⟨hT, hg⟩ := of_laid hL
  refine (unions_any _ _ L0 L1 W q0 q1 hT hg).mono fun e W' ⟨he, hb⟩ => ?_
  subst he
  exact ⟨_, rfl, post_law hW' rfl laidOut (by kernel_rfl) (by kernel_rfl) Tryd.underlying4 rfl hb⟩
theorem law_holds : Rows.ClassesUnionsSaid :=
  OpenClaim.holds_of_wide 6 Tryd.f6 rfl rfl rfl rfl rfl rfl rfl ⟨rfl, rfl, rfl, rfl, rfl⟩ rfl rfl rfl rfl rfl (by kernel_rfl) Tryd.func6 (by kernel_rfl)
    (of_decide_eq_true (by kernel_rfl)) (by unfold Func.isWrapper; first | (rw [if_pos (by decide +kernel)]; kernel_rfl) | (rw [if_neg (by decide +kernel)]; exact ⟨rfl, rfl⟩))
    (fun os started H enc _ => lifted os started H enc)
theorem card_holds : Rows.ClassesUnionsCardSaid :=
  Claim7.holds_tied_plain_at .later [] [.data] true (true, "c18607268062fbb40788e984cdf95477ff045d1dfe50deca1cb3512b6cca2247") false
    law_holds (fun _ h => by cases h) (by kernel_rfl) (fun _ h => by cases h) classesUnions_row_tie rfl ⟨rfl, rfl⟩ (by kernel_rfl) rfl
    (fun f fn hf hfn => by
      obtain rfl : f = 6 := Option.some.inj ((show Tryd.prog.funcNamed "shibboleth/shibbolethlaw02.ClassesUnions" = some 6 by kernel_rfl).symm.trans hf) |>.symm
      obtain rfl : fn = Tryd.f6 := (Option.some.inj (Tryd.func6.symm.trans hfn)).symm
      exact ⟨by kernel_rfl, fun j t ht => by
        have hm := Array.mem_of_getElem? ht
        have hall : ((Tryd.f6.params).all fun u => !Tryd.prog.wantsStandIn u) = true := by kernel_rfl
        show Tryd.prog.wantsStandIn t = false
        simpa using Array.all_eq_true_iff_forall_mem.1 hall t hm⟩)
    (by kernel_rfl)
#print axioms card_holds
end LawUni
end Go.Proofs.YtdhnaldjofpeeaaDoor
