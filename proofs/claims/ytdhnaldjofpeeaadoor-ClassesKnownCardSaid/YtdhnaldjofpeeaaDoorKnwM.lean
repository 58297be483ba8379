/- The law ClassesKnown, walked. -/
import Derived.Test.YtdhnaldjofpeeaaDoorFew
namespace Go.Proofs.YtdhnaldjofpeeaaDoor
open Go.RowKit Sets Cls
theorem quiet_build {P : Program} {C : World → Prop} {a : Act} {K : Act → Prop} {o : Oper} (t : TypeId) (parts : Array (Nat × Operand)) (ho : o.op = .build t parts) (vs : Array (Nat × Value)) (hv : (parts.map fun (i, x) => (i, a.eval x)) = vs) (v : Value)
    (hrun : ∀ w, (Instr.build t vs).run P w = .ok v w) (h : K (a.put o.dst v)) : o.quiet P a C K := by
  refine ⟨v, fun w _ => ?_, h⟩
  unfold Oper.quietAt execOp
  simp only [ho, hv, Sem.run_bind, Sem.run_pure, hrun w, Result.andThen_ok]
  exact ⟨rfl, rfl⟩
theorem buildP0 (w : World) : (Instr.build 24 #[]).run Tryd.prog w = .ok (.agg (partC (fun _ => 0) 0)) w := by
  rw [show partC (fun _ => 0) 0 = (List.replicate 256 (Value.int .u8 0) ++ [Value.int .i64 0]).toArray from by unfold partC ofL; rw [List.map_const', List.length_range]; rfl]
  kernel_rfl
theorem rows2 : clsSets (cls (same L2)) 3 256 = [full ^^^ rangeN 97 122, ofN [97], rangeN 98 122] := by decide +kernel
theorem nh0 : nh (same []) 256 = 1 := by decide +kernel
/-- The chapter's partition, byte 0 put into class 1. -/
def turn (d : Nat) : Nat := if d = 0 then 1 else cls (same L2) d
theorem split2 : splitsB (cls (same L2)) 3 (rangeN 97 122) = false ∧ splitsB (cls (same L2)) 3 (rangeN 97 99) = true := by decide +kernel
theorem in3 (c : Nat) (hc : c < 256) : cls (same L2) c < 3 := by have := cls_in L2 c hc; rw [nh2] at this; exact this
theorem right3 : rightB (cls (same L2)) 3 = true := by have := right_same L2; rw [nh2] at this; exact this
theorem right4 : rightB (cls (same L2)) 4 = false := by
  unfold rightB; rw [rgo_cls _ (same_eqv L2), nh2]; rfl
theorem rightT : rightB turn 3 = false := by
  have h1 : rgo turn 1 = none := by simp [rgo, turn]
  unfold rightB; rw [rgo_none turn 1 256 (by decide) h1]
theorem rightO : rightB (cls (same [])) 1 = true := by have := right_same []; rw [nh0] at this; exact this
theorem rightZ : rightB (fun _ => 0) 0 = false := by decide +kernel
theorem sp_no (w : World) : Calls Tryd.prog 14 #[.agg (partC (cls (same L2)) 3), .agg #[.int .u64 (wd (rangeN 97 122) 0), .int .u64 (wd (rangeN 97 122) 1), .int .u64 (wd (rangeN 97 122) 2), .int .u64 (wd (rangeN 97 122) 3)]] w fun e w' => e = .returned (.bool false) ∧ Below w.heap.size w w' := by
  have := splits_any (cls (same L2)) 3 (rangeN 97 122) w (by decide) in3 right3
  rw [split2.1] at this; exact this
theorem sp_yes (w : World) : Calls Tryd.prog 14 #[.agg (partC (cls (same L2)) 3), .agg #[.int .u64 (wd (rangeN 97 99) 0), .int .u64 (wd (rangeN 97 99) 1), .int .u64 (wd (rangeN 97 99) 2), .int .u64 (wd (rangeN 97 99) 3)]] w fun e w' => e = .returned (.bool true) ∧ Below w.heap.size w w' := by
  have := splits_any (cls (same L2)) 3 (rangeN 97 99) w (by decide) in3 right3
  rw [split2.2] at this; exact this
theorem ri_one (w : World) : Calls Tryd.prog 15 #[.agg (partC (cls (same [])) 1)] w fun e w' => e = .returned (.bool true) ∧ Below w.heap.size w w' := by
  have := right_any (cls (same [])) 1 w (fun c hc => by have := cls_in [] c hc; rw [nh0] at this; omega)
  rw [rightO] at this; exact this
theorem ri_bad (w : World) : Calls Tryd.prog 15 #[.agg (partC (cls (same L2)) 4)] w fun e w' => e = .returned (.bool false) ∧ Below w.heap.size w w' := by
  have := right_any (cls (same L2)) 4 w (fun c hc => by have := in3 c hc; omega)
  rw [right4] at this; exact this
theorem ri_turn (w : World) : Calls Tryd.prog 15 #[.agg (partC turn 3)] w fun e w' => e = .returned (.bool false) ∧ Below w.heap.size w w' := by
  have := right_any turn 3 w (fun c hc => by unfold turn; split; · decide
                                             · have := in3 c hc; omega)
  rw [rightT] at this; exact this
theorem ri_zero (w : World) : Calls Tryd.prog 15 #[.agg (partC (fun _ => 0) 0)] w fun e w' => e = .returned (.bool false) ∧ Below w.heap.size w w' := by
  have := right_any (fun _ => 0) 0 w (fun c hc => by decide)
  rw [rightZ] at this; exact this
theorem le_zero (w : World) (hT : Tab w) (hg : 0 < w.heap.size) : Calls Tryd.prog 16 #[.agg (partC (cls (same L2)) 3), .int .i64 0] w fun e w' =>
    ∃ g, e = .returned (.slice (some ⟨g, 0, none⟩) 3 3) ∧ BytesRow w' g [[], [], []] ∧ Below w.heap.size w w' := by
  refine (least_any (cls (same L2)) 3 0 w (by decide) in3 right3 hT hg).mono ?_
  rintro e w' ⟨g, he, -, hr, hb⟩
  exact ⟨g, he, by simpa [List.range_succ] using hr, hb⟩
theorem Refine_nil (w : World) : Calls Tryd.prog 10 #[.slice none 0 0] w fun e w' => e = .returned (.agg (partC (cls (same [])) 1)) ∧ Below w.heap.size w w' := by
  have := Refine_any (.slice none 0 0) [] w ⟨by simp, none, 0, rfl, Nat.le_refl _, fun i hi => by simp at hi⟩ (by simp)
  rw [nh0] at this; exact this
end Go.Proofs.YtdhnaldjofpeeaaDoor
