/- Regions that draw their order, whose operations read what lies below the region's own memory, and whose calls leave that as it was: any order comes to what the order of the text comes to. -/
import Derived.Test.YtlbaecjmfgahgaaDoorKit
import Derived.Deep.Quiet
import Derived.Deep.QuietTactic
import Derived.BigQuiet
namespace Go.Proofs.YtlbaecjmfgahgaaDoor
open Go.RowKit
/-- The worlds that keep what W holds are given as a family F: so the walk's simp can name one of them. -/
theorem region_fam {P : Program} {id : Nat} {Q : Exit → Act → World → Prop} {a : Act} {W : World} {l : List Oper} (hm : P.follows .mixedOrders = true) (hB : Region.lexB .any l.toArray = true)
    (h : ∀ (ι : Type) (_ : Nonempty ι) (F : ι → World), (∀ n, Below W.heap.size W (F n)) → (∀ w', Below W.heap.size W w' → ∃ n, w' = F n) →
      wpQuiet P l.toArray (fun w' => ∃ n, w' = F n) (fun a' => ∀ w', (∃ n, w' = F n) → Q .normal a' w') l a) : (Code.region id l.toArray true).wp P Q a W := by
  refine wp_region_quiet (C := fun w' => ∃ n : { w' : World // Below W.heap.size W w' }, w' = n.1) hm hB ⟨⟨_, (Below.refl _ W).drew⟩, rfl⟩ ?_
  have := h { w' : World // Below W.heap.size W w' } ⟨⟨W, Below.refl _ W⟩⟩ Subtype.val (fun n => n.2) (fun w' hw => ⟨⟨w', hw⟩, rfl⟩)
  simpa using this
theorem fam_call {P : Program} {f : FuncId} {args : Array Value} {ι : Type} {F : ι → World} {W : World} (hF : ∀ n, Below W.heap.size W (F n)) (hX : ∀ w', Below W.heap.size W w' → ∃ n, w' = F n) {n : ι} {v : Value}
    (h : Calls P f args (F n) fun e w' => e = .returned v ∧ Below (F n).heap.size (F n) w') : Calls P f args (F n) fun e w'' => e = .returned v ∧ ∃ m, w'' = F m :=
  h.mono fun _ _ ⟨he, hb⟩ => ⟨he, hX _ ((hF n).trans (hb.mono (hF n).size))⟩
/-- A whole array, read out of its variable, in every world of the class. -/
theorem quiet_load_row {P : Program} {C : World → Prop} {a : Act} {K : Act → Prop} {o : Oper} (ty : TypeId) (x : Operand) (ho : o.op = .load ty x)
    (g : Nat) (hx : a.eval x = .pointer (some ⟨g, 0, none⟩)) (t : TypeId) (cs : Array Value) (fr : Nat × Nat) (d : TypeDesc) (hg : ∀ w, C w → w.heap[g]? = some (.cells cs t fr))
    (hu : P.underlying ty = some d) (hd : (match d with | .struct _ | .array _ _ => true | _ => false) = true) (hi : (P.info? ty).map (·.size) = some cs.size)
    (h : K (a.put o.dst (.agg cs))) : o.quiet P a C K := by
  refine ⟨.agg cs, fun w hw => ?_, h⟩
  unfold Oper.quietAt execOp
  simp only [ho, hx, Instr.loadAt, Instr.sureAddr, Sem.run_bind, Sem.run_pure, Result.andThen_ok, run_loadVar_row w g t ty cs fr d (hg w hw) hu hd hi]
  exact ⟨rfl, rfl⟩
end Go.Proofs.YtlbaecjmfgahgaaDoor
