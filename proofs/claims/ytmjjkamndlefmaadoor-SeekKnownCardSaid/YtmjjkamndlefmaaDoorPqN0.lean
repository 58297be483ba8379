/- Several texts in one. -/
import Derived.Test.YtmjjkamndlefmaaDoorPq21
import Derived.Test.YtmjjkamndlefmaaDoorPq10
namespace Go.Proofs.YtmjjkamndlefmaaDoor
open Go.RowKit Sets Nf
namespace Nf
def sameB (m n : Mc) : Bool := decide (m.sp = n.sp ∧ m.fi = n.fi ∧ m.fo = n.fo ∧ m.la = n.la ∧ m.em = n.em)
theorem same_sp {m n : Mc} (h : m.sp ≠ n.sp) : sameB m n = false := decide_eq_false (fun e => h e.1)
theorem same_fi {m n : Mc} (h : m.fi ≠ n.fi) : sameB m n = false := decide_eq_false (fun e => h e.2.1)
theorem same_fo {m n : Mc} (h : m.fo ≠ n.fo) : sameB m n = false := decide_eq_false (fun e => h e.2.2.1)
theorem same_la {m n : Mc} (h : m.la ≠ n.la) : sameB m n = false := decide_eq_false (fun e => h e.2.2.2.1)
theorem same_em {m n : Mc} (h : m.em ≠ n.em) : sameB m n = false := decide_eq_false (fun e => h e.2.2.2.2)
theorem quiet_drewN {P : Program} {f : FuncId} {args : Array Value} {w : World} {n : Nat} {v : Value} (h : Calls P f args (w.drewN n) fun e w' => e = .returned v ∧ ∃ k, w' = (w.drewN n).drewN k) :
    Calls P f args (w.drewN n) fun e w'' => e = .returned v ∧ ∃ m, w'' = w.drewN m :=
  h.mono fun _ _ ⟨he, k, hk⟩ => ⟨he, n + k, by rw [hk, World.drewN_drewN]⟩
theorem len_ne {α : Type} {l k : List α} (h : ¬ l.length = k.length) : l ≠ k := fun e => h (by rw [e])
end Nf
end Go.Proofs.YtmjjkamndlefmaaDoor
namespace Go.Proofs.YtmjjkamndlefmaaDoor
open Go.RowKit Sets Nf
namespace Nf
theorem wpList_neqS {ops : Array Oper} {rest : List Oper} {o : Oper} {a : Act} {w : World} {Q : Exit → Act → World → Prop} (hgd : o.guard = none) (ty t : TypeId) (x y : Operand) (ho : o.op = .binOp .neq ty x y t) (xs ys : Array Value) (hx : a.eval x = .agg xs) (hy : a.eval y = .agg ys) (hg : Tryd.prog.eqGuardType Tryd.prog.depth ty = false)
    (r : Bool) (hr : ∀ w, (Op.equalIn 10000 ty (.agg xs) (.agg ys)).run Tryd.prog w = .ok r w) (h : wpList Tryd.prog ops Q rest (a.put o.dst (.bool (!r))) w) : wpList Tryd.prog ops Q (o :: rest) a w := by
  refine wpList_plain hgd fun K hK => ?_
  unfold Oper.wp execOp
  simp only [ho, hx, hy, Sem.run_bind, run_eqGuard_agg w .neq ty x y _ _ hg, run_neq_struct, hr, Result.andThen_ok, Sem.run_pure]
  exact hK _ _ h
end Nf
end Go.Proofs.YtmjjkamndlefmaaDoor
namespace Go.Proofs.YtmjjkamndlefmaaDoor
open Go.RowKit Sets Nf
namespace Nf
end Nf
end Go.Proofs.YtmjjkamndlefmaaDoor
