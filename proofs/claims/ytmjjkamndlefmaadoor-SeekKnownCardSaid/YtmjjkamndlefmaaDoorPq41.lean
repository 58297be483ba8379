/- Both. -/
import Derived.Test.YtmjjkamndlefmaaDoorPq29
import Derived.Test.YtmjjkamndlefmaaDoorPq39
import Derived.Test.YtmjjkamndlefmaaDoorPq40
import Derived.Test.YtmjjkamndlefmaaDoorPq21
namespace Go.Proofs.YtmjjkamndlefmaaDoor
open Go.RowKit Sets Nf Cls Df Dbl DfPr
namespace Df
theorem wp_neq_rows {o : Oper} {a : Act} {w : World} {K : Act → World → Prop} {Q : Exit → Act → World → Prop} (ty t : TypeId) (x y : Operand) (ho : o.op = .binOp .neq ty x y t) (xs ys : Array Value) (hx : a.eval x = .agg xs) (hy : a.eval y = .agg ys) (hg : Tryd.prog.eqGuardType Tryd.prog.depth ty = false)
    (r : Bool) (hr : ∀ w, (Op.equalIn 10000 ty (.agg xs) (.agg ys)).run Tryd.prog w = .ok r w) (h : K (a.put o.dst (.bool (!r))) w) : o.wp Tryd.prog a w K Q := by
  unfold Oper.wp execOp
  simp only [ho, hx, hy, Sem.run_bind, run_eqGuard_agg w .neq ty x y _ _ hg, run_neq_struct, hr, Result.andThen_ok, Sem.run_pure]
  exact h
theorem purse_apart {w : World} {B b t k o : Nat} {v : Value} (h : PurseAt w B b t) (hc : w.cell? ⟨k, o, none⟩ = some v) (hv : (∀ x, v ≠ .float .f64 x) ∧ ∀ x, v ≠ .int .u64 x) : B ≠ k := fun e => by
  unfold PurseAt at h
  subst e
  rw [cell_of_row w B o _ _ _ h] at hc
  have ho : o < 2 := by have := (Array.getElem?_eq_some_iff.1 hc).1; simpa using this
  have : o = 0 ∨ o = 1 := by omega
  rcases this with rfl | rfl
  · simp at hc; exact hv.1 _ hc.symm
  · simp at hc; exact hv.2 _ hc.symm
section
variable {p : Option (Nat × Nat)} {t0 : Nat} {w W : World}
theorem cell_belp (hpay : PayAt w p t0) (hb : BelP p w.heap.size w W) {k o : Nat} {v : Value} (hc : w.cell? ⟨k, o, none⟩ = some v) (hv : (∀ x, v ≠ .float .f64 x) ∧ ∀ x, v ≠ .int .u64 x) : W.cell? ⟨k, o, none⟩ = some v :=
  (World.cell?_of_block (w := w) (hb.block k (World.block_lt_of_cell? _ _ hc) (fun q hq => purse_apart (hpay q hq) hc hv))).trans hc
theorem nums_belp (hpay : PayAt w p t0) (hb : BelP p w.heap.size w W) {a : Option Addr} {l : List Int} (h : NumsIn w a l) : NumsIn W a l := fun i hi => by
  obtain ⟨b, o, e, hc⟩ := h i hi
  exact ⟨b, o, e, cell_belp hpay hb hc ⟨(fun x h => by cases h), (fun x h => by injection h with h; cases h)⟩⟩
theorem dat_belp (hpay : PayAt w p t0) (hb : BelP p w.heap.size w W) {x : Dx} {d : Dm} (h : DAt w x d) : DAt W x d := by
  refine ⟨fun i hi => ?_, fun i hi => ?_⟩
  · obtain ⟨b, o, y, c, e, hc, hn⟩ := h.nx i hi
    exact ⟨b, o, y, c, e, cell_belp hpay hb hc ⟨(fun x h => by cases h), (fun x h => by cases h)⟩, nums_belp hpay hb hn⟩
  · obtain ⟨b, o, e, hc⟩ := h.fl i hi
    exact ⟨b, o, e, cell_belp hpay hb hc ⟨(fun x h => by cases h), (fun x h => by cases h)⟩⟩
theorem row_belp (hpay : PayAt w p t0) (hb : BelP p w.heap.size w W) {k : Nat} {cs : Array Value} {t : TypeId} (hc : w.heap[k]? = some (.cells cs t (0, 0))) (ht : t ≠ 145) : W.heap[k]? = some (.cells cs t (0, 0)) :=
  (hb.block k (Array.getElem?_eq_some_iff.1 hc).1 (fun q hq e => by
    have h := hpay q hq
    unfold PurseAt at h
    rw [e, hc] at h
    injection h with h
    injection h with _ h
    exact ht h)).trans hc
end
def OkP (a b : Dm) (nc : Nat) (s : Nat × Nat) : Prop := (s.1 < a.R.length ∧ s.2 < b.R.length) ∧ Rc (intoP a b) nc (0, 0) s
theorem okp_few (a b : Dm) (nc : Nat) (L : List (Nat × Nat)) (hn : L.Nodup) (h : ∀ s ∈ L, OkP a b nc s) : L.length ≤ a.R.length * b.R.length := by
  have hu : ∀ s ∈ L, s ∈ (List.range a.R.length).flatMap fun i => (List.range b.R.length).map fun j => (i, j) := fun s hs => by
    obtain ⟨i, j⟩ := s
    have h1 := (h _ hs).1
    exact List.mem_flatMap.2 ⟨i, List.mem_range.2 h1.1, List.mem_map.2 ⟨j, List.mem_range.2 h1.2, rfl⟩⟩
  have := nodup_len L _ hn hu
  refine Nat.le_trans this ?_
  rw [List.length_flatMap]
  simp only [List.length_map, List.length_range]
  rw [List.map_const', List.length_range, List.sum_replicate_nat]
  exact Nat.le_refl _
/-- What Both tells of two right automata with one partition. -/
def BoEnd (a b : Dm) (how nc : Nat) (p : Option (Nat × Nat)) (t0 : Nat) (w : World) (e : Ending) (w' : World) : Prop :=
  BelP p w.heap.size w w' ∧
  ((∃ L z d, e = .returned (.tuple #[.agg (dvC z d), .int .i64 0]) ∧ d.of = a.of ∧ d.n = (nc : Int) ∧ OwnDm w.heap.size w' z d ∧ Done (intoP a b) (finP how a b) (0, 0) (OkP a b nc) L d ∧ PayAt w' p (t0 + L.length) ∧ Aff p (t0 + L.length)) ∨
   (∃ (q : Nat × Nat) (L : List (Nat × Nat)), p = some q ∧ e = .panicked [{ v := ovr q.1, recovered := false }] ∧ L.Nodup ∧ (∀ x ∈ L, OkP a b nc x) ∧ cap q.2 + 1 = t0 + L.length ∧ PurseAt w' q.1 q.2 (t0 + L.length)))
end Df
end Go.Proofs.YtmjjkamndlefmaaDoor
