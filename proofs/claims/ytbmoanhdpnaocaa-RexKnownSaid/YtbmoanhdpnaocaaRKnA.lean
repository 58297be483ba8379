/- The chapter's texts, and what is read of them. -/
import Derived.Test.YtbmoanhdpnaocaaRexW
import Derived.Deep.Cut
namespace Go.Proofs.Ytbmoanhdpnaocaa
open Go.RowKit Sets Tr Rx
namespace Kn
def KL : List ByteArray := [⟨#[97, 42, 42]⟩, ⟨#[97, 124, 42]⟩, ⟨#[40, 97]⟩, ⟨#[97, 41]⟩, ⟨#[91, 97, 45, 93]⟩, ⟨#[91, 122, 45, 97, 93]⟩, ⟨#[97, 123, 50, 44, 49, 125]⟩, ⟨#[97, 92, 113]⟩, ⟨#[33, 97, 33, 98]⟩, ⟨#[91, 97]⟩, ⟨#[97, 123]⟩, ⟨#[97, 123, 49]⟩, ⟨#[97, 123, 49, 44]⟩, ⟨#[92, 120, 52]⟩, ⟨#[40, 97, 38, 98, 41]⟩, ⟨#[93]⟩, ⟨#[97, 123, 44, 50, 125]⟩, ⟨#[91, 97, 94, 93]⟩, ⟨#[92]⟩]
def KP : List Nat := [2, 2, 2, 1, 3, 3, 4, 1, 2, 2, 2, 3, 4, 0, 2, 0, 2, 2, 0]
def okK (k : Nat) : Bool := match consC (by' (KL.getD k ByteArray.empty)) with | .bad false q => q == KP.getD k 0 | _ => false
theorem kl_bad (k : Nat) (hk : k < 19) : cons (by' (KL.getD k ByteArray.empty)) = .bad false (KP.getD k 0) := by
  rw [cons_eq (by_lt _)]
  have h : ∀ j : Fin 19, okK j.val = true := by decide +kernel
  have := h ⟨k, hk⟩
  unfold okK at this
  revert this
  simp only
  cases consC (by' (KL.getD k ByteArray.empty)) with
  | ok _ _ _ => simp
  | bad lg q => cases lg <;> simp
theorem kp_lt (k : Nat) : KP.getD k 0 ≤ 4 := by
  rcases Nat.lt_or_ge k 19 with h | h
  · have : ∀ j : Fin 19, KP.getD j.val 0 ≤ 4 := by decide
    exact this ⟨k, h⟩
  · rw [List.getD_eq_getElem?_getD, List.getElem?_eq_none (by exact h)]
    decide
theorem kl_cell {w : World} {g : Nat} (h : w.rangeAt g 0 (KL.map Value.string)) (k : Nat) (hk : k < 19) : w.cell? ⟨g, k, none⟩ = some (.string (KL.getD k ByteArray.empty)) := by
  have := h k (.string (KL.getD k ByteArray.empty)) (by
    have hk' : k < KL.length := hk
    rw [List.getElem?_map, List.getElem?_eq_getElem hk', List.getD_eq_getElem?_getD, List.getElem?_eq_getElem hk']
    rfl)
  rwa [Nat.zero_add] at this
theorem kp_cell {w : World} {g : Nat} (h : w.rangeAt g 0 (KP.map fun n : Nat => Value.int .i64 n)) (k : Nat) (hk : k < 19) : w.cell? ⟨g, k, none⟩ = some (.int .i64 (KP.getD k 0 : Nat)) := by
  have := h k (.int .i64 (KP.getD k 0 : Nat)) (by
    have hk' : k < KP.length := hk
    rw [List.getElem?_map, List.getElem?_eq_getElem hk', List.getD_eq_getElem?_getD, List.getElem?_eq_getElem hk']
    rfl)
  rwa [Nat.zero_add] at this
def rep (k : Nat) : ByteArray := str (List.replicate k 97)
theorem rep_size (k : Nat) : (rep k).size = k := by unfold rep; rw [size_str, List.length_replicate]
theorem rep_succ (k : Nat) : rep k ++ ⟨#[97]⟩ = rep (k + 1) := by
  apply tx_inj
  rw [tx_append]
  unfold rep
  rw [tx_str, tx_str, List.replicate_succ']
  rfl
theorem rep_bad : cons (by' (rep 201)) = .bad true 200 := by
  unfold cons
  rw [if_pos (by rw [by_len, rep_size]; decide)]
theorem nine_bad : cons (by' ⟨#[97, 123, 57, 125, 97, 123, 57, 125, 97, 123, 57, 125, 97, 123, 57, 125, 97, 123, 57, 125, 97, 123, 57, 125, 97, 123, 57, 125, 97, 123, 57, 125]⟩) = .bad true 32 := by rw [cons_eq (by_lt _)]; kernel_rfl
theorem open_bad : cons (by' ⟨#[40, 40, 40, 40, 40, 40, 40, 40, 40, 40, 40, 40, 40, 40, 40, 40, 40, 97]⟩) = .bad true 16 := by rw [cons_eq (by_lt _)]; kernel_rfl
theorem parts_bad : cons (by' ⟨#[38, 38, 38, 38, 38, 38, 38, 38, 38, 38, 38, 38, 38, 38, 38, 38, 38, 38, 38, 38]⟩) = .bad true 19 := by rw [cons_eq (by_lt _)]; kernel_rfl
def emps : List Nd := List.replicate 20 ⟨1, 0, 0, 0, 0, 0⟩
def twenty : List (Int × Bool) := (List.range 20).map fun i : Nat => ((i : Int), false)
theorem by_cut (s : ByteArray) (n : Nat) : by' (s.extract 0 n) = (by' s).take n := by
  have : by' (s.extract 0 n) = (tx (s.extract 0 n)).map UInt8.toNat := rfl
  rw [this, tx_extract, Nat.sub_zero, List.drop_zero, List.map_take]
  rfl
theorem most_ok : cons (by' ((⟨#[38, 38, 38, 38, 38, 38, 38, 38, 38, 38, 38, 38, 38, 38, 38, 38, 38, 38, 38, 38]⟩ : ByteArray).extract 0 19)) = .ok 19 emps twenty := by
  rw [cons_eq (by_lt _), by_cut]; kernel_rfl
def upN : List Nd := [⟨2, rangeN 33 255, 0, 0, 0, 0⟩, ⟨5, 0, 0, 0, 2, 2⟩]
theorem up_ok : cons (by' ⟨#[91, 94, 92, 120, 48, 48, 45, 92, 120, 50, 48, 93, 123, 50, 125]⟩) = .ok 15 upN [(1, false)] := by rw [cons_eq (by_lt _)]; kernel_rfl
theorem no_ok : cons (by' ⟨#[]⟩) = .ok 0 [⟨1, 0, 0, 0, 0, 0⟩] [(0, false)] := by rw [cons_eq (by_lt _)]; kernel_rfl
def dotN : List Nd := [⟨2, ofN [46], 0, 0, 0, 0⟩, ⟨2, full, 0, 0, 0, 0⟩, ⟨4, 0, 0, 1, 0, 0⟩]
theorem dot_ok : cons (by' ⟨#[92, 46, 124, 46]⟩) = .ok 4 dotN [(2, false)] := by rw [cons_eq (by_lt _)]; kernel_rfl
theorem set_in {w : World} {b o : Nat} {x : Nd} (h : w.rangeAt b (o + 0 * 9) (nd9 x)) : w.rangeAt b (o + 1) [.int .u64 (wd x.s 0), .int .u64 (wd x.s 1), .int .u64 (wd x.s 2), .int .u64 (wd x.s 3)] := by
  intro j v hv
  have := h (j + 1) v (by rw [← hv]; unfold nd9; rcases j with _ | _ | _ | _ | j <;> first | rfl | (simp at hv))
  rw [show o + 0 * 9 + (j + 1) = o + 1 + j from by omega] at this
  exact this
theorem set_in1 {w : World} {b o : Nat} {x : Nd} (h : w.rangeAt b (o + 1 * 9) (nd9 x)) : w.rangeAt b (o + 9 + 1) [.int .u64 (wd x.s 0), .int .u64 (wd x.s 1), .int .u64 (wd x.s 2), .int .u64 (wd x.s 3)] := by
  intro j v hv
  have := h (j + 1) v (by rw [← hv]; unfold nd9; rcases j with _ | _ | _ | _ | j <;> first | rfl | (simp at hv))
  rw [show o + 1 * 9 + (j + 1) = o + 9 + 1 + j from by omega] at this
  exact this
theorem quiet_eql {C : World → Prop} {a : Act} {K : Act → Prop} {o : Oper} (ty t : TypeId) (x y : Operand) (ho : o.op = .binOp .eql ty x y t) (xs ys : Array Value) (hx : a.eval x = .agg xs) (hy : a.eval y = .agg ys) (hg : Try.prog.eqGuardType Try.prog.depth ty = false)
    (r : Bool) (hr : ∀ w, (Op.equalIn 10000 ty (.agg xs) (.agg ys)).run Try.prog w = .ok r w) (h : K (a.put o.dst (.bool r))) : o.quiet Try.prog a C K := by
  refine ⟨.bool r, fun w hw => ?_, h⟩
  unfold Oper.quietAt execOp
  simp only [ho, hx, hy, Sem.run_bind, run_eqGuard_agg w .eql ty x y _ _ hg, run_eql_struct, hr, Result.andThen_ok, Sem.run_pure]
  exact ⟨rfl, rfl⟩
theorem set_eq (S : Nat) (hS : S < 2 ^ 256) (w : World) : (Op.equalIn 10000 34 (.agg #[.int .u64 (wd S 0), .int .u64 (wd S 1), .int .u64 (wd S 2), .int .u64 (wd S 3)]) (.agg #[.int .u64 (wd S 0), .int .u64 (wd S 1), .int .u64 (wd S 2), .int .u64 (wd S 3)])).run Try.prog w = .ok true w := by
  simp only [eqSet, beq_words hS hS, decide_true]
theorem node_eq (X : Nd) (hS : X.s < 2 ^ 256) (w : World) : (Op.equalIn 10000 36 (.agg (nd9 X).toArray) (.agg (nd9 X).toArray)).run Try.prog w = .ok true w := by
  rw [eqNode X X hS hS, decide_eq_true rfl]
theorem nil_nodes (w : World) : NodesAt w (.slice none 0 0) [] := ⟨by simp, by simp, none, 0, rfl, fun i hi => by simp at hi⟩
theorem nil_parts (w : World) : PartsAt w (.slice none 0 0) [] := ⟨by simp, by simp, none, 0, rfl, fun i hi => by simp at hi⟩
theorem wp_eql_set {o : Oper} {a : Act} {w : World} {K : Act → World → Prop} {Q : Exit → Act → World → Prop} (x y : Operand) (t : TypeId)
    (ho : o.op = .binOp .eql 34 x y t) (S : Nat) (hx : a.eval x = .agg #[.int .u64 (wd S 0), .int .u64 (wd S 1), .int .u64 (wd S 2), .int .u64 (wd S 3)]) (hy : a.eval y = .agg #[.int .u64 (wd S 0), .int .u64 (wd S 1), .int .u64 (wd S 2), .int .u64 (wd S 3)]) (hS : S < 2 ^ 256)
    (h : K (a.put o.dst (.bool true)) w) : o.wp Try.prog a w K Q := by
  have hg : Try.prog.eqGuardType Try.prog.depth 34 = false := by kernel_rfl
  unfold Oper.wp execOp
  simp only [ho, hx, hy, Sem.run_bind, run_eqGuard_agg w .eql 34 x y _ _ hg, run_eql_struct, eqSet, beq_words hS hS, decide_true, Result.andThen_ok, Sem.run_pure]
  exact h
theorem wp_eql_node {o : Oper} {a : Act} {w : World} {K : Act → World → Prop} {Q : Exit → Act → World → Prop} (x y : Operand) (t : TypeId)
    (ho : o.op = .binOp .eql 36 x y t) (X : Nd) (hx : a.eval x = .agg (nd9 X).toArray) (hy : a.eval y = .agg (nd9 X).toArray) (hS : X.s < 2 ^ 256)
    (h : K (a.put o.dst (.bool true)) w) : o.wp Try.prog a w K Q := by
  have hg : Try.prog.eqGuardType Try.prog.depth 36 = false := by kernel_rfl
  unfold Oper.wp execOp
  simp only [ho, hx, hy, Sem.run_bind, run_eqGuard_agg w .eql 36 x y _ _ hg, run_eql_struct, eqNode X X hS hS, decide_true, Result.andThen_ok, Sem.run_pure]
  exact h
end Kn
end Go.Proofs.Ytbmoanhdpnaocaa
