/- Several texts in one. -/
import Derived.Test.YtcgllipcnmlkbaaDoorPkD
import Derived.Test.YtcgllipcnmlkbaaDoorPkC
import Derived.Test.YtcgllipcnmlkbaaDoorPkE
namespace Go.Proofs.YtcgllipcnmlkbaaDoor
open Go.RowKit Sets Tr
theorem esc_hex (m : List Nat) (c : Nat) (h1 : m.contains c = false) (h2 : c < 33 ∨ 126 < c) : esc m c = [92, 120, hex (c / 16), hex (c % 16)] := by
  unfold esc; rw [h1, if_neg (by decide), if_pos h2]
theorem esc_mark (m : List Nat) (c : Nat) (h1 : m.contains c = true) : esc m c = [92, c] := by
  unfold esc; rw [h1, if_pos rfl]
theorem esc_self (m : List Nat) (c : Nat) (h1 : m.contains c = false) (h2 : ¬ (c < 33 ∨ 126 < c)) : esc m c = [c] := by
  unfold esc; rw [h1, if_neg (by decide), if_neg h2]
end Go.Proofs.YtcgllipcnmlkbaaDoor
namespace Go.Proofs.YtcgllipcnmlkbaaDoor
open Go.RowKit Sets Tr
theorem drop_two (l : List Nat) (n : Nat) (h : n + 1 < l.length) : l.drop n = l.getD n 0 :: l.getD (n + 1) 0 :: l.drop (n + 2) := by
  rw [List.drop_eq_getElem_cons (by omega), List.drop_eq_getElem_cons h, List.getD_eq_getElem?_getD, List.getElem?_eq_getElem (by omega), List.getD_eq_getElem?_getD, List.getElem?_eq_getElem h]; rfl
theorem drop_one (l : List Nat) (n : Nat) (h : n + 1 = l.length) : l.drop n = [l.getD n 0] := by
  rw [List.drop_eq_getElem_cons (by omega), List.getD_eq_getElem?_getD, List.getElem?_eq_getElem (by omega), List.drop_eq_nil_of_le (by omega)]; rfl
theorem bytes_cell {w : World} {a : Option Addr} {n c : Nat} {l : List Nat} (h : BytesAt w (.slice a n c) l) {i : Nat} (hi : i < l.length) : ∃ b o, a = some ⟨b, o, none⟩ ∧ w.cell? ⟨b, o + i, none⟩ = some (.int .u8 (l.getD i 0)) ∧ l.getD i 0 < 256 := by
  obtain ⟨h1, -, a', cap, e, h4⟩ := h
  cases e
  obtain ⟨b, o, e, hc⟩ := h4 i hi
  exact ⟨b, o, e, hc, h1 _ (by rw [List.getD_eq_getElem?_getD, List.getElem?_eq_getElem hi]; exact List.getElem_mem hi)⟩
end Go.Proofs.YtcgllipcnmlkbaaDoor
namespace Go.Proofs.YtcgllipcnmlkbaaDoor
open Go.RowKit Sets Tr
theorem runs_more : ∀ (f g : Nat) (l : List Nat), l.length ≤ f → l.length ≤ g → runs f l = runs g l := by
  intro f
  induction f with
  | zero =>
    intro g l hf _
    have : l = [] := List.eq_nil_of_length_eq_zero (by omega)
    subst this
    cases g <;> rfl
  | succ f ih =>
    intro g l hf hg
    cases l with
    | nil => cases g <;> rfl
    | cons a l =>
      cases g with
      | zero => simp at hg
      | succ g =>
        simp only [runs]
        have hp := runLen_pos a l
        congr 1
        refine ih g _ ?_ ?_ <;> simp only [List.length_drop, List.length_cons] at * <;> omega
theorem runs_step (l : List Nat) (h : l ≠ []) (hl : l.length ≤ 256) : runs 256 l = oneRun (l.take (runLen l)) ++ runs 256 (l.drop (runLen l)) := by
  cases l with
  | nil => exact absurd rfl h
  | cons a l =>
    rw [show (256 : Nat) = 255 + 1 from rfl]
    conv => lhs; rw [runs]
    have hp := runLen_pos a l
    congr 1
    refine runs_more _ _ _ ?_ ?_ <;> simp only [List.length_drop, List.length_cons] at * <;> omega
theorem wpList_eql_set {ops : Array Oper} {rest : List Oper} {o : Oper} {a : Act} {w : World} {Q : Exit → Act → World → Prop} (hgd : o.guard = none) (x y : Operand) (t : TypeId)
    (ho : o.op = .binOp .eql 52 x y t) (S T : Nat) (hx : a.eval x = .agg #[.int .u64 (wd S 0), .int .u64 (wd S 1), .int .u64 (wd S 2), .int .u64 (wd S 3)]) (hy : a.eval y = .agg #[.int .u64 (wd T 0), .int .u64 (wd T 1), .int .u64 (wd T 2), .int .u64 (wd T 3)]) (hS : S < 2 ^ 256) (hT : T < 2 ^ 256)
    (h : wpList Tryd.prog ops Q rest (a.put o.dst (.bool (decide (S = T)))) w) : wpList Tryd.prog ops Q (o :: rest) a w := by
  have hg : Tryd.prog.eqGuardType Tryd.prog.depth 52 = false := by kernel_rfl
  refine wpList_plain hgd fun _ hK => ?_
  unfold Oper.wp execOp
  simp only [ho, hx, hy, Sem.run_bind, run_eqGuard_agg w .eql 52 x y _ _ hg, run_eql_struct, eqSet, beq_words hS hT, Result.andThen_ok, Sem.run_pure]
  exact hK _ _ h
/-- the list and what is built lie apart -/
def Sep (x v : Value) : Prop := ∀ g, x.ownBlock = some g → v.ownBlock ≠ some g
/-- what is left of the list -/
structure Lst (w : World) (x : Value) (M : List Nat) (v : Value) : Prop where
  at_ : BytesAt w x M
  cap : ∃ a c, x = .slice a M.length c ∧ M.length ≤ c
  sep : Sep x v
  own : ∀ g, x.ownBlock = some g → g < w.heap.size
theorem Lst.ap {w w' : World} {x v v' : Value} {M : List Nat} (h : Lst w x M v) (ha : Ap w v w' v') : Lst w' x M v' := by
  refine ⟨ha.bytes h.at_ h.sep, h.cap, fun g hg hv => ?_, fun g hg => Nat.lt_of_lt_of_le (h.own g hg) ha.size⟩
  rcases ha.own g hv with h1 | h1
  · exact h.sep g hg h1
  · have := h.own g hg; omega
theorem Lst.below {w w' : World} {x v : Value} {M : List Nat} (h : Lst w x M v) (hb : Below w.heap.size w w') : Lst w' x M v := h.ap (Ap.of_below v hb)
theorem bytes_take {w : World} {a : Option Addr} {n c k : Nat} {M : List Nat} (h : BytesAt w (.slice a n c) M) (hk : k ≤ M.length) : BytesAt w (.slice a k c) (M.take k) := by
  obtain ⟨h1, h2, a', c', e, hc⟩ := h
  cases e
  refine ⟨fun x hx => h1 x (List.mem_of_mem_take hx), by rw [List.length_take]; omega, a, c, by rw [List.length_take, Nat.min_eq_left hk], fun i hi => ?_⟩
  rw [List.length_take] at hi
  obtain ⟨b, o, e, hx⟩ := hc i (by omega)
  refine ⟨b, o, e, ?_⟩
  rw [hx, List.getD_eq_getElem?_getD, List.getD_eq_getElem?_getD, List.getElem?_take_of_lt (by omega)]
theorem bytes_drop {w : World} {b o n c d k : Nat} {M : List Nat} (h : BytesAt w (.slice (some ⟨b, o, none⟩) n c) M) (hk : k ≤ M.length) (hn : n = M.length) : BytesAt w (.slice (some ⟨b, o + k, none⟩) (n - k) d) (M.drop k) := by
  obtain ⟨h1, h2, a', c', e, hc⟩ := h
  subst hn
  refine ⟨fun x hx => h1 x (List.mem_of_mem_drop hx), by rw [List.length_drop]; omega, _, d, by rw [List.length_drop], fun i hi => ?_⟩
  rw [List.length_drop] at hi
  obtain ⟨b', o', e, hx⟩ := hc (k + i) (by omega)
  cases e
  cases e
  refine ⟨b, o + k, rfl, ?_⟩
  rw [show o + k + i = o + (k + i) from by omega, hx, List.getD_eq_getElem?_getD, List.getD_eq_getElem?_getD, List.getElem?_drop]
theorem bytes_none {w : World} (a : Option Addr) (c : Nat) : BytesAt w (.slice a 0 c) [] := ⟨fun x hx => (by cases hx), Nat.zero_le _, a, c, rfl, fun i hi => (by cases hi)⟩
def sliceLen : Value → Nat
  | .slice _ n _ => n
  | _ => 0
theorem full_lt : full < 2 ^ 256 := by decide
end Go.Proofs.YtcgllipcnmlkbaaDoor
namespace Go.Proofs.YtcgllipcnmlkbaaDoor
open Go.RowKit Sets Tr
def hasK (l : List Nat) (k : Nat) : Bool := l.contains k
end Go.Proofs.YtcgllipcnmlkbaaDoor
namespace Go.Proofs.YtcgllipcnmlkbaaDoor
open Go.RowKit Sets Tr
def dS (m : Nat) : ByteArray := ⟨#[(48 + m).toUInt8]⟩
end Go.Proofs.YtcgllipcnmlkbaaDoor
