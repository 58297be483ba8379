/- Run. -/
import Derived.Test.YtplkhgmjcljjhaaDoorPq09
namespace Go.Proofs.YtplkhgmjcljjhaaDoor
open Go.RowKit Sets Nf
namespace Nf
theorem quiet_load_set {C : World → Prop} {a : Act} {K : Act → Prop} {o : Oper} (x : Operand) (ho : o.op = .load 66 x) (g S : Nat) (hx : a.eval x = .pointer (some ⟨g, 0, none⟩)) (hg : ∀ w, C w → SetB w g S)
    (h : K (a.put o.dst (.agg (setC S)))) : o.quiet Tryd.prog a C K :=
  quiet_load_row 66 x ho g hx 66 (setC S) (0, 0) _ (fun w hw => (hg w hw).row) Tryd.underlying66 rfl (sizeSet S) h
theorem quiet_load_mach {C : World → Prop} {a : Act} {K : Act → Prop} {o : Oper} (X : Operand) (ho : o.op = .load 46 X) (g : Nat) (x : Ma) (m : Mc) (hx : a.eval X = .pointer (some ⟨g, 0, none⟩)) (hg : ∀ w, C w → BoxM w g x m)
    (h : K (a.put o.dst (.agg (mc x m)))) : o.quiet Tryd.prog a C K :=
  quiet_load_row 46 X ho g hx 46 (mc x m) (0, 0) _ (fun w hw => (hg w hw).row) Tryd.underlying46 rfl (sizeMach x m) h
theorem set_eq (S T : Nat) (hS : S < 2 ^ 256) (hT : T < 2 ^ 256) (w : World) : (Op.equalIn 10000 66 (.agg (setC S)) (.agg (setC T))).run Tryd.prog w = .ok (decide (S = T)) w := by
  unfold setC
  rw [eqSet]
  congr 1
  rw [Bool.eq_iff_iff, decide_eq_true_iff]
  simp only [Bool.and_eq_true, beq_iff_eq]
  constructor
  · rintro h
    refine ext_words hS hT (fun i hi => ?_)
    have : i = 0 ∨ i = 1 ∨ i = 2 ∨ i = 3 := by omega
    rcases this with rfl | rfl | rfl | rfl <;> omega
  · rintro rfl; simp
theorem zeroW : #[Value.int .u64 0, .int .u64 0, .int .u64 0, .int .u64 0] = setC 0 := zeroC
theorem guardS : Tryd.prog.eqGuardType Tryd.prog.depth 66 = false := by kernel_rfl
theorem wpList_eql_zero {ops : Array Oper} {rest : List Oper} {o : Oper} {a : Act} {w : World} {Q : Exit → Act → World → Prop} (hgd : o.guard = none) (t : TypeId) (x y : Operand) (ho : o.op = .binOp .eql 66 x y t)
    (S : Nat) (hx : a.eval x = .agg (setC S)) (hy : a.eval y = .agg #[.int .u64 0, .int .u64 0, .int .u64 0, .int .u64 0]) (hS : S < 2 ^ 256) (h : wpList Tryd.prog ops Q rest (a.put o.dst (.bool (decide (S = 0)))) w) : wpList Tryd.prog ops Q (o :: rest) a w := by
  refine wpList_plain hgd fun K hK => ?_
  unfold Oper.wp execOp
  rw [zeroC] at hy
  simp only [ho, hx, hy, Sem.run_bind, run_eqGuard_agg w .eql 66 x y _ _ guardS, run_eql_struct, set_eq S 0 hS (Nat.two_pow_pos 256), Result.andThen_ok, Sem.run_pure]
  exact hK _ _ h
theorem wpList_neq_zero {ops : Array Oper} {rest : List Oper} {o : Oper} {a : Act} {w : World} {Q : Exit → Act → World → Prop} (hgd : o.guard = none) (t : TypeId) (x y : Operand) (ho : o.op = .binOp .neq 66 x y t)
    (S : Nat) (hx : a.eval x = .agg (setC S)) (hy : a.eval y = .agg #[.int .u64 0, .int .u64 0, .int .u64 0, .int .u64 0]) (hS : S < 2 ^ 256) (h : wpList Tryd.prog ops Q rest (a.put o.dst (.bool (!(decide (S = 0))))) w) : wpList Tryd.prog ops Q (o :: rest) a w := by
  refine wpList_plain hgd fun K hK => ?_
  unfold Oper.wp execOp
  rw [zeroC] at hy
  simp only [ho, hx, hy, Sem.run_bind, run_eqGuard_agg w .neq 66 x y _ _ guardS, run_neq_struct, set_eq S 0 hS (Nat.two_pow_pos 256), Result.andThen_ok, Sem.run_pure]
  exact hK _ _ h
theorem quiet_neq_zero {C : World → Prop} {a : Act} {K : Act → Prop} {o : Oper} (t : TypeId) (x y : Operand) (ho : o.op = .binOp .neq 66 x y t) (S : Nat) (hx : a.eval x = .agg (setC S)) (hy : a.eval y = .agg #[.int .u64 0, .int .u64 0, .int .u64 0, .int .u64 0]) (hS : S < 2 ^ 256)
    (h : K (a.put o.dst (.bool (!(decide (S = 0)))))) : o.quiet Tryd.prog a C K := by
  refine ⟨.bool (!(decide (S = 0))), fun w hw => ?_, h⟩
  unfold Oper.quietAt execOp
  rw [zeroC] at hy
  simp only [ho, hx, hy, Sem.run_bind, run_eqGuard_agg w .neq 66 x y _ _ guardS, run_neq_struct, set_eq S 0 hS (Nat.two_pow_pos 256), Result.andThen_ok, Sem.run_pure]
  exact ⟨rfl, rfl⟩
theorem listN_zero : listN 0 = [] := by
  unfold listN
  rw [List.filter_eq_nil_iff]
  intro k _
  rw [Nat.zero_testBit]; decide
theorem fold_zero (m : Mc) : ∀ (l : List Nat), (l.foldl (stepS m) (0, 0)) = (0, 0) ∨ l = []
  | [] => .inr rfl
  | c :: l => .inl (by
    have hr : rd m 0 c = 0 := by
      unfold rd
      rw [listN_zero]; rfl
    have hb : bh (m.fo.map grp) 0 = 0 := by
      unfold bh
      rw [listN_zero]; rfl
    rw [List.foldl_cons, show stepS m (0, 0) c = (0, 0) from by unfold stepS; rw [hr, hb]]
    rcases fold_zero m l with h | h
    · exact h
    · rw [h]; rfl)
/-- The runs behind j bytes. -/
def runN (m : Mc) (l : List Nat) (j : Nat) : Nat × Nat := (l.take j).foldl (stepS m) (0, grp m.fi)
theorem runN_succ (m : Mc) (l : List Nat) (j : Nat) (h : j < l.length) : runN m l (j + 1) = (rd m (runN m l j).2 (l.getD j 0), bh (m.fo.map grp) (rd m (runN m l j).2 (l.getD j 0))) := by
  unfold runN
  rw [List.take_succ_eq_append_getElem h, List.foldl_append, List.getD_eq_getElem?_getD, List.getElem?_eq_getElem h]
  rfl
theorem runN_all (m : Mc) (l : List Nat) (j : Nat) (h : l.length ≤ j) : runN m l j = runS m l := by
  unfold runN
  rw [List.take_of_length_le h]; rfl
theorem runN_dead (m : Mc) (l : List Nat) (j : Nat) (h : (runN m l j).1 = 0) (h2 : (runN m l j).2 = 0) : (runS m l).1 = 0 := by
  have : runS m l = (l.drop j).foldl (stepS m) (runN m l j) := by
    unfold runN
    rw [← List.foldl_append, List.take_append_drop]; rfl
  rw [this, show runN m l j = (0, 0) from Prod.ext h h2]
  rcases fold_zero m (l.drop j) with e | e
  · rw [e]
  · rw [e]; rfl
theorem rd_lt (m : Mc) (q c : Nat) : rd m q c < 2 ^ 256 := ofN_lt _ (fun x hx => by
  exact ((mem_listN q x).1 (List.mem_filter.1 hx).1).1)
theorem bits_lt {S n : Nat} (h : ∀ k, S.testBit k = true → k < n) (hn : n ≤ 256) : S < 2 ^ 256 := by
  rcases Nat.lt_or_ge S (2 ^ 256) with h1 | h1
  · exact h1
  · obtain ⟨i, hi, hb⟩ := Nat.exists_ge_and_testBit_of_ge_two_pow h1
    have := h i hb
    omega
theorem bh_small {m : Mc} (h : Rt m) (q k : Nat) (hk : (bh (m.fo.map grp) q).testBit k = true) : k < m.sp.length := by
  rw [bh_bit] at hk
  obtain ⟨i, -, -, h3⟩ := hk
  rw [map_grp] at h3
  exact fo_lt h h3
theorem runN_small {m : Mc} (h : Rt m) (l : List Nat) (j : Nat) (hj : j ≤ l.length) : ∀ k, (runN m l j).2.testBit k = true → k < m.sp.length := by
  cases j with
  | zero => exact fun k hk => fi_lt h hk
  | succ j =>
    intro k hk
    rw [runN_succ m l j (by omega)] at hk
    exact bh_small h _ _ hk
theorem run1_lt (m : Mc) (l : List Nat) (j : Nat) (hj : j ≤ l.length) : (runN m l j).1 < 2 ^ 256 := by
  cases j with
  | zero => exact Nat.two_pow_pos 256
  | succ j => rw [runN_succ m l j (by omega)]; exact rd_lt _ _ _
theorem rd_bits (m : Mc) (q c k : Nat) (h : (rd m q c).testBit k = true) : q.testBit k = true := ((rd_bit m q c k).1 h).2.1
theorem grp_lt256 {n : Nat} {l : List Int} (h : rise n l = true) (hn : n ≤ 256) : grp l < 2 ^ 256 := bits_lt (fun _ hk => grp_lt h hk) hn
theorem last_lt {m : Mc} (h : Rt m) : lastN m < 2 ^ 256 := by
  refine bits_lt (n := 250) (fun k hk => ?_) (by decide)
  rw [last_bit] at hk
  have := h.many
  have := h.lal
  rcases Nat.lt_or_ge k m.la.length with h1 | h1
  · omega
  · rw [getD_ge h1] at hk; cases hk
/-- a set is stored where a place for it was just laid -/
theorem wpList_lay_set {ops : Array Oper} {rest : List Oper} {o : Oper} {a : Act} {w : World} {Q : Exit → Act → World → Prop} (hgd : o.guard = none) (x y : Operand)
    (ho : o.op = .store 66 x y) (S g : Nat) (hg : w.heap.size = g) (hx : a.eval x = .pointer (some ⟨g, 0, none⟩)) (hy : a.eval y = .agg (setC S))
    (h : wpList Tryd.prog ops Q rest (a.put o.dst undef) (w.alloc (.cells (setC S) 66))) : wpList Tryd.prog ops Q (o :: rest) a (w.alloc (.cells #[.int .u64 0, .int .u64 0, .int .u64 0, .int .u64 0] 66)) := by
  subst hg
  refine wpList_store_row hgd 66 x y ho w.heap.size (setC S) hx hy 66 _ (heap_alloc_new w _) (sizeSet S) rfl (oneSet S) ?_
  rw [World.setRow_alloc_new]
  exact h
theorem list_some {s : ByteArray} (h : ¬ s.size = 0) : s.toList.isEmpty = false := by
  rw [ByteArray.toList_eq]
  cases hl : s.data.toList with
  | nil => exact absurd (by show s.data.size = 0; rw [← Array.length_toList, hl]; rfl) h
  | cons a l => rfl
end Nf
end Go.Proofs.YtplkhgmjcljjhaaDoor
