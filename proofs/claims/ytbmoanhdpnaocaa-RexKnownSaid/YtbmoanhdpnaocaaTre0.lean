/- Nodes and parts in memory; whether a node is one of its kind, what stands below it. -/
import Derived.Test.YtbmoanhdpnaocaaOct4
import Derived.Test.YtbmoanhdpnaocaaTreP
import Derived.Deep.MidRow
import Derived.Deep.WholeRow
import Derived.Laws.StructEq
import Derived.WalkSpells
namespace Go.Proofs.Ytbmoanhdpnaocaa
open Go.RowKit Sets Tr
def nd9 (x : Nd) : List Value := [.int .u8 x.k, .int .u64 (wd x.s 0), .int .u64 (wd x.s 1), .int .u64 (wd x.s 2), .int .u64 (wd x.s 3), .int .i64 x.a, .int .i64 x.b, .int .i64 x.mn, .int .i64 x.mx]
/-- an int -/
def I64 (a : Int) : Prop := -9223372036854775808 ≤ a ∧ a ≤ 9223372036854775807
structure NdOk (x : Nd) : Prop where
  k : x.k < 256
  s : x.s < 2 ^ 256
  a : I64 x.a
  b : I64 x.b
  mn : I64 x.mn
  mx : I64 x.mx
theorem beq_words {S T : Nat} (hS : S < 2 ^ 256) (hT : T < 2 ^ 256) :
    (((wd S 0 : Nat) : Int) == ((wd T 0 : Nat) : Int) && ((wd S 1 : Nat) : Int) == ((wd T 1 : Nat) : Int) && ((wd S 2 : Nat) : Int) == ((wd T 2 : Nat) : Int) && ((wd S 3 : Nat) : Int) == ((wd T 3 : Nat) : Int)) = decide (S = T) := by
  by_cases h : S = T
  · subst h; simp
  · rw [decide_eq_false h, Bool.eq_false_iff]
    intro hh
    simp only [Bool.and_eq_true, beq_iff_eq] at hh
    refine h (ext_words hS hT (fun i hi => ?_))
    have : i = 0 ∨ i = 1 ∨ i = 2 ∨ i = 3 := by omega
    rcases this with rfl | rfl | rfl | rfl <;> omega
theorem eqSet9999 (a b c d a' b' c' d' : Int) (w : World) : (Op.equalIn 9999 34 (.agg #[.int .u64 a, .int .u64 b, .int .u64 c, .int .u64 d]) (.agg #[.int .u64 a', .int .u64 b', .int .u64 c', .int .u64 d'])).run Try.prog w = .ok (a == a' && b == b' && c == c' && d == d') w := by
  have u3 := Try.underlying32
  have a3 := Try.isAgg32
  have z3 := Try.sizeOf32
  rw [show (9999 : Nat) = 9998 + 1 from rfl, Op.equalIn]
  simp only [Sem.run_bind, run_underlying Try.underlying34, Result.andThen_ok]
  simp only [Std.Legacy.Range.forIn_eq_forIn_range', Std.Legacy.Range.size, Nat.sub_zero, Nat.add_sub_cancel, Nat.div_one, List.range'_succ, List.range'_zero, List.forIn_cons, List.forIn_nil]
  go_simp
  by_cases h1 : a = a' <;> by_cases h2 : b = b' <;> by_cases h3 : c = c' <;> by_cases h4 : d = d' <;> simp [h1, h2, h3, h4]
theorem part_one (t : TypeId) (xs : Array Value) (o : Nat) (v : Value) (w : World) (h : (isAgg t).run Try.prog w = .ok false w) (hv : xs[o]? = some v) : (part t xs o).run Try.prog w = .ok v w := by
  unfold part
  simp only [Sem.run_bind, h, Result.andThen_ok, hv]
  rfl
theorem part_set (x : Nd) (w : World) : (part 34 (nd9 x).toArray 1).run Try.prog w = .ok (.agg #[.int .u64 (wd x.s 0), .int .u64 (wd x.s 1), .int .u64 (wd x.s 2), .int .u64 (wd x.s 3)]) w := by
  have h1 : (isAgg 34).run Try.prog w = .ok true w := by kernel_rfl
  have h2 : (sizeOf 34).run Try.prog w = .ok 4 w := by kernel_rfl
  unfold part
  simp only [Sem.run_bind, h1, h2, Result.andThen_ok, if_true, Sem.run_pure]
  rfl
theorem six {α : Type} (l : List α) (h : l.length = 6) : ∃ a b c d e f, l = [a, b, c, d, e, f] := by
  rcases l with _ | ⟨a, _ | ⟨b, _ | ⟨c, _ | ⟨d, _ | ⟨e, _ | ⟨f, _ | ⟨g, l⟩⟩⟩⟩⟩⟩⟩ <;> simp at h
  exact ⟨a, b, c, d, e, f, rfl⟩
theorem fieldsNode : ∃ f1 f2 f3 f4 f5 f6 : Field, (Try.prog.fieldsOf 36).toList = [f1, f2, f3, f4, f5, f6] ∧ [f1, f2, f3, f4, f5, f6].map (fun f => (f.name, f.type, f.offset)) =
    [("Kind", 5, 0), ("Set", 34, 1), ("A", 3, 5), ("B", 3, 6), ("Min", 3, 7), ("Max", 3, 8)] := by
  have hf : (Try.prog.fieldsOf 36).toList.map (fun f => (f.name, f.type, f.offset)) = [("Kind", 5, 0), ("Set", 34, 1), ("A", 3, 5), ("B", 3, 6), ("Min", 3, 7), ("Max", 3, 8)] := by kernel_rfl
  generalize (Try.prog.fieldsOf 36).toList = fs at hf ⊢
  have hl := congrArg List.length hf
  simp only [List.length_map, List.length_cons, List.length_nil] at hl
  obtain ⟨f1, f2, f3, f4, f5, f6, rfl⟩ := six fs hl
  exact ⟨f1, f2, f3, f4, f5, f6, rfl, hf⟩
set_option maxRecDepth 100000 in
theorem eqNode (x y : Nd) (hx : x.s < 2 ^ 256) (hy : y.s < 2 ^ 256) (w : World) :
    (Op.equalIn 10000 36 (.agg (nd9 x).toArray) (.agg (nd9 y).toArray)).run Try.prog w = .ok (decide (x = y)) w := by
  have he : decide (x = y) = (decide (x.k = y.k) && (decide (x.s = y.s) && (decide (x.a = y.a) && (decide (x.b = y.b) && (decide (x.mn = y.mn) && decide (x.mx = y.mx)))))) := by
    cases x; cases y
    simp [Nd.mk.injEq]
  have hS := beq_words hx hy
  have a1 : (isAgg 5).run Try.prog w = .ok false w := by kernel_rfl
  have a2 : (isAgg 3).run Try.prog w = .ok false w := by kernel_rfl
  obtain ⟨f1, f2, f3, f4, f5, f6, e1, e2⟩ := fieldsNode
  simp only [List.map_cons, List.map_nil, List.cons.injEq, Prod.mk.injEq, and_true] at e2
  obtain ⟨⟨n1, t1, o1⟩, ⟨n2, t2, o2⟩, ⟨n3, t3, o3⟩, ⟨n4, t4, o4⟩, ⟨n5, t5, o5⟩, n6, t6, o6⟩ := e2
  rw [show (10000 : Nat) = 9999 + 1 from rfl, run_equalIn_struct w 9999 36 _ _ (by kernel_rfl) (by kernel_rfl), e1, he]
  unfold Op.eqFields
  rw [n1, t1, o1, if_pos (by decide)]
  simp only [Sem.run_bind, part_one _ (nd9 x).toArray 0 (.int .u8 x.k) w a1 rfl, part_one _ (nd9 y).toArray 0 (.int .u8 y.k) w a1 rfl, Result.andThen_ok]
  rw [run_equalIn_int w 9998 5 .u8 .u8 _ _ Try.underlying5]
  by_cases h1 : x.k = y.k
  case neg => (have : ((x.k : Int) == (y.k : Int)) = false := by simp only [beq_eq_false_iff_ne]; omega); simp [this, h1]
  simp only [h1, BEq.rfl, Result.andThen_ok, Bool.not_true, Bool.false_eq_true, if_false, decide_true, Bool.true_and]
  unfold Op.eqFields
  rw [n2, t2, o2, if_pos (by decide)]
  simp only [Sem.run_bind, part_set, Result.andThen_ok]
  rw [eqSet9999, hS]
  by_cases h2 : x.s = y.s
  case neg => simp [h2]
  simp only [h2, Result.andThen_ok, Bool.not_true, Bool.false_eq_true, if_false, decide_true, Bool.true_and]
  unfold Op.eqFields
  rw [n3, t3, o3, if_pos (by decide)]
  simp only [Sem.run_bind, part_one _ (nd9 x).toArray 5 (.int .i64 x.a) w a2 rfl, part_one _ (nd9 y).toArray 5 (.int .i64 y.a) w a2 rfl, Result.andThen_ok]
  rw [run_equalIn_int w 9998 3 .i64 .i64 _ _ Try.underlying3]
  by_cases h3 : x.a = y.a
  case neg => (have : ((x.a : Int) == (y.a : Int)) = false := by simp only [beq_eq_false_iff_ne]; omega); simp [this, h3]
  simp only [h3, BEq.rfl, Result.andThen_ok, Bool.not_true, Bool.false_eq_true, if_false, decide_true, Bool.true_and]
  unfold Op.eqFields
  rw [n4, t4, o4, if_pos (by decide)]
  simp only [Sem.run_bind, part_one _ (nd9 x).toArray 6 (.int .i64 x.b) w a2 rfl, part_one _ (nd9 y).toArray 6 (.int .i64 y.b) w a2 rfl, Result.andThen_ok]
  rw [run_equalIn_int w 9998 3 .i64 .i64 _ _ Try.underlying3]
  by_cases h4 : x.b = y.b
  case neg => (have : ((x.b : Int) == (y.b : Int)) = false := by simp only [beq_eq_false_iff_ne]; omega); simp [this, h4]
  simp only [h4, BEq.rfl, Result.andThen_ok, Bool.not_true, Bool.false_eq_true, if_false, decide_true, Bool.true_and]
  unfold Op.eqFields
  rw [n5, t5, o5, if_pos (by decide)]
  simp only [Sem.run_bind, part_one _ (nd9 x).toArray 7 (.int .i64 x.mn) w a2 rfl, part_one _ (nd9 y).toArray 7 (.int .i64 y.mn) w a2 rfl, Result.andThen_ok]
  rw [run_equalIn_int w 9998 3 .i64 .i64 _ _ Try.underlying3]
  by_cases h5 : x.mn = y.mn
  case neg => (have : ((x.mn : Int) == (y.mn : Int)) = false := by simp only [beq_eq_false_iff_ne]; omega); simp [this, h5]
  simp only [h5, BEq.rfl, Result.andThen_ok, Bool.not_true, Bool.false_eq_true, if_false, decide_true, Bool.true_and]
  unfold Op.eqFields
  rw [n6, t6, o6, if_pos (by decide)]
  simp only [Sem.run_bind, part_one _ (nd9 x).toArray 8 (.int .i64 x.mx) w a2 rfl, part_one _ (nd9 y).toArray 8 (.int .i64 y.mx) w a2 rfl, Result.andThen_ok]
  rw [run_equalIn_int w 9998 3 .i64 .i64 _ _ Try.underlying3]
  by_cases h6 : x.mx = y.mx
  case neg => (have : ((x.mx : Int) == (y.mx : Int)) = false := by simp only [beq_eq_false_iff_ne]; omega); simp [this, h6]
  simp only [h6, BEq.rfl, Result.andThen_ok, Bool.not_true, Bool.false_eq_true, if_false, decide_true]
  rfl
end Go.Proofs.Ytbmoanhdpnaocaa
