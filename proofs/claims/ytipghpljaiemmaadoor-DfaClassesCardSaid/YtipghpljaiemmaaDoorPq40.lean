/- '==' of a partition with itself. -/
import Derived.Test.YtipghpljaiemmaaDoorPq03
import Derived.Laws.StructEq
namespace Go.Proofs.YtipghpljaiemmaaDoor
open Go.RowKit Sets Cls
theorem partC_cut (of : Nat → Nat) (n : Int) : (partC of n).extract 0 256 = (ofL of).toArray := by
  unfold partC
  rw [List.extract_toArray]
  congr 1
  simp [ofL_length, List.extract_eq_take_drop]
theorem partO (of : Nat → Nat) (n : Int) (w : World) : (part 28 (partC of n) 0).run Tryd.prog w = .ok (.agg (ofL of).toArray) w := by
  have h1 : (isAgg 28).run Tryd.prog w = .ok true w := by kernel_rfl
  have h2 : (sizeOf 28).run Tryd.prog w = .ok 256 w := by kernel_rfl
  unfold part
  simp only [Sem.run_bind, h1, h2, Result.andThen_ok, if_true, Sem.run_pure, Nat.zero_add, partC_cut]
theorem partN' (of : Nat → Nat) (n : Int) (w : World) : (part 3 (partC of n) 256).run Tryd.prog w = .ok (.int .i64 n) w := by
  have h1 : (isAgg 3).run Tryd.prog w = .ok false w := by kernel_rfl
  unfold part
  simp only [Sem.run_bind, h1, Result.andThen_ok, partC_n]
  rfl
theorem forIn_yield {σ : Type} {P : Program} {w : World} (f : Nat → σ → Sem (ForInStep σ)) (l : List Nat) (b : σ) (h : ∀ i ∈ l, (f i b).run P w = .ok (.yield b) w) : (forIn l b f).run P w = .ok b w := by
  induction l with
  | nil => rfl
  | cons x l ih =>
    rw [List.forIn_cons, Sem.run_bind, h x (by simp)]
    exact ih (fun i hi => h i (by simp [hi]))
theorem eqOf (of : Nat → Nat) (d : Nat) (w : World) : (Op.equalIn (d + 2) 28 (.agg (ofL of).toArray) (.agg (ofL of).toArray)).run Tryd.prog w = .ok true w := by
  have u3 := Tryd.underlying5
  have a3 : (isAgg 5).run Tryd.prog w = .ok false w := by kernel_rfl
  have z3 : (sizeOf 5).run Tryd.prog w = .ok 1 w := by kernel_rfl
  rw [Op.equalIn]
  simp only [Sem.run_bind, run_underlying Tryd.underlying28, Result.andThen_ok, z3]
  simp only [Std.Legacy.Range.forIn_eq_forIn_range', Std.Legacy.Range.size, Nat.sub_zero, Nat.add_sub_cancel, Nat.div_one]
  rw [forIn_yield]
  · rfl
  · intro i hi
    simp at hi
    have hp : (part 5 (ofL of).toArray (i * 1)).run Tryd.prog w = .ok (.int .u8 (of i)) w := by
      unfold part
      simp only [Sem.run_bind, a3, Result.andThen_ok, Nat.mul_one, List.getElem?_toArray, ofL_get of i hi]
      rfl
    simp only [Sem.run_bind, hp, Result.andThen_ok, run_equalIn_int w (d) 5 .u8 .u8 _ _ u3]
    simp
theorem partEq (of : Nat → Nat) (n : Int) (w : World) : (Op.equalIn 10000 30 (.agg (partC of n)) (.agg (partC of n))).run Tryd.prog w = .ok true w := by
  rw [show (10000 : Nat) = 9999 + 1 from rfl, run_equalIn_struct w 9999 30 _ _ (by kernel_rfl) (by kernel_rfl)]
  have hf : (Tryd.prog.fieldsOf 30).toList.map (fun f => (f.name, f.type, f.offset)) = [("Of", 28, 0), ("N", 3, 256)] := by kernel_rfl
  generalize (Tryd.prog.fieldsOf 30).toList = fs at hf ⊢
  obtain ⟨f1, fs1, rfl⟩ : ∃ f1 fs1, fs = f1 :: fs1 := by
    cases fs with
    | nil => simp at hf
    | cons a l => exact ⟨a, l, rfl⟩
  obtain ⟨f2, fs2, rfl⟩ : ∃ f2 fs2, fs1 = f2 :: fs2 := by
    cases fs1 with
    | nil => simp at hf
    | cons a l => exact ⟨a, l, rfl⟩
  obtain rfl : fs2 = [] := by
    cases fs2 with
    | nil => rfl
    | cons a l => simp at hf
  · have h := hf
    simp only [List.map_cons, List.map_nil, List.cons.injEq, Prod.mk.injEq, and_true] at h
    obtain ⟨⟨n1, t1, o1⟩, n2, t2, o2⟩ := h
    unfold Op.eqFields
    rw [n1, t1, o1, if_pos (by decide)]
    simp only [Sem.run_bind, partO, Result.andThen_ok]
    rw [show (9999 : Nat) = 9997 + 2 from rfl, eqOf]
    simp only [Result.andThen_ok, Bool.not_true, Bool.false_eq_true, if_false]
    unfold Op.eqFields
    rw [n2, t2, o2, if_pos (by decide)]
    simp only [Sem.run_bind, partN', Result.andThen_ok]
    rw [run_equalIn_int w 9998 3 .i64 .i64 _ _ Tryd.underlying3]
    simp only [Result.andThen_ok, BEq.rfl, Bool.not_true, Bool.false_eq_true, if_false]
    rfl
end Go.Proofs.YtipghpljaiemmaaDoor
