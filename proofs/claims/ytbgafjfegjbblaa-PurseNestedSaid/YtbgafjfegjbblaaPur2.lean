/- Run's deferred function: what it recovers, and what it hands on. -/
import Derived.Test.YtbgafjfegjbblaaPur1
import Derived.Laws.StructEq
import Derived.LaidEqlPtr
namespace Go.Proofs.Ytbgafjfegjbblaa
open Go.RowKit Dbl
theorem catch_idle (a : Addr) (w : World) :
    CallsD Try.prog 34 #[.pointer (some a)] .returning w fun e u' w' => e = .returned (.tuple #[]) ∧ u' = .returning ∧ w' = w := by
  refine callsD_of_wpS Try.func34 rfl fun c₀ cs hu => ?_
  simp only [Try.ntmps34, List.size_toArray, List.length_cons, List.length_nil, Nat.reduceAdd, Nat.reduceSub, Array.replicate_succ, Array.replicate_zero, List.push_toArray, List.append_toArray, List.nil_append, List.cons_append]
  apply wpS_seq
  apply wpS_region
  simp [wpOpsS, go_sem, recoverD, hu, Exit.thenS]
  refine wpS_of_wp ?_
  go_wp2
  cases c₀
  simp_all [bodyPostS, results, Try.results34]
theorem ptr_equal (d : Nat) (B B' b s b' s' : Nat) (w : World) (h : PurseAt w B b s) (h' : PurseAt w B' b' s') :
    (Op.equalIn (d + 1) 22 (.pointer (some ⟨B, 0, none⟩)) (.pointer (some ⟨B', 0, none⟩))).run Try.prog w = .ok (decide (B = B')) w := by
  obtain ⟨j, hj⟩ : ∃ j, Try.prog.info? 49 = some j := Option.isSome_iff_exists.1 (by kernel_rfl)
  have hsz : j.size ≠ 0 := by
    have h2 : (Try.prog.info? 49).map (·.size) = some 2 := by kernel_rfl
    rw [hj] at h2
    simp at h2
    omega
  by_cases e : B = B'
  · subst e
    simp [Op.equalIn, run_underlying Try.underlying22, sizeOf, typeInfo, hj, run_sameAddr_same]
  · simp [Op.equalIn, run_underlying Try.underlying22, sizeOf, typeInfo, hj, hsz, e, run_sameAddr_other (a := ⟨B, 0, none⟩) (b := ⟨B', 0, none⟩) w (fun q => e (congrArg Addr.block q)) h h']
theorem ovr_equal (B B' b s b' s' : Nat) (w : World) (h : PurseAt w B b s) (h' : PurseAt w B' b' s') :
    (binOp .neq 20 (ovr B) (ovr B')).run Try.prog w = .ok (.bool (!decide (B = B'))) w := by
  have hs : (Op.equalIn 9999 52 (.agg #[.pointer (some ⟨B, 0, none⟩)]) (.agg #[.pointer (some ⟨B', 0, none⟩)])).run Try.prog w = .ok (decide (B = B')) w := by
    rw [show (9999 : Nat) = 9998 + 1 from rfl, run_equalIn_struct w 9998 52 _ _ (by kernel_rfl) (by kernel_rfl)]
    have hf : (Try.prog.fieldsOf 52).toList.map (fun f => (f.name, f.type, f.offset)) = [("by", 22, 0)] := by kernel_rfl
    generalize (Try.prog.fieldsOf 52).toList = fs at hf ⊢
    obtain ⟨f1, rfl⟩ : ∃ f1, fs = [f1] := by
      cases fs with
      | nil => simp at hf
      | cons a l => cases l with
        | nil => exact ⟨a, rfl⟩
        | cons b l => simp at hf
    simp only [List.map_cons, List.map_nil, List.cons.injEq, Prod.mk.injEq, and_true] at hf
    obtain ⟨n1, t1, o1⟩ := hf
    have hp : ∀ v : Value, (part 22 #[v] 0).run Try.prog w = .ok v w := by
      intro v
      have a1 : (isAgg 22).run Try.prog w = .ok false w := by kernel_rfl
      unfold part
      simp only [Sem.run_bind, a1, Result.andThen_ok]
      rfl
    unfold Op.eqFields
    rw [n1, t1, o1, if_pos (by decide)]
    simp only [Sem.run_bind, hp, Result.andThen_ok]
    rw [show (9998 : Nat) = 9997 + 1 from rfl, ptr_equal 9997 B B' b s b' s' w h h']
    simp only [Result.andThen_ok]
    by_cases e : B = B'
    · simp [e, Op.eqFields]
    · simp [e]
  obtain ⟨i, hi⟩ : ∃ i, Try.prog.info? 52 = some i := Option.isSome_iff_exists.1 (by kernel_rfl)
  have hc : i.comparable = true := by
    have h2 : (Try.prog.info? 52).map (·.comparable) = some true := by kernel_rfl
    rw [hi] at h2
    simpa using h2
  have he : (Op.equalIn 10000 20 (ovr B) (ovr B')).run Try.prog w = .ok (decide (B = B')) w := by
    rw [show (10000 : Nat) = 9999 + 1 from rfl, Op.equalIn]
    unfold ovr
    simp [run_underlying Try.underlying20, typeInfo, hi, hc, hs]
  unfold ovr at *
  simp only [binOp]
  simp [Op.equal, Op.maxDepth, he]
/-- a frame that panics by a purse's Spend: its own is taken, another one's goes on -/
theorem catch_panicking (B B' b s b' s' : Nat) (a : Addr) (older : List PanicEntry) (w : World) (h : PurseAt w B b s) (h' : PurseAt w B' b' s') (ha : w.cell? a = some (.pointer (some ⟨B, 0, none⟩))) :
    CallsD Try.prog 34 #[.pointer (some a)] (.panicking ({ v := ovr B', recovered := false } :: older)) w fun e u' w' =>
      u' = .panicking ({ v := ovr B', recovered := true } :: older) ∧ w' = w ∧ e = (if B' = B then .returned (.tuple #[]) else .panicked [{ v := ovr B', recovered := false }]) := by
  refine callsD_of_wpS Try.func34 rfl fun c₀ cs hu => ?_
  simp only [Try.ntmps34, List.size_toArray, List.length_cons, List.length_nil, Nat.reduceAdd, Nat.reduceSub, Array.replicate_succ, Array.replicate_zero, List.push_toArray, List.append_toArray, List.nil_append, List.cons_append]
  have hq := ovr_equal B' B b' s' b s w h' h
  clear h h'
  by_cases e : B' = B
  · subst e
    simp only [decide_true, Bool.not_true] at hq
    unfold ovr at *
    apply wpS_seq
    apply wpS_region
    simp [wpOpsS, go_sem, recoverD, hu, Exit.thenS]
    refine wpS_of_wp ?_
    go_wp2
    cases c₀
    simp_all [bodyPostS, results, Try.results34]
  · have ed : decide (B' = B) = false := decide_eq_false e
    rw [ed] at hq
    simp only [Bool.not_false] at hq
    unfold ovr at *
    rw [if_neg e]
    clear e ed
    apply wpS_seq
    apply wpS_region
    simp [wpOpsS, go_sem, recoverD, hu, Exit.thenS]
    refine wpS_of_wp ?_
    go_wp2
    cases c₀
    simp_all [bodyPostS]
end Go.Proofs.Ytbgafjfegjbblaa
