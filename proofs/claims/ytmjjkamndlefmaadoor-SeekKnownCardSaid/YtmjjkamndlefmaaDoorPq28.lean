/- Several texts in one. -/
import Derived.Test.YtmjjkamndlefmaaDoorPq00
import Derived.Test.YtmjjkamndlefmaaDoorPq26
import Derived.Test.YtmjjkamndlefmaaDoorProg
import Derived.WalkKit
import Derived.WalkLawsBesides
import Derived.WalkSpells
import Derived.Lib.Hide
import Derived.Recover
import Derived.Laws.NewBlocks
import Derived.Laws.StructEq
import Derived.LaidEqlPtr
import Derived.Test.YtmjjkamndlefmaaDoorPq06
namespace Go.Proofs.YtmjjkamndlefmaaDoor
open Go.RowKit Dbl
/-- a purse: its budget's bits, what was spent -/
def PurseAt (w : World) (B b s : Nat) : Prop := w.heap[B]? = some (.cells #[.float .f64 b, .int .u64 (s : Int)] 145 (0, 0))
theorem PurseAt.budget {w : World} {B b s : Nat} (h : PurseAt w B b s) : w.cell? ⟨B, 0, none⟩ = some (.float .f64 b) := by
  unfold PurseAt at h; simp [World.cell?, h]
theorem PurseAt.spent {w : World} {B b s : Nat} (h : PurseAt w B b s) : w.cell? ⟨B, 1, none⟩ = some (.int .u64 (s : Int)) := by
  unfold PurseAt at h; simp [World.cell?, h]
theorem PurseAt.frozen {w : World} {B b s : Nat} (h : PurseAt w B b s) (i : Nat) : w.frozen? ⟨B, i, none⟩ = false := by
  unfold PurseAt at h; simp [World.frozen?, h]
theorem PurseAt.lt {w : World} {B b s : Nat} (h : PurseAt w B b s) : B < w.heap.size := (Array.getElem?_eq_some_iff.1 h).1
theorem PurseAt.put {w : World} {B b s : Nat} (h : PurseAt w B b s) (s' : Nat) : PurseAt (w.setCell ⟨B, 1, none⟩ (.int .u64 (s' : Int))) B b s' := by
  unfold PurseAt at *
  simp [World.setCell, Array.getElem?_modify, h]
theorem PurseAt.kept {w w' : World} {B b s : Nat} (h : PurseAt w B b s) (hk : w'.heap[B]? = w.heap[B]?) : PurseAt w' B b s := hk.trans h
theorem affords_any (B b s n : Nat) (w : World) (h : PurseAt w B b s) (hn : n ≤ M) :
    Calls Tryd.prog 81 #[.pointer (some ⟨B, 0, none⟩), .int .u64 (n : Int)] w fun e w' => e = .returned (.bool (decide (n ≤ cap b))) ∧ w = w' := by
  have h0 := h.budget
  clear h
  by_cases hz : n = 0
  · subst hz
    go_enter Tryd.func81, Tryd.ntmps81
    go_wp2
    go_ret
    exact ⟨by simp, rfl⟩
  · have hne : ((n : Int) == 0) = false := by simp; omega
    by_cases h1 : (FloatKind.f64.format.order b 4895412794951729152 == some .gt || FloatKind.f64.format.order b 4895412794951729152 == some .eq) = true
    · have hc : cap b = M := cap_big (by have := h1; simp only [Bool.or_eq_true, beq_iff_eq] at this; exact this)
      go_enter Tryd.func81, Tryd.ntmps81
      go_wp2
      go_ret
      rw [hc]
      exact ⟨by simp [hn], rfl⟩
    · have h1' : (FloatKind.f64.format.order b 4895412794951729152 == some .gt || FloatKind.f64.format.order b 4895412794951729152 == some .eq) = false := by simpa using h1
      have h2' : FloatKind.f64.format.order b 4895412794951729152 ≠ some .gt ∧ FloatKind.f64.format.order b 4895412794951729152 ≠ some .eq := by simpa using h1
      clear h1
      by_cases h3 : (FloatKind.f64.format.order b 0 == some .gt) = true
      · obtain ⟨c1, c2⟩ := cap_mid h2'.1 h2'.2 (by have := h3; simp only [beq_iff_eq] at this; exact this)
        clear h2'
        have hv : floatToIntVal .f64 b .u64 = some (cap b : Int) := by
          unfold floatToIntVal
          have : (FloatKind.f64.decode b).toInt .zero = some (cap b : Int) := c1
          rw [this]
          have : IntKind.u64.min ≤ (cap b : Int) ∧ (cap b : Int) ≤ IntKind.u64.max := by
            simp only [IntKind.min, IntKind.max, IntKind.signed, IntKind.bits]
            unfold M at c2
            refine ⟨by simp, ?_⟩
            simp
            omega
          simp only [if_pos this]
        have hcv := fun w => run_convert_float_int (P := Tryd.prog) w 143 52 .f64 .u64 b _ (by kernel_rfl) Tryd.underlying52 hv
        clear c1 hv
        generalize cap b = C at *
        go_enter Tryd.func81, Tryd.ntmps81
        go_wp2
        go_ret
        exact ⟨by simp, rfl⟩
      · have h3' : (FloatKind.f64.format.order b 0 == some .gt) = false := by simpa using h3
        have hc : cap b = 0 := cap_none (by have := h3; simp only [beq_iff_eq] at this; exact this)
        clear h3 h2'
        go_enter Tryd.func81, Tryd.ntmps81
        go_wp2
        go_ret
        rw [hc]
        exact ⟨by simp [hz], rfl⟩
theorem over_any (B b s : Nat) (w : World) (h : PurseAt w B b s) (hs : s ≤ M) :
    Calls Tryd.prog 80 #[.pointer (some ⟨B, 0, none⟩)] w fun e w' => e = .returned (.bool (!decide (s ≤ cap b))) ∧ w = w' := by
  have h1 := h.spent
  go_enter Tryd.func80, Tryd.ntmps80
  go_wp2_with (go_at_call 81; refine (affords_any B b s s _ h hs).mono ?_; rintro e w' ⟨rfl, rfl⟩)
  go_ret
  exact ⟨rfl, rfl⟩
theorem over_nil (w : World) :
    Calls Tryd.prog 80 #[.pointer none] w fun e w' => e = .returned (.bool false) ∧ w = w' := by
  go_enter Tryd.func80, Tryd.ntmps80
  go_wp2
  go_ret
  exact ⟨rfl, rfl⟩
end Go.Proofs.YtmjjkamndlefmaaDoor
namespace Go.Proofs.YtmjjkamndlefmaaDoor
open Go.RowKit Dbl
/-- what is spent then -/
def more (s : Nat) (n : Int) : Nat := if n < 1 then s else min M (s + n.toNat)
/-- what the purse in block B panics with -/
def ovr (B : Nat) : Value := .iface 147 (.agg #[.pointer (some ⟨B, 0, none⟩)])
/-- how a Spend ends, behind which t of C is spent -/
def spendEnd (B t C : Nat) : Ending := if t ≤ C then .returned (.tuple #[]) else .panicked [{ v := ovr B, recovered := false }]
theorem spendEnd_in {B t C : Nat} (h : t ≤ C) : spendEnd B t C = .returned (.tuple #[]) := if_pos h
theorem spendEnd_over {B t C : Nat} (h : ¬ t ≤ C) : spendEnd B t C = .panicked [{ v := ovr B, recovered := false }] := if_neg h
theorem more_le {s : Nat} (hs : s ≤ M) (n : Int) : more s n ≤ M := by
  unfold more; split
  · exact hs
  · exact Nat.min_le_left _ _
theorem spend_none (v : Value) (n : Int) (w : World) (hv : v = .pointer none ∨ (∃ B, v = .pointer (some ⟨B, 0, none⟩)) ∧ n < 1) :
    Calls Tryd.prog 76 #[v, .int .i64 n] w fun e w' => e = .returned (.tuple #[]) ∧ w = w' := by
  rcases hv with rfl | ⟨⟨B, rfl⟩, hn⟩
  · go_enter Tryd.func76, Tryd.ntmps76
    go_wp2
    refine bodyPost_ret (results_none rfl _ _ _) rfl ?_
    exact ⟨rfl, rfl⟩
  · have hn' : decide (n < 1) = true := by simpa using hn
    clear hn
    go_enter Tryd.func76, Tryd.ntmps76
    go_wp2
    refine bodyPost_ret (results_none rfl _ _ _) rfl ?_
    exact ⟨rfl, rfl⟩
theorem spend_some (B b s : Nat) (n : Int) (w : World) (h : PurseAt w B b s) (hs : s ≤ M) (hn : 1 ≤ n) (hn2 : n ≤ 9223372036854775807) :
    Calls Tryd.prog 76 #[.pointer (some ⟨B, 0, none⟩), .int .i64 n] w fun e w' =>
      w' = (w.setCell ⟨B, 1, none⟩ (.int .u64 (more s n : Nat))).drew ∧ e = spendEnd B (more s n) (cap b) := by
  have hn' : decide (n < 1) = false := by simp; omega
  have c1 := h.spent
  have f1 := h.frozen 1
  have hP : PurseAt (w.setCell ⟨B, 1, none⟩ (.int .u64 (more s n : Nat))).drew B b (more s n) := h.put (more s n)
  have hm := more_le hs n
  have hmore : (more s n : Int) = if (M : Int) - s < n then (M : Int) else (s : Int) + n := by
    unfold more; rw [if_neg (by omega)]; unfold M at *; split <;> omega
  have hwn : IntKind.u64.wrap n = n := by
    unfold IntKind.wrap; simp [IntKind.signed, IntKind.bits]; omega
  have hw1 : IntKind.u64.wrap (18446744073709551615 - (s : Int)) = 18446744073709551615 - (s : Int) := by
    unfold IntKind.wrap; unfold M at hs; simp [IntKind.signed, IntKind.bits]; omega
  have hw2 : IntKind.u64.wrap ((s : Int) + if 18446744073709551615 - (s : Int) < n then 18446744073709551615 - (s : Int) else n) = (more s n : Int) := by
    rw [hmore]
    unfold M at *
    unfold IntKind.wrap; simp [IntKind.signed, IntKind.bits]; split <;> omega
  clear hmore
  generalize more s n = t at *
  have HP := Lib.hid hP
  have HS := Lib.hid hm
  clear h hP hm hs
  go_enter Tryd.func76, Tryd.ntmps76
  go_wp2_with fail
  go_region
  go_wp2_with fail
  all_goals
    refine (over_any B b t _ HP.out HS.out).mono ?_
    rintro e w' ⟨rfl, rfl⟩
    by_cases ht : t ≤ cap b
    · have hd : decide (t ≤ cap b) = true := by simpa using ht
      have HT := Lib.hid ht
      rw [hd]
      clear hd ht
      go_wp2_with fail
      go_end0
      exact ⟨rfl, (spendEnd_in HT.out).symm⟩
    · have hd : decide (t ≤ cap b) = false := by simpa using ht
      have HT := Lib.hid ht
      rw [hd]
      clear hd ht
      go_wp2_with fail
      exact ⟨rfl, rfl, (spendEnd_over HT.out).symm⟩
end Go.Proofs.YtmjjkamndlefmaaDoor
namespace Go.Proofs.YtmjjkamndlefmaaDoor
open Go.RowKit Dbl
theorem ptr_equal (d : Nat) (B B' b s b' s' : Nat) (w : World) (h : PurseAt w B b s) (h' : PurseAt w B' b' s') :
    (Op.equalIn (d + 1) 79 (.pointer (some ⟨B, 0, none⟩)) (.pointer (some ⟨B', 0, none⟩))).run Tryd.prog w = .ok (decide (B = B')) w := by
  obtain ⟨j, hj⟩ : ∃ j, Tryd.prog.info? 145 = some j := Option.isSome_iff_exists.1 (by kernel_rfl)
  have hsz : j.size ≠ 0 := by
    have h2 : (Tryd.prog.info? 145).map (·.size) = some 2 := by kernel_rfl
    rw [hj] at h2
    simp at h2
    omega
  by_cases e : B = B'
  · subst e
    simp [Op.equalIn, run_underlying Tryd.underlying79, sizeOf, typeInfo, hj, run_sameAddr_same]
  · simp [Op.equalIn, run_underlying Tryd.underlying79, sizeOf, typeInfo, hj, hsz, e, run_sameAddr_other (a := ⟨B, 0, none⟩) (b := ⟨B', 0, none⟩) w (fun q => e (congrArg Addr.block q)) h h']
theorem ovr_equal (B B' b s b' s' : Nat) (w : World) (h : PurseAt w B b s) (h' : PurseAt w B' b' s') :
    (binOp .neq 20 (ovr B) (ovr B')).run Tryd.prog w = .ok (.bool (!decide (B = B'))) w := by
  have hs : (Op.equalIn 9999 147 (.agg #[.pointer (some ⟨B, 0, none⟩)]) (.agg #[.pointer (some ⟨B', 0, none⟩)])).run Tryd.prog w = .ok (decide (B = B')) w := by
    rw [show (9999 : Nat) = 9998 + 1 from rfl, run_equalIn_struct w 9998 147 _ _ (by kernel_rfl) (by kernel_rfl)]
    have hf : (Tryd.prog.fieldsOf 147).toList.map (fun f => (f.name, f.type, f.offset)) = [("by", 79, 0)] := by kernel_rfl
    generalize (Tryd.prog.fieldsOf 147).toList = fs at hf ⊢
    obtain ⟨f1, rfl⟩ : ∃ f1, fs = [f1] := by
      cases fs with
      | nil => simp at hf
      | cons a l => cases l with
        | nil => exact ⟨a, rfl⟩
        | cons b l => simp at hf
    simp only [List.map_cons, List.map_nil, List.cons.injEq, Prod.mk.injEq, and_true] at hf
    obtain ⟨n1, t1, o1⟩ := hf
    have hp : ∀ v : Value, (part 79 #[v] 0).run Tryd.prog w = .ok v w := by
      intro v
      have a1 : (isAgg 79).run Tryd.prog w = .ok false w := by kernel_rfl
      unfold part
      simp only [Sem.run_bind, a1, Result.andThen_ok]
      rfl
    unfold Op.eqFields
    rw [n1, t1, o1, if_pos (by decide)]
    simp only [Sem.run_bind, hp, Result.andThen_ok]
    rw [show (9998 : Nat) = 9997 + 1 from rfl, ptr_equal 9997 B B' b s b' s' w h h']
    simp only [Result.andThen_ok]
    by_cases e : B = B'
    · simp [e, Op.eqFields]
    · simp [e]
  obtain ⟨i, hi⟩ : ∃ i, Tryd.prog.info? 147 = some i := Option.isSome_iff_exists.1 (by kernel_rfl)
  have hc : i.comparable = true := by
    have h2 : (Tryd.prog.info? 147).map (·.comparable) = some true := by kernel_rfl
    rw [hi] at h2
    simpa using h2
  have he : (Op.equalIn 10000 20 (ovr B) (ovr B')).run Tryd.prog w = .ok (decide (B = B')) w := by
    rw [show (10000 : Nat) = 9999 + 1 from rfl, Op.equalIn]
    unfold ovr
    simp [run_underlying Tryd.underlying20, typeInfo, hi, hc, hs]
  unfold ovr at *
  simp only [binOp]
  simp [Op.equal, Op.maxDepth, he]
end Go.Proofs.YtmjjkamndlefmaaDoor
namespace Go.Proofs.YtmjjkamndlefmaaDoor
open Go.RowKit Dbl
/-- what Run hands on of what its function does: v its purse -/
def RunOn (q : Option Addr) (box : Addr) (R : Ending → World → Prop) : Ending → World → Prop
  | .returned _, w' => R (.returned (.bool true)) w'
  | .panicked chain, w' => ∃ B b s B' b' s' older, q = some ⟨B, 0, none⟩ ∧ chain = { v := ovr B', recovered := false } :: older ∧ older.dropWhile (!·.goexit) = [] ∧
      PurseAt w' B b s ∧ PurseAt w' B' b' s' ∧ w'.cell? box = some (.pointer q) ∧
      if B' = B then R (.returned (.bool false)) w' else R (.panicked ({ v := ovr B', recovered := false } :: { v := ovr B', recovered := true } :: older)) w'
  | .outgrown, _ => False
theorem But.purse {B : Nat} {w w' : World} (h : But B w w') {C b s : Nat} (hp : PurseAt w C b s) (hn : C ≠ B) : PurseAt w' C b s := hp.kept (h.block C hp.lt hn)
theorem spend_any (B b s : Nat) (n : Int) (w : World) (h : PurseAt w B b s) (hs : s ≤ M) (hin : s ≤ cap b) (hn2 : n ≤ 9223372036854775807) :
    Calls Tryd.prog 76 #[.pointer (some ⟨B, 0, none⟩), .int .i64 n] w fun e w' => e = spendEnd B (more s n) (cap b) ∧ PurseAt w' B b (more s n) ∧ But B w w' := by
  by_cases hn : n < 1
  · have hm : more s n = s := if_pos hn
    rw [hm, spendEnd_in hin]
    refine (spend_none _ n w (.inr ⟨⟨B, rfl⟩, hn⟩)).mono ?_
    rintro e w' ⟨rfl, rfl⟩
    exact ⟨rfl, h, .refl _ _⟩
  · refine (spend_some B b s n w h hs (by omega) hn2).mono ?_
    rintro e w' ⟨rfl, rfl⟩
    exact ⟨rfl, h.put _, (But.set _ _ _ _).drew⟩
theorem But.old {B : Nat} {w w' : World} (h : But B w w') {p : Addr} {v : Value} (hp : w.cell? p = some v) (hn : p.block ≠ B) : w'.cell? p = some v := h.cell hp hn
end Go.Proofs.YtmjjkamndlefmaaDoor
