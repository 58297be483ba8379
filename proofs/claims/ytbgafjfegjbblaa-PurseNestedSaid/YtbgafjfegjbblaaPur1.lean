/- Spend: it comes back, or it panics with a value of its purse's own. -/
import Derived.Test.YtbgafjfegjbblaaPur0
import Derived.Laws.NewBlocks
namespace Go.Proofs.Ytbgafjfegjbblaa
open Go.RowKit Dbl
/-- what is spent then -/
def more (s : Nat) (n : Int) : Nat := if n < 1 then s else min M (s + n.toNat)
/-- what the purse in block B panics with -/
def ovr (B : Nat) : Value := .iface 52 (.agg #[.pointer (some ⟨B, 0, none⟩)])
/-- how a Spend ends, behind which t of C is spent -/
def spendEnd (B t C : Nat) : Ending := if t ≤ C then .returned (.tuple #[]) else .panicked [{ v := ovr B, recovered := false }]
theorem spendEnd_in {B t C : Nat} (h : t ≤ C) : spendEnd B t C = .returned (.tuple #[]) := if_pos h
theorem spendEnd_over {B t C : Nat} (h : ¬ t ≤ C) : spendEnd B t C = .panicked [{ v := ovr B, recovered := false }] := if_neg h
theorem more_le {s : Nat} (hs : s ≤ M) (n : Int) : more s n ≤ M := by
  unfold more; split
  · exact hs
  · exact Nat.min_le_left _ _
theorem spend_none (v : Value) (n : Int) (w : World) (hv : v = .pointer none ∨ (∃ B, v = .pointer (some ⟨B, 0, none⟩)) ∧ n < 1) :
    Calls Try.prog 20 #[v, .int .i64 n] w fun e w' => e = .returned (.tuple #[]) ∧ w = w' := by
  rcases hv with rfl | ⟨⟨B, rfl⟩, hn⟩
  · go_enter Try.func20, Try.ntmps20
    go_wp2
    refine bodyPost_ret (results_none rfl _ _ _) rfl ?_
    exact ⟨rfl, rfl⟩
  · have hn' : decide (n < 1) = true := by simpa using hn
    clear hn
    go_enter Try.func20, Try.ntmps20
    go_wp2
    refine bodyPost_ret (results_none rfl _ _ _) rfl ?_
    exact ⟨rfl, rfl⟩
theorem spend_some (B b s : Nat) (n : Int) (w : World) (h : PurseAt w B b s) (hs : s ≤ M) (hn : 1 ≤ n) (hn2 : n ≤ 9223372036854775807) :
    Calls Try.prog 20 #[.pointer (some ⟨B, 0, none⟩), .int .i64 n] w fun e w' =>
      w' = (w.setCell ⟨B, 1, none⟩ (.int .u64 (more s n : Nat))).drew ∧ e = spendEnd B (more s n) (cap b) := by
  have hn' : decide (n < 1) = false := by simp; omega
  have c1 := h.spent
  have f1 := h.frozen 1
  have hP : PurseAt (w.setCell ⟨B, 1, none⟩ (.int .u64 (more s n : Nat))).drew B b (more s n) := h.put (more s n)
  have hm := more_le hs n
  have hmore : (more s n : Int) = if (M : Int) - s < n then (M : Int) else (s : Int) + n := by
    unfold more; rw [if_neg (by omega)]; unfold M at *; split <;> omega
  have hwn : IntKind.u64.wrap n = n := by
    unfold IntKind.wrap; simp [IntKind.signed, IntKind.bits]; omega
  have hw1 : IntKind.u64.wrap (18446744073709551615 - (s : Int)) = 18446744073709551615 - (s : Int) := by
    unfold IntKind.wrap; unfold M at hs; simp [IntKind.signed, IntKind.bits]; omega
  have hw2 : IntKind.u64.wrap ((s : Int) + if 18446744073709551615 - (s : Int) < n then 18446744073709551615 - (s : Int) else n) = (more s n : Int) := by
    rw [hmore]
    unfold M at *
    unfold IntKind.wrap; simp [IntKind.signed, IntKind.bits]; split <;> omega
  clear hmore
  generalize more s n = t at *
  have HP := Lib.hid hP
  have HS := Lib.hid hm
  clear h hP hm hs
  go_enter Try.func20, Try.ntmps20
  go_wp2_with fail
  go_region
  go_wp2_with fail
  all_goals
    refine (over_any B b t _ HP.out HS.out).mono ?_
    rintro e w' ⟨rfl, rfl⟩
    by_cases ht : t ≤ cap b
    · have hd : decide (t ≤ cap b) = true := by simpa using ht
      have HT := Lib.hid ht
      rw [hd]
      clear hd ht
      go_wp2_with fail
      go_end0
      exact ⟨rfl, (spendEnd_in HT.out).symm⟩
    · have hd : decide (t ≤ cap b) = false := by simpa using ht
      have HT := Lib.hid ht
      rw [hd]
      clear hd ht
      go_wp2_with fail
      exact ⟨rfl, rfl, (spendEnd_over HT.out).symm⟩
end Go.Proofs.Ytbgafjfegjbblaa
