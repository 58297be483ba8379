/- Run, of whatever it calls. -/
import Derived.Test.YtbgafjfegjbblaaPur2
namespace Go.Proofs.Ytbgafjfegjbblaa
open Go.RowKit Dbl
theorem run_over (B b s : Nat) (fv : Fn) (c0 cp : Array Value) (w : World) (h : PurseAt w B b s) (hs : s ≤ M) (ho : ¬ s ≤ cap b) :
    Calls Try.prog 12 #[.pointer (some ⟨B, 0, none⟩), .func fv c0 cp] w fun e w' =>
      e = .returned (.bool false) ∧ w' = w.alloc (.cells #[.pointer (some ⟨B, 0, none⟩)] 22) := by
  have hO := over_any B b s (w.alloc (.cells #[.pointer (some ⟨B, 0, none⟩)] 22)) (h.kept (Below.heap_alloc _ _ _ h.lt)) hs
  rw [decide_eq_false ho] at hO
  clear h hs ho
  go_enter_defers Try.func12, Try.ntmps12
  go_wp2_with fail
  refine hO.mono ?_
  rintro e w' ⟨rfl, rfl⟩
  go_wp2_with fail
  simp [bodyPostD, Leaves, results, Try.results12]
/-- what Run hands on of what its function does: v its purse -/
def RunOn (q : Option Addr) (box : Addr) (R : Ending → World → Prop) : Ending → World → Prop
  | .returned _, w' => R (.returned (.bool true)) w'
  | .panicked chain, w' => ∃ B b s B' b' s' older, q = some ⟨B, 0, none⟩ ∧ chain = { v := ovr B', recovered := false } :: older ∧ older.dropWhile (!·.goexit) = [] ∧
      PurseAt w' B b s ∧ PurseAt w' B' b' s' ∧ w'.cell? box = some (.pointer q) ∧
      if B' = B then R (.returned (.bool false)) w' else R (.panicked ({ v := ovr B', recovered := false } :: { v := ovr B', recovered := true } :: older)) w'
  | .outgrown, _ => False
theorem runs_in (q : Option Addr) (f : FuncId) (cp : Array Value) (w : World) (R : Ending → World → Prop)
    (hv : Calls Try.prog 17 #[.pointer q] (w.alloc (.cells #[.pointer q] 22)) fun e w' => e = .returned (.bool false) ∧ w.alloc (.cells #[.pointer q] 22) = w')
    (hcall : ∀ w : World, (callFunc f cp).run Try.prog w = .ok (.enter f cp) w)
    (hdo : Calls Try.prog f cp (w.alloc (.cells #[.pointer q] 22)) (RunOn q ⟨w.heap.size, 0, none⟩ R)) :
    Calls Try.prog 12 #[.pointer q, .func (.func f) #[] cp] w R := by
  have hmf : ∀ (fn : Fn) (first cap : Array Value) (w : World), (Instr.makeFunc fn first cap).run Try.prog w = .ok (.func fn first cap) w := fun _ _ _ _ => rfl
  have hnf : ∀ w : World, (binOp .neq 1 (.func (.func f) #[] cp) .nilFunc).run Try.prog w = .ok (.bool true) w := fun w => by
    have : (Op.equalIn 10000 1 (.func (.func f) #[] cp) .nilFunc).run Try.prog w = .ok false w := by
      rw [show (10000 : Nat) = 9999 + 1 from rfl, Op.equalIn]
      simp [run_underlying Try.underlying1]
    simp only [binOp]
    simp [Op.equal, Op.maxDepth, this]
  have HDO := Lib.hid hdo
  clear hdo
  go_enter_defers Try.func12, Try.ntmps12
  go_wp2_with fail
  refine hv.mono ?_
  rintro e w' ⟨rfl, rfl⟩
  go_wp2_with fail
  refine HDO.out.mono ?_
  clear HDO
  intro e w' hR
  cases e with
  | outgrown => exact hR.elim
  | returned v0 =>
    have HR := Lib.hid hR
    clear hR hv
    go_wp2_with fail
    refine leaves_cons (f := 34) (args := #[.pointer (some ⟨w.heap.size, 0, none⟩)]) (by simp) (by simp [go_sem]) ?_
    refine (catch_idle _ _).mono ?_
    rintro e u' w'' ⟨rfl, rfl, rfl⟩
    simp [Leaves, settle, results, Try.results12]
    exact HR.out
  | panicked chain =>
    obtain ⟨B, b, s, B', b', s', older, rfl, rfl, hold, hB, hB', hbox, hR⟩ := hR
    refine leaves_cons (f := 34) (args := #[.pointer (some ⟨w.heap.size, 0, none⟩)]) (by simp) (by simp [go_sem]) ?_
    refine (catch_panicking B B' b s b' s' _ older _ hB hB' hbox).mono ?_
    rintro e u' w'' ⟨rfl, rfl, rfl⟩
    by_cases e : B' = B
    · rw [if_pos e] at hR ⊢
      simp only [Leaves, settle, hold]
      refine ⟨_, results_tmp (t := 4) rfl _ _ _, hR⟩
    · rw [if_neg e] at hR ⊢
      simp only [Leaves, raised]
      exact hR
/-- nothing that was there has turned but block B -/
structure But (B : Nat) (w w' : World) : Prop where
  os : w'.os = w.os
  tape : w'.tape = w.tape
  output : w'.output = w.output
  size : w.heap.size ≤ w'.heap.size
  block : ∀ k, k < w.heap.size → k ≠ B → w'.heap[k]? = w.heap[k]?
theorem But.refl (B : Nat) (w : World) : But B w w := ⟨rfl, rfl, rfl, Nat.le_refl _, fun _ _ _ => rfl⟩
theorem But.trans {B : Nat} {a b c : World} (h : But B a b) (k : But B b c) : But B a c :=
  ⟨k.os.trans h.os, k.tape.trans h.tape, k.output.trans h.output, Nat.le_trans h.size k.size, fun i hi hn => (k.block i (Nat.lt_of_lt_of_le hi h.size) hn).trans (h.block i hi hn)⟩
theorem But.of_below {B : Nat} {w w' : World} (h : Below w.heap.size w w') : But B w w' := ⟨h.os, h.tape, h.output, h.size, fun k hk _ => h.block k hk⟩
theorem But.alloc (B : Nat) (w : World) (o : Obj) : But B w (w.alloc o) := .of_below ((Below.refl _ w).alloc (Nat.le_refl _) o)
theorem But.set (B : Nat) (w : World) (i : Nat) (v : Value) : But B w (w.setCell ⟨B, i, none⟩ v).drew :=
  ⟨rfl, rfl, rfl, by simp, fun k _ hn => Below.heap_setCell w ⟨B, i, none⟩ v k hn⟩
theorem But.below {A B : Nat} {W w w' : World} (h : Below A W w) (k : But B w w') (hA : A ≤ B) (hw : A ≤ w.heap.size) : Below A W w' :=
  h.trans ⟨k.os, k.tape, k.output, k.size, fun i hi => k.block i (by omega) (by omega)⟩
theorem But.cell {B : Nat} {w w' : World} (h : But B w w') {p : Addr} {v : Value} (hp : w.cell? p = some v) (hn : p.block ≠ B) : w'.cell? p = some v :=
  (World.cell?_of_block (w := w) (h.block p.block (World.block_lt_of_cell? w p hp) hn)).trans hp
theorem But.purse {B : Nat} {w w' : World} (h : But B w w') {C b s : Nat} (hp : PurseAt w C b s) (hn : C ≠ B) : PurseAt w' C b s := hp.kept (h.block C hp.lt hn)
theorem spend_any (B b s : Nat) (n : Int) (w : World) (h : PurseAt w B b s) (hs : s ≤ M) (hin : s ≤ cap b) (hn2 : n ≤ 9223372036854775807) :
    Calls Try.prog 20 #[.pointer (some ⟨B, 0, none⟩), .int .i64 n] w fun e w' => e = spendEnd B (more s n) (cap b) ∧ PurseAt w' B b (more s n) ∧ But B w w' := by
  by_cases hn : n < 1
  · have hm : more s n = s := if_pos hn
    rw [hm, spendEnd_in hin]
    refine (spend_none _ n w (.inr ⟨⟨B, rfl⟩, hn⟩)).mono ?_
    rintro e w' ⟨rfl, rfl⟩
    exact ⟨rfl, h, .refl _ _⟩
  · refine (spend_some B b s n w h hs (by omega) hn2).mono ?_
    rintro e w' ⟨rfl, rfl⟩
    exact ⟨rfl, h.put _, .set _ _ _ _⟩
theorem clos_spend (B b s k2 k3 : Nat) (n : Int) (w : World) (h : PurseAt w B b s) (hs : s ≤ M) (hin : s ≤ cap b) (hn2 : n ≤ 9223372036854775807)
    (h2 : w.cell? ⟨k2, 0, none⟩ = some (.pointer (some ⟨B, 0, none⟩))) (h3 : w.cell? ⟨k3, 0, none⟩ = some (.int .i64 n)) :
    Calls Try.prog 32 #[.pointer (some ⟨k2, 0, none⟩), .pointer (some ⟨k3, 0, none⟩)] w fun e w' => e = spendEnd B (more s n) (cap b) ∧ PurseAt w' B b (more s n) ∧ But B w w' := by
  have HS := Lib.hid (spend_any B b s n w h hs hin hn2)
  clear h hs hin hn2
  by_cases ho : more s n ≤ cap b
  · rw [spendEnd_in ho] at *
    clear ho
    go_enter Try.func32, Try.ntmps32
    go_wp2_with fail
    refine HS.out.mono ?_
    rintro e w' ⟨rfl, hP, hB⟩
    go_wp2_with fail
    go_end0
    exact ⟨rfl, hP, hB⟩
  · rw [spendEnd_over ho] at *
    clear ho
    go_enter Try.func32, Try.ntmps32
    go_wp2_with fail
    refine HS.out.mono ?_
    rintro e w' ⟨rfl, hP, hB⟩
    exact ⟨rfl, rfl, hP, hB⟩
theorem call_clos (a b : Value) (w : World) : (callFunc 32 #[a, b]).run Try.prog w = .ok (.enter 32 #[a, b]) w := by simp [go_sem]
theorem But.old {B : Nat} {w w' : World} (h : But B w w') {p : Addr} {v : Value} (hp : w.cell? p = some v) (hn : p.block ≠ B) : w'.cell? p = some v := h.cell hp hn
theorem run_spends (B b s k2 k3 : Nat) (n : Int) (w : World) (h : PurseAt w B b s) (hs : s ≤ M) (hn2 : n ≤ 9223372036854775807)
    (h2 : w.cell? ⟨k2, 0, none⟩ = some (.pointer (some ⟨B, 0, none⟩))) (h3 : w.cell? ⟨k3, 0, none⟩ = some (.int .i64 n)) :
    Calls Try.prog 12 #[.pointer (some ⟨B, 0, none⟩), .func (.func 32) #[] #[.pointer (some ⟨k2, 0, none⟩), .pointer (some ⟨k3, 0, none⟩)]] w fun e w' =>
      e = .returned (.bool (decide (s ≤ cap b ∧ more s n ≤ cap b))) ∧ PurseAt w' B b (if s ≤ cap b then more s n else s) ∧ But B w w' := by
  by_cases hin : s ≤ cap b
  · rw [if_pos hin]
    have hP1 : PurseAt (w.alloc (.cells #[.pointer (some ⟨B, 0, none⟩)] 22)) B b s := h.kept (Below.heap_alloc _ _ _ h.lt)
    have hO := over_any B b s _ hP1 hs
    rw [decide_eq_true hin] at hO
    have hlt := h.lt
    refine runs_in _ _ _ w _ hO (call_clos _ _) ?_
    refine (clos_spend B b s k2 k3 n _ hP1 hs hin hn2 ?_ ?_).mono ?_
    · rw [World.cell?_alloc_lt _ _ _ (World.block_lt_of_cell? _ _ h2)]; exact h2
    · rw [World.cell?_alloc_lt _ _ _ (World.block_lt_of_cell? _ _ h3)]; exact h3
    rintro e w' ⟨rfl, hP, hB⟩
    have hB' := (But.alloc B w _).trans hB
    by_cases ho : more s n ≤ cap b
    · rw [spendEnd_in ho]
      refine ⟨?_, hP, hB'⟩
      rw [decide_eq_true ⟨hin, ho⟩]
    · rw [spendEnd_over ho]
      refine ⟨B, b, more s n, B, b, more s n, [], rfl, rfl, rfl, hP, hP, ?_, ?_⟩
      · refine hB.cell (p := ⟨w.heap.size, 0, none⟩) (by rw [World.cell?_alloc_at _ _ _ _ rfl]; rfl) (fun e => ?_)
        have : w.heap.size = B := e
        omega
      · rw [if_pos rfl]
        refine ⟨?_, hP, hB'⟩
        rw [decide_eq_false (fun q => ho q.2)]
  · rw [if_neg hin]
    refine (run_over B b s _ _ _ w h hs hin).mono ?_
    rintro e w' ⟨rfl, rfl⟩
    exact ⟨by rw [decide_eq_false (fun q => hin q.1)], h.kept (Below.heap_alloc _ _ _ h.lt), .alloc _ _ _⟩
/-- spends: it comes back just if what was spent and what is spent then are afforded -/
theorem spends_any (B b s : Nat) (n : Int) (w : World) (h : PurseAt w B b s) (hs : s ≤ M) (hn2 : n ≤ 9223372036854775807) :
    Calls Try.prog 10 #[.pointer (some ⟨B, 0, none⟩), .int .i64 n] w fun e w' =>
      e = .returned (.bool (decide (s ≤ cap b ∧ more s n ≤ cap b))) ∧ PurseAt w' B b (if s ≤ cap b then more s n else s) ∧ But B w w' := by
  have hmf : ∀ (fn : Fn) (first cap : Array Value) (w : World), (Instr.makeFunc fn first cap).run Try.prog w = .ok (.func fn first cap) w := fun _ _ _ _ => rfl
  have hb2 := (But.alloc B w (.cells #[.pointer (some ⟨B, 0, none⟩)] 22)).trans (But.alloc B _ (.cells #[.int .i64 n] 3))
  have hP2 : PurseAt ((w.alloc (.cells #[.pointer (some ⟨B, 0, none⟩)] 22)).alloc (.cells #[.int .i64 n] 3)) B b s := by
    refine h.kept ?_
    have hl := h.lt
    rw [Below.heap_alloc _ _ _ (by simp; omega), Below.heap_alloc _ _ _ hl]
  have hc2 : ((w.alloc (.cells #[.pointer (some ⟨B, 0, none⟩)] 22)).alloc (.cells #[.int .i64 n] 3)).cell? ⟨w.heap.size, 0, none⟩ = some (.pointer (some ⟨B, 0, none⟩)) := by
    rw [World.cell?_alloc_past _ _ _ (by simp), World.cell?_alloc_at _ _ _ _ rfl]; rfl
  have hc3 : ((w.alloc (.cells #[.pointer (some ⟨B, 0, none⟩)] 22)).alloc (.cells #[.int .i64 n] 3)).cell? ⟨w.heap.size + 1, 0, none⟩ = some (.int .i64 n) := by
    rw [World.cell?_alloc_at _ _ _ _ (by simp)]; rfl
  have HR := Lib.hid (run_spends B b s w.heap.size (w.heap.size + 1) n _ hP2 hs hn2 hc2 hc3)
  have HB := Lib.hid hb2
  clear hb2 hP2 hc2 hc3 h hs hn2
  generalize (if s ≤ cap b then more s n else s) = t at *
  generalize decide (s ≤ cap b ∧ more s n ≤ cap b) = r at *
  go_enter Try.func10, Try.ntmps10
  go_wp2_with fail
  refine HR.out.mono ?_
  rintro e w' ⟨rfl, hP, hB⟩
  go_wp2_with fail
  go_ret
  exact ⟨rfl, hP, HB.out.trans hB⟩
/-- spends of no purse -/
theorem spends_nil (n : Int) (w : World) :
    Calls Try.prog 10 #[.pointer none, .int .i64 n] w fun e w' => e = .returned (.bool true) ∧ Below w.heap.size w w' := by
  have hmf : ∀ (fn : Fn) (first cap : Array Value) (w : World), (Instr.makeFunc fn first cap).run Try.prog w = .ok (.func fn first cap) w := fun _ _ _ _ => rfl
  have hR : ∀ (k2 k3 : Nat) (w : World), w.cell? ⟨k2, 0, none⟩ = some (.pointer none) → w.cell? ⟨k3, 0, none⟩ = some (.int .i64 n) →
      Calls Try.prog 12 #[.pointer none, .func (.func 32) #[] #[.pointer (some ⟨k2, 0, none⟩), .pointer (some ⟨k3, 0, none⟩)]] w fun e w' =>
        e = .returned (.bool true) ∧ Below w.heap.size w w' := by
    intro k2 k3 w h2 h3
    refine runs_in none _ _ w _ (over_nil _) (call_clos _ _) ?_
    have g2 : (w.alloc (.cells #[.pointer none] 22)).cell? ⟨k2, 0, none⟩ = some (.pointer none) := by rw [World.cell?_alloc_lt _ _ _ (World.block_lt_of_cell? _ _ h2)]; exact h2
    have g3 : (w.alloc (.cells #[.pointer none] 22)).cell? ⟨k3, 0, none⟩ = some (.int .i64 n) := by rw [World.cell?_alloc_lt _ _ _ (World.block_lt_of_cell? _ _ h3)]; exact h3
    have HB := Lib.hid ((Below.refl w.heap.size w).alloc (Nat.le_refl _) (.cells #[.pointer none] 22))
    generalize w.alloc (.cells #[.pointer none] 22) = w1 at *
    have hE : Calls Try.prog 32 #[.pointer (some ⟨k2, 0, none⟩), .pointer (some ⟨k3, 0, none⟩)] w1 fun e w' => e = .returned (.tuple #[]) ∧ w' = w1 := by
      clear h2 h3
      go_enter Try.func32, Try.ntmps32
      go_wp2_with fail
      refine (spend_none _ n _ (.inl rfl)).mono ?_
      rintro e w' ⟨rfl, rfl⟩
      go_wp2_with fail
      go_end0
      exact ⟨rfl, rfl⟩
    refine hE.mono ?_
    rintro e w' ⟨rfl, rfl⟩
    exact ⟨rfl, HB.out⟩
  have hc2 : ((w.alloc (.cells #[.pointer none] 22)).alloc (.cells #[.int .i64 n] 3)).cell? ⟨w.heap.size, 0, none⟩ = some (.pointer none) := by
    rw [World.cell?_alloc_past _ _ _ (by simp), World.cell?_alloc_at _ _ _ _ rfl]; rfl
  have hc3 : ((w.alloc (.cells #[.pointer none] 22)).alloc (.cells #[.int .i64 n] 3)).cell? ⟨w.heap.size + 1, 0, none⟩ = some (.int .i64 n) := by
    rw [World.cell?_alloc_at _ _ _ _ (by simp)]; rfl
  have HR := Lib.hid (hR _ _ _ hc2 hc3)
  have HB := Lib.hid (((Below.refl w.heap.size w).alloc (Nat.le_refl _) (.cells #[.pointer none] 22)).alloc (by simp) (.cells #[.int .i64 n] 3))
  clear hR hc2 hc3
  go_enter Try.func10, Try.ntmps10
  go_wp2_with fail
  refine HR.out.mono ?_
  rintro e w' ⟨rfl, hB⟩
  go_wp2_with fail
  go_ret
  exact ⟨rfl, HB.out.trans (hB.mono (by simp; omega))⟩
end Go.Proofs.Ytbgafjfegjbblaa
