/- awake of stage 5's checks. -/
import Derived.Test.YtkodhaapllmdhaaDoorTal5
import Derived.Test.YtkodhaapllmdhaaDoorStr8
import Derived.Test.YtkodhaapllmdhaaDoorFam
namespace Go.Proofs.YtkodhaapllmdhaaDoor
open Go.RowKit Rk Go.Sort
theorem srt_eq (l m : List Nat) (hl : ∀ x ∈ l, x < 2 ^ 64) (hm : ∀ x ∈ m, x < 2 ^ 64 ∧ can x = x) (hs : (m.map rk).Pairwise (· ≤ ·)) (hp : (l.map rk).Perm (m.map rk)) : srt l = m :=
  canon_eq _ _ (fun _ hx => srt_mem hx) hm (ranks_unique (srt_sorted l) hs ((srt_ranks l hl).trans hp))
theorem srt_awake : srt [4613937818241073152, 9223372036854775808, 0, cano, 9218868437227405312] = [cano, 9223372036854775808, 0, 4613937818241073152, 9218868437227405312] :=
  srt_eq _ _ (by decide +kernel) (by decide +kernel) (by decide +kernel) (List.isPerm_iff.1 (by decide +kernel))
theorem tal_awake : tal [4613937818241073152, 9223372036854775808, 0, cano, 9218868437227405312] = ⟨5, 2, 9223372036854775808, 4613937818241073152, 4607182418800017408⟩ := by
  unfold tal pl
  rw [srt_awake]
  have e1 : List.filter plainB [cano, 9223372036854775808, 0, 4613937818241073152, 9218868437227405312] = [9223372036854775808, 0, 4613937818241073152] := by decide +kernel
  have e2 : meanL [9223372036854775808, 0, 4613937818241073152] = 4607182418800017408 := by decide +kernel
  rw [e1]
  unfold talP
  rw [if_neg (by decide), e2]
  rfl
theorem floats_new (w : World) (l : List Nat) (t : TypeId) (hl : ∀ x ∈ l, x < 2 ^ 64) (hn : l.length ≤ 1000) : FloatsAt (w.alloc (.cells (l.map (Value.float .f64)).toArray t)) (.slice (some ⟨w.heap.size, 0, none⟩) l.length l.length) l := by
  refine ⟨hl, by unfold maxLen; omega, _, _, rfl, fun i hi => ⟨_, _, rfl, ?_⟩⟩
  rw [Nat.zero_add, World.cell?_alloc_new]
  simp [List.getD_eq_getElem?_getD, hi]
theorem of_is (v : Value) (l : List Nat) (t : Tl) (w : World) (hq : FloatsAt w v l) (hn : l.length ≤ 1000) (ht : tal l = t) :
    Calls Tryd.prog 8 #[v] w fun e w' => e = .returned t.val ∧ Below w.heap.size w w' := by subst ht; exact of_any v l w hq hn
theorem alike_is (a b : Nat) (r : Bool) (ha : a < 2 ^ 64) (hb : b < 2 ^ 64) (hr : decide (rk a = rk b) = r) (w : World) :
    Calls Tryd.prog 15 #[.float .f64 a, .float .f64 b] w fun e w' => e = .returned (.bool r) ∧ w = w' := by subst hr; exact alike_any a b ha hb w
theorem compare_is (a b : Nat) (r : Int) (ha : a < 2 ^ 64) (hb : b < 2 ^ 64) (hr : cf a b = r) (w : World) :
    Calls Tryd.prog 13 #[.float .f64 a, .float .f64 b] w fun e w' => e = .returned (.int .i64 r) ∧ w = w' := by subst hr; exact compare_any a b ha hb w
theorem of_awake (v : Value) (w : World) (z : Nat) (hz : cano = z) (hq : FloatsAt w v [4613937818241073152, 9223372036854775808, 0, z, 9218868437227405312]) :
    Calls Tryd.prog 8 #[v] w fun e w' => e = .returned (.agg #[.int .i64 5, .int .i64 2, .float .f64 9223372036854775808, .float .f64 4613937818241073152, .float .f64 4607182418800017408]) ∧ Below w.heap.size w w' := by
  subst hz
  exact of_is v _ _ w hq (by simp) tal_awake
set_option maxHeartbeats 3200000 in
set_option maxRecDepth 100000 in
theorem awake_any (w : World) (hT : Tabs w) :
    Calls Tryd.prog 18 #[] w fun e w' => e = .returned (.bool true) ∧ Below w.heap.size w w' := by
  have hst : ∀ b a m w, Sem.run Tryd.prog (store a (.float .f64 b) m) w = stored Tryd.prog w a (.float .f64 b) m := fun b a m w => run_store Tryd.prog w a _ m rfl
  have HT := Lib.hid hT
  clear hT
  go_enter Tryd.func18, Tryd.ntmps18
  go_wp2_with fail
  refine (minus_is _).mono ?_
  rintro r w' ⟨rfl, rfl⟩
  go_wp2_with fail
  refine (nan_is _).mono ?_
  rintro r w' ⟨rfl, rfl⟩
  generalize hz : cano = z at *
  have HZ := Lib.hid hz
  clear hz
  go_wp2_with fail
  refine (inf_pos _).mono ?_
  rintro r w' ⟨rfl, rfl⟩
  go_wp2_with fail
  have hfl := floats_new w [4613937818241073152, 9223372036854775808, 0, z, 9218868437227405312] 22 (by rw [← HZ.out]; decide +kernel) (by simp)
  simp only [List.map_cons, List.map_nil, List.length_cons, List.length_nil, Nat.zero_add, Nat.reduceAdd] at hfl
  have hB0 : Below w.heap.size w (w.alloc (.cells #[.float .f64 4613937818241073152, .float .f64 9223372036854775808, .float .f64 0, .float .f64 z, .float .f64 9218868437227405312] 22)) := (Below.refl _ w).alloc (Nat.le_refl _) _
  have hs0 : w.heap.size < (w.alloc (.cells #[.float .f64 4613937818241073152, .float .f64 9223372036854775808, .float .f64 0, .float .f64 z, .float .f64 9218868437227405312] 22)).heap.size := by simp
  generalize w.alloc (.cells #[.float .f64 4613937818241073152, .float .f64 9223372036854775808, .float .f64 0, .float .f64 z, .float .f64 9218868437227405312] 22) = w1 at *
  refine (of_awake _ _ z HZ.out hfl).mono ?_
  rintro r w2 ⟨rfl, hB1⟩
  have hB2 : Below w.heap.size w w2 := hB0.trans (hB1.mono (Nat.le_of_lt hs0))
  have hT2 := HT.out.below hB2
  have hs2 : w.heap.size ≤ w2.heap.size := hB2.size
  clear hfl hB0 hs0 hB1 w1 HT HZ
  have HB := Lib.hid hB2
  have HT := Lib.hid hT2
  clear hB2 hT2
  go_wp2_with fail
  have hT3 := HT.out.below ((Below.refl _ w2).alloc (Nat.le_refl _) (.cells #[.int .i64 5, .int .i64 2, .float .f64 9223372036854775808, .float .f64 4613937818241073152, .float .f64 4607182418800017408] 24))
  have hB3 := HB.out.alloc hs2 (.cells #[.int .i64 5, .int .i64 2, .float .f64 9223372036854775808, .float .f64 4613937818241073152, .float .f64 4607182418800017408] 24)
  have hc := fun k => World.cell?_alloc_new w2 #[.int .i64 5, .int .i64 2, .float .f64 9223372036854775808, .float .f64 4613937818241073152, .float .f64 4607182418800017408] 24 k
  have k0 := hc 0
  have k1 := hc 1
  have k2 := hc 2
  have k3 := hc 3
  have k4 := hc 4
  have hg : w2.heap.size < (w2.alloc (.cells #[.int .i64 5, .int .i64 2, .float .f64 9223372036854775808, .float .f64 4613937818241073152, .float .f64 4607182418800017408] 24)).heap.size := by simp
  clear hc
  generalize w2.alloc (.cells #[.int .i64 5, .int .i64 2, .float .f64 9223372036854775808, .float .f64 4613937818241073152, .float .f64 4607182418800017408] 24) = W3 at *
  have HT3 := Lib.hid hT3
  have HB3 := Lib.hid hB3
  have e1 : (FloatKind.f64.format.order 4613937818241073152 4613937818241073152 == some .eq) = true := by decide +kernel
  have e2 : (FloatKind.f64.format.order 4607182418800017408 4607182418800017408 == some .eq) = true := by decide +kernel
  clear hT3 hB3 HT HB
  refine region_fam (by kernel_rfl) (by kernel_rfl) ?_
  intro ι hι F' hF hX
  have q0 := fun n => ((hF n).cell (p := ⟨w2.heap.size, 0, none⟩) hg).trans k0
  have q1 := fun n => ((hF n).cell (p := ⟨w2.heap.size, 1, none⟩) hg).trans k1
  have q2 := fun n => ((hF n).cell (p := ⟨w2.heap.size, 2, none⟩) hg).trans k2
  have q3 := fun n => ((hF n).cell (p := ⟨w2.heap.size, 3, none⟩) hg).trans k3
  have q4 := fun n => ((hF n).cell (p := ⟨w2.heap.size, 4, none⟩) hg).trans k4
  have HTF := Lib.hid (fun n => HT3.out.below (hF n))
  simp only [List.getElem?_toArray, List.getElem?_cons_zero, List.getElem?_cons_succ] at q0 q1 q2 q3 q4
  repeat (go_big_quiet_step (first
    | (go_at_call 10; exact fam_call hF hX ((minus_is _).mono fun _ _ ⟨he, hw⟩ => ⟨he, hw ▸ Below.refl _ _⟩))
    | (go_at_call 15; exact fam_call hF hX ((alike_is 9223372036854775808 9223372036854775808 true (by decide) (by decide) (by decide) _).mono fun _ _ ⟨he, hw⟩ => ⟨he, hw ▸ Below.refl _ _⟩))
    | (go_at_call 13; exact fam_call hF hX ((compare_is 9223372036854775808 0 (-1) (by decide) (by decide) (by decide +kernel) _).mono fun _ _ ⟨he, hw⟩ => ⟨he, hw ▸ Below.refl _ _⟩))
    | (go_at_call 16; exact fam_call hF hX ((text_tenth _ (HTF.out _)).mono fun _ _ h => h))))
  refine wpQuiet_nil ?_
  rintro _ ⟨n, rfl⟩
  have HBn := hF n
  clear q0 q1 q2 q3 q4 HTF
  generalize F' n = W4 at *
  clear hF hX n F' hι
  go_wp2_with fail
  go_ret
  exact ⟨rfl, HB3.out.trans (HBn.mono HB3.out.size)⟩
end Go.Proofs.YtkodhaapllmdhaaDoor
