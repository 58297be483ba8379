/- Whether a node is one of its kind, what stands below it, how often. -/
import Derived.Test.YtbmoanhdpnaocaaTre0
import Derived.Test.YtbmoanhdpnaocaaFam
namespace Go.Proofs.Ytbmoanhdpnaocaa
open Go.RowKit Sets Tr
theorem wd_zero (i : Nat) : wd 0 i = 0 := by unfold wd; rw [Nat.zero_div]
/-- A node lies in block B. -/
structure BoxAt (w : World) (B : Nat) (x : Nd) : Prop where
  row : w.heap[B]? = some (.cells (nd9 x).toArray 36 (0, 0))
theorem BoxAt.new (w : World) (x : Nd) : BoxAt (w.alloc (.cells (nd9 x).toArray 36)) w.heap.size x := ⟨heap_alloc_new w _⟩
theorem BoxAt.lt {w : World} {B : Nat} {x : Nd} (h : BoxAt w B x) : B < w.heap.size := (Array.getElem?_eq_some_iff.1 h.row).1
theorem BoxAt.kept {w w' : World} {A B : Nat} {x : Nd} (h : BoxAt w B x) (hb : Below A w w') (hA : B < A) : BoxAt w' B x := ⟨by rw [hb.block _ hA]; exact h.row⟩
theorem BoxAt.cell {w : World} {B : Nat} {x : Nd} (h : BoxAt w B x) (q : Nat) (v : Value) (hv : (nd9 x)[q]? = some v) : w.cell? ⟨B, q, none⟩ = some v := by
  rw [cell_of_row w B q _ _ _ h.row]
  rw [List.getElem?_toArray]; exact hv
theorem BoxAt.range {w : World} {B : Nat} {x : Nd} (h : BoxAt w B x) : w.rangeAt B 0 (nd9 x) := by
  intro j v hv
  rw [Nat.zero_add]
  exact h.cell j v hv
theorem sizeNode (x : Nd) : (Try.prog.info? 36).map (·.size) = some (nd9 x).length := by
  show _ = some 9
  kernel_rfl
theorem BoxAt.load {w : World} {B : Nat} {x : Nd} (h : BoxAt w B x) : (Instr.loadAt 36 (.pointer (some ⟨B, 0, none⟩))).run Try.prog w = .ok (.agg (nd9 x).toArray) w :=
  run_loadAt_mid w B 0 36 (nd9 x) _ h.range Try.underlying36 rfl (sizeNode x)
set_option maxHeartbeats 800000 in
theorem countable_any (m n : Int) (w : World) : Calls Try.prog 29 #[.int .i64 m, .int .i64 n] w fun e w' => e = .returned (.bool (countable m n)) ∧ w = w' := by
  go_enter Try.func29, Try.ntmps29
  by_cases h1 : n = -1
  · subst h1
    by_cases h2 : m = 0
    · subst h2
      go_wp2
      go_ret
      exact ⟨rfl, rfl⟩
    · have h2' : (m == 0) = false := by simpa using h2
      go_wp2
      go_ret
      refine ⟨?_, rfl⟩
      unfold countable
      simp only [if_true, h2, false_or]
      by_cases h3 : m = 1 <;> simp [h3]
  · have h1' : (n == -1) = false := by simpa using h1
    by_cases h2 : 0 ≤ m
    · by_cases h3 : m ≤ n
      · go_wp2
        go_ret
        refine ⟨?_, rfl⟩
        unfold countable
        simp [h1, h2, h3]
      · go_wp2
        go_ret
        refine ⟨?_, rfl⟩
        unfold countable
        rw [if_neg h1, decide_eq_false (by omega)]; rfl
    · go_wp2
      go_ret
      refine ⟨?_, rfl⟩
      unfold countable
      rw [if_neg h1, decide_eq_false (by omega)]; rfl

theorem BoxAt.c {w : World} {B : Nat} {x : Nd} (h : BoxAt w B x) : w.cell? ⟨B, 0, none⟩ = some (.int .u8 x.k) ∧ w.cell? ⟨B, 5, none⟩ = some (.int .i64 x.a) ∧ w.cell? ⟨B, 6, none⟩ = some (.int .i64 x.b) ∧ w.cell? ⟨B, 7, none⟩ = some (.int .i64 x.mn) ∧ w.cell? ⟨B, 8, none⟩ = some (.int .i64 x.mx) :=
  ⟨h.cell 0 _ rfl, h.cell 5 _ rfl, h.cell 6 _ rfl, h.cell 7 _ rfl, h.cell 8 _ rfl⟩
theorem BoxAt.sets {w : World} {B : Nat} {x : Nd} (h : BoxAt w B x) : w.cell? ⟨B, 1, none⟩ = some (.int .u64 (wd x.s 0)) ∧ w.cell? ⟨B, 2, none⟩ = some (.int .u64 (wd x.s 1)) ∧ w.cell? ⟨B, 3, none⟩ = some (.int .u64 (wd x.s 2)) ∧ w.cell? ⟨B, 4, none⟩ = some (.int .u64 (wd x.s 3)) :=
  ⟨h.cell 1 _ rfl, h.cell 2 _ rfl, h.cell 3 _ rfl, h.cell 4 _ rfl⟩
theorem wpList_eql_node {ops : Array Oper} {rest : List Oper} {o : Oper} {a : Act} {w : World} {Q : Exit → Act → World → Prop} (hgd : o.guard = none) (x y : Operand) (t : TypeId)
    (ho : o.op = .binOp .eql 36 x y t) (X Y : Nd) (hx : a.eval x = .agg (nd9 X).toArray) (hy : a.eval y = .agg (nd9 Y).toArray) (hX : X.s < 2 ^ 256) (hY : Y.s < 2 ^ 256)
    (h : wpList Try.prog ops Q rest (a.put o.dst (.bool (decide (X = Y)))) w) : wpList Try.prog ops Q (o :: rest) a w := by
  have hg : Try.prog.eqGuardType Try.prog.depth 36 = false := by kernel_rfl
  refine wpList_plain hgd fun _ hK => ?_
  unfold Oper.wp execOp
  simp only [ho, hx, hy, Sem.run_bind, run_eqGuard_agg w .eql 36 x y _ _ hg, run_eql_struct, eqNode X Y hX hY, Result.andThen_ok, Sem.run_pure]
  exact hK _ _ h
theorem wpList_eql_node0 {ops : Array Oper} {rest : List Oper} {o : Oper} {a : Act} {w : World} {Q : Exit → Act → World → Prop} (hgd : o.guard = none) (x y : Operand) (t : TypeId)
    (ho : o.op = .binOp .eql 36 x y t) (X : Nd) (k : Nat) (na nb mn mx : Int) (hx : a.eval x = .agg (nd9 X).toArray) (hy : a.eval y = .agg #[.int .u8 k, .int .u64 0, .int .u64 0, .int .u64 0, .int .u64 0, .int .i64 na, .int .i64 nb, .int .i64 mn, .int .i64 mx])
    (hX : X.s < 2 ^ 256) (h : wpList Try.prog ops Q rest (a.put o.dst (.bool (decide (X = ⟨k, 0, na, nb, mn, mx⟩)))) w) : wpList Try.prog ops Q (o :: rest) a w :=
  wpList_eql_node hgd x y t ho X ⟨k, 0, na, nb, mn, mx⟩ hx (by rw [hy]; simp [nd9, wd_zero]) hX (by decide : (0 : Nat) < 2 ^ 256) h
theorem nd9_get (x : Nd) : (nd9 x)[0]? = some (.int .u8 x.k) ∧ (nd9 x)[1]? = some (.int .u64 (wd x.s 0)) ∧ (nd9 x)[2]? = some (.int .u64 (wd x.s 1)) ∧ (nd9 x)[3]? = some (.int .u64 (wd x.s 2)) ∧ (nd9 x)[4]? = some (.int .u64 (wd x.s 3)) ∧
    (nd9 x)[5]? = some (.int .i64 x.a) ∧ (nd9 x)[6]? = some (.int .i64 x.b) ∧ (nd9 x)[7]? = some (.int .i64 x.mn) ∧ (nd9 x)[8]? = some (.int .i64 x.mx) := ⟨rfl, rfl, rfl, rfl, rfl, rfl, rfl, rfl, rfl⟩
theorem zlt : (0 : Nat) < 2 ^ 256 := by decide
theorem zeroNode (w : World) : (zeroValue 36).run Try.prog w = .ok (.agg #[.int .u8 0, .int .u64 0, .int .u64 0, .int .u64 0, .int .u64 0, .int .i64 0, .int .i64 0, .int .i64 0, .int .i64 0]) w := by kernel_rfl
set_option maxHeartbeats 1600000 in
set_option maxRecDepth 100000 in
theorem sound_any (x : Nd) (hx : NdOk x) (w : World) : Calls Try.prog 24 #[.agg (nd9 x).toArray] w fun e w' => e = .returned (.bool (sound x)) ∧ Below w.heap.size w w' := by
  have hxs := hx.s
  have hb := (Below.refl w.heap.size w).alloc (Nat.le_refl _) (.cells (nd9 x).toArray 36)
  have hz := zeroNode
  have HB := Lib.hid hb
  obtain ⟨c0, c1, c2, c3, c4, c5, c6, c7, c8⟩ := nd9_get x
  clear hb
  go_enter Try.func24, Try.ntmps24
  have HX := Lib.hid hxs
  have HK := Lib.hid hx.k
  clear hx hxs
  obtain ⟨k, s, a, b, mn, mx⟩ := x
  simp only at *
  by_cases h1 : k = 1
  · subst h1
    go_wp2_with (refine wpList_eql_node0 rfl _ _ _ rfl ⟨1, s, a, b, mn, mx⟩ 1 0 0 0 0 rfl rfl HX.out ?_)
    go_ret
    refine ⟨?_, HB.out⟩
    unfold sound
    simp
  have g1 : ((k : Int) == 1) = false := by simp only [beq_eq_false_iff_ne]; omega
  by_cases h2 : k = 2
  · subst h2
    go_wp2_with (refine wpList_eql_node rfl _ _ _ rfl ⟨2, s, a, b, mn, mx⟩ ⟨2, s, 0, 0, 0, 0⟩ rfl rfl HX.out HX.out ?_)
    go_ret
    refine ⟨?_, HB.out⟩
    unfold sound
    simp
  have g2 : ((k : Int) == 2) = false := by simp only [beq_eq_false_iff_ne]; omega
  by_cases h3 : k = 3
  · subst h3
    go_wp2_with (refine wpList_eql_node0 rfl _ _ _ rfl ⟨3, s, a, b, mn, mx⟩ 3 a b 0 0 rfl rfl HX.out ?_)
    go_ret
    refine ⟨?_, HB.out⟩
    unfold sound
    simp
  have g3 : ((k : Int) == 3) = false := by simp only [beq_eq_false_iff_ne]; omega
  by_cases h4 : k = 4
  · subst h4
    go_wp2_with (refine wpList_eql_node0 rfl _ _ _ rfl ⟨4, s, a, b, mn, mx⟩ 4 a b 0 0 rfl rfl HX.out ?_)
    go_ret
    refine ⟨?_, HB.out⟩
    unfold sound
    simp
  have g4 : ((k : Int) == 4) = false := by simp only [beq_eq_false_iff_ne]; omega
  by_cases h5 : k = 5
  · subst h5
    have he : decide ((⟨5, s, a, b, mn, mx⟩ : Nd) = ⟨5, 0, a, 0, mn, mx⟩) = decide (s = 0 ∧ b = 0) := by simp
    by_cases hsb : s = 0 ∧ b = 0
    · rw [decide_eq_true hsb] at he
      have HE := Lib.hid he
      have HS := Lib.hid hsb
      clear he hsb
      go_wp2_with (first | (refine wpList_eql_node0 rfl _ _ _ rfl ⟨5, s, a, b, mn, mx⟩ 5 a 0 mn mx rfl rfl HX.out ?_; rw [HE.out]) | (go_at_call 29; refine (countable_any _ _ _).mono ?_; rintro e w' ⟨rfl, rfl⟩))
      go_ret
      refine ⟨?_, HB.out⟩
      unfold sound
      simp [HS.out]
    · rw [decide_eq_false hsb] at he
      have HE := Lib.hid he
      have HS := Lib.hid hsb
      clear he hsb
      go_wp2_with (refine wpList_eql_node0 rfl _ _ _ rfl ⟨5, s, a, b, mn, mx⟩ 5 a 0 mn mx rfl rfl HX.out ?_; rw [HE.out])
      go_ret
      refine ⟨?_, HB.out⟩
      unfold sound
      simp [HS.out]
  have g5 : ((k : Int) == 5) = false := by simp only [beq_eq_false_iff_ne]; omega
  go_wp2_with fail
  go_ret
  refine ⟨?_, HB.out⟩
  unfold sound
  simp [h1, h2, h3, h4, h5]
end Go.Proofs.Ytbmoanhdpnaocaa
