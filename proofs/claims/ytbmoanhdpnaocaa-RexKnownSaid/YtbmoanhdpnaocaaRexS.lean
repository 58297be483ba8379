/- same: of trees that are one. -/
import Derived.Test.YtbmoanhdpnaocaaRexP
namespace Go.Proofs.Ytbmoanhdpnaocaa
open Go.RowKit Sets Tr Rx
theorem two' {α : Type} (l : List α) (h : l.length = 2) : ∃ a b, l = [a, b] := by
  rcases l with _ | ⟨a, _ | ⟨b, _ | ⟨c, l⟩⟩⟩ <;> simp at h
  exact ⟨a, b, rfl⟩
theorem eqPart (x y : Int × Bool) (w : World) : (Op.equalIn 10000 47 (.agg (pt2 x).toArray) (.agg (pt2 y).toArray)).run Try.prog w = .ok (decide (x = y)) w := by
  have hf : (Try.prog.fieldsOf 47).toList.map (fun f => (f.name, f.type, f.offset)) = [("Root", 3, 0), ("Not", 4, 1)] := by kernel_rfl
  have hp : (Try.prog.fieldsOf 47).toList.length = 2 := by have := congrArg List.length hf; simpa using this
  have a1 : (isAgg 3).run Try.prog w = .ok false w := by kernel_rfl
  have a2 : (isAgg 4).run Try.prog w = .ok false w := by kernel_rfl
  rw [show (10000 : Nat) = 9999 + 1 from rfl, run_equalIn_struct w 9999 47 _ _ (by kernel_rfl) (by kernel_rfl)]
  generalize (Try.prog.fieldsOf 47).toList = fs at hf hp ⊢
  obtain ⟨f1, f2, rfl⟩ := two' fs hp
  simp only [List.map_cons, List.map_nil, List.cons.injEq, Prod.mk.injEq, and_true] at hf
  obtain ⟨⟨n1, t1, o1⟩, n2, t2, o2⟩ := hf
  obtain ⟨i, b⟩ := x
  obtain ⟨j, c⟩ := y
  unfold Op.eqFields
  rw [n1, t1, o1, if_pos (by decide)]
  simp only [Sem.run_bind, part_one _ (pt2 (i, b)).toArray 0 (.int .i64 i) w a1 rfl, part_one _ (pt2 (j, c)).toArray 0 (.int .i64 j) w a1 rfl, Result.andThen_ok]
  rw [run_equalIn_int w 9998 3 .i64 .i64 _ _ Try.underlying3]
  by_cases h1 : i = j
  case neg => simp [h1]
  subst h1
  simp only [BEq.rfl, Result.andThen_ok, Bool.not_true, Bool.false_eq_true, if_false]
  unfold Op.eqFields
  rw [n2, t2, o2, if_pos (by decide)]
  simp only [Sem.run_bind, part_one _ (pt2 (i, b)).toArray 1 (.bool b) w a2 rfl, part_one _ (pt2 (i, c)).toArray 1 (.bool c) w a2 rfl, Result.andThen_ok]
  rw [show (9999 : Nat) = 9998 + 1 from rfl, Op.equalIn]
  simp only [Sem.run_bind, run_underlying Try.underlying4, Result.andThen_ok]
  cases b <;> cases c <;> simp [Op.eqFields]
theorem quiet_load_mid {C : World → Prop} {a : Act} {K : Act → Prop} {o : Oper} (ty : TypeId) (x : Operand) (ho : o.op = .load ty x) (b q : Nat) (hx : a.eval x = .pointer (some ⟨b, q, none⟩)) (cs : List Value) (d : TypeDesc)
    (hc : ∀ w, C w → w.rangeAt b q cs) (hu : Try.prog.underlying ty = some d) (hd : d.isRow = true) (hi : (Try.prog.info? ty).map (·.size) = some cs.length) (h : K (a.put o.dst (.agg cs.toArray))) : o.quiet Try.prog a C K := by
  refine ⟨.agg cs.toArray, fun w hw => ?_, h⟩
  unfold Oper.quietAt execOp
  simp only [ho, hx, run_loadAt_mid w b q ty cs d (hc w hw) hu hd hi, Sem.run_bind, Sem.run_pure, Result.andThen_ok]
  exact ⟨rfl, rfl⟩
theorem quiet_neq {C : World → Prop} {a : Act} {K : Act → Prop} {o : Oper} (ty t : TypeId) (x y : Operand) (ho : o.op = .binOp .neq ty x y t) (xs ys : Array Value) (hx : a.eval x = .agg xs) (hy : a.eval y = .agg ys) (hg : Try.prog.eqGuardType Try.prog.depth ty = false)
    (r : Bool) (hr : ∀ w, (Op.equalIn 10000 ty (.agg xs) (.agg ys)).run Try.prog w = .ok r w) (h : K (a.put o.dst (.bool (!r)))) : o.quiet Try.prog a C K := by
  refine ⟨.bool (!r), fun w hw => ?_, h⟩
  unfold Oper.quietAt execOp
  simp only [ho, hx, hy, Sem.run_bind, run_eqGuard_agg w .neq ty x y _ _ hg, run_neq_struct, hr, Result.andThen_ok, Sem.run_pure]
  exact ⟨rfl, rfl⟩
theorem nodes_mid {w : World} {a : Option Addr} {n c : Nat} {N : List Nd} (h : NodesAt w (.slice a n c) N) {i : Nat} (hi : i < N.length) : ∃ b o, a = some ⟨b, o, none⟩ ∧ w.rangeAt b (o + i * 9) (nd9 (N.getD i default)) ∧ (N.getD i default).s < 2 ^ 256 := by
  obtain ⟨b, o, e, h1, h2⟩ := h.at hi
  exact ⟨b, o, e, h1, h2.s⟩
theorem sizeNodeL (X : Nd) : (Try.prog.info? 36).map (·.size) = some (nd9 X).length := by rw [← List.size_toArray]; exact sizeNode X
theorem sizePartL (X : Int × Bool) : (Try.prog.info? 47).map (·.size) = some (pt2 X).length := by rw [show (pt2 X).length = 2 from rfl]; kernel_rfl
set_option maxHeartbeats 1600000 in
set_option maxRecDepth 100000 in
theorem same_any (na na' pa pa' : Option Addr) (nc nc' pc pc' : Nat) (N : List Nd) (R : List (Int × Bool)) (w : World) (hN : NodesAt w (.slice na N.length nc) N) (hN' : NodesAt w (.slice na' N.length nc') N)
    (hP : PartsAt w (.slice pa R.length pc) R) (hP' : PartsAt w (.slice pa' R.length pc') R) :
    Calls Try.prog 6 #[.agg #[.slice na N.length nc, .slice pa R.length pc], .agg #[.slice na' N.length nc', .slice pa' R.length pc']] w fun e w' => e = .returned (.bool true) ∧ Below w.heap.size w w' := by
  have hb := ((Below.refl w.heap.size w).alloc (Nat.le_refl _) (.cells #[.slice na N.length nc, .slice pa R.length pc] 27)).alloc (by simp) (.cells #[.slice na' N.length nc', .slice pa' R.length pc'] 27)
  have HB := Lib.hid hb
  have HN := Lib.hid (hN.kept hb)
  have HN' := Lib.hid (hN'.kept hb)
  have HP := Lib.hid (hP.kept hb)
  have HP' := Lib.hid (hP'.kept hb)
  have hNl := hN.2.1
  have hPl := hP.2.1
  have gN : Hid ((( N.length : Int) != (N.length : Int)) = false) := Lib.hid (by simp)
  clear hN hN' hP hP' hb
  go_enter Try.func6, Try.ntmps6
  go_wp2_with fail
  have h0 : ((w.alloc (.cells #[.slice na N.length nc, .slice pa R.length pc] 27)).alloc (.cells #[.slice na' N.length nc', .slice pa' R.length pc'] 27)).heap[w.heap.size]? = some (.cells #[.slice na N.length nc, .slice pa R.length pc] 27 (0, 0)) := by
    rw [Below.heap_alloc _ _ _ (by simp)]; exact heap_alloc_new w _
  have h1 : ((w.alloc (.cells #[.slice na N.length nc, .slice pa R.length pc] 27)).alloc (.cells #[.slice na' N.length nc', .slice pa' R.length pc'] 27)).heap[w.heap.size + 1]? = some (.cells #[.slice na' N.length nc', .slice pa' R.length pc'] 27 (0, 0)) := by
    have := heap_alloc_new (w.alloc (.cells #[.slice na N.length nc, .slice pa R.length pc] 27)) (.cells #[.slice na' N.length nc', .slice pa' R.length pc'] 27); simpa using this
  generalize ((w.alloc (.cells #[.slice na N.length nc, .slice pa R.length pc] 27)).alloc (.cells #[.slice na' N.length nc', .slice pa' R.length pc'] 27)) = w2 at *
  have c0 : Hid (w2.cell? ⟨w.heap.size, 0, none⟩ = some (.slice na N.length nc)) := Lib.hid (by simp [World.cell?, h0])
  have c1 : Hid (w2.cell? ⟨w.heap.size, 1, none⟩ = some (.slice pa R.length pc)) := Lib.hid (by simp [World.cell?, h0])
  have c2 : Hid (w2.cell? ⟨w.heap.size + 1, 0, none⟩ = some (.slice na' N.length nc')) := Lib.hid (by simp [World.cell?, h1])
  have c3 : Hid (w2.cell? ⟨w.heap.size + 1, 1, none⟩ = some (.slice pa' R.length pc')) := Lib.hid (by simp [World.cell?, h1])
  clear h0 h1
  go_loopw [5] (fun v wr => ∃ k : Nat, v = .int .i64 k ∧ k ≤ N.length ∧ Below w2.heap.size w2 wr) (fun v wr => (N.length - intOf v).toNat)
  case atStart => exact ⟨0, rfl, Nat.zero_le _, Below.refl _ _⟩
  case round =>
    obtain ⟨k, rfl, hk, hB⟩ := hrel
    have HBk := Lib.hid hB
    have g0 := hB.cell (World.block_lt_of_cell? _ _ c0.out) |>.trans c0.out
    have g1 := hB.cell (World.block_lt_of_cell? _ _ c1.out) |>.trans c1.out
    have g2 := hB.cell (World.block_lt_of_cell? _ _ c2.out) |>.trans c2.out
    have g3 := hB.cell (World.block_lt_of_cell? _ _ c3.out) |>.trans c3.out
    have M1 := Lib.hid (HN.out.kept hB)
    have M2 := Lib.hid (HN'.out.kept hB)
    clear hB
    by_cases hlt : k < N.length
    · have d1 : decide ((k : Int) < (N.length : Int)) = true := decide_eq_true (by omega)
      have d1' : decide (k < N.length) = true := decide_eq_true hlt
      obtain ⟨b, o, e1, r1, x1⟩ := M1.out.at hlt
      obtain ⟨b', o', e2, r2, x2⟩ := M2.out.at hlt
      subst e1 e2
      generalize hX : N.getD k default = X at *
      have R1 := Lib.hid r1
      have R2 := Lib.hid r2
      have X1 := Lib.hid x1
      clear r1 r2 x1 x2 hX
      go_wp2_with fail
      refine wp_region_quiet_lit (by kernel_rfl) (by kernel_rfl) ?_
      repeat (first
        | (refine BigFrame.wpQuiet_want rfl (fun K hK => ?_); refine quiet_load_mid 36 _ rfl b (o + k * 9) rfl _ _ (fun w' ⟨n, e⟩ => e ▸ R1.out) Try.underlying36 rfl (sizeNodeL X) ?_; refine hK _ ?_; clear hK K; simp only [Act.put, List.setIfInBounds_toArray, List.set_cons_zero, List.set_cons_succ])
        | (refine BigFrame.wpQuiet_want rfl (fun K hK => ?_); refine quiet_load_mid 36 _ rfl b' (o' + k * 9) rfl _ _ (fun w' ⟨n, e⟩ => e ▸ R2.out) Try.underlying36 rfl (sizeNodeL X) ?_; refine hK _ ?_; clear hK K; simp only [Act.put, List.setIfInBounds_toArray, List.set_cons_zero, List.set_cons_succ])
        | (refine BigFrame.wpQuiet_want rfl (fun K hK => ?_); refine quiet_neq 36 _ _ _ rfl _ _ rfl rfl (by kernel_rfl) (decide (X = X)) (fun w' => eqNode X X X1.out.s X1.out.s w') ?_; rw [decide_eq_true rfl]; refine hK _ ?_; clear hK K; simp only [Act.put, Bool.not_true, List.setIfInBounds_toArray, List.set_cons_zero, List.set_cons_succ])
        | (go_big_quiet_step (fail)))
      refine wpQuiet_nil ?_
      rintro w' ⟨n, rfl⟩
      have HBn := Lib.hid (below_drewN HBk.out n)
      generalize wr.drewN n = w4 at *
      go_wp2_with fail
      go_round
      case rel => exact ⟨k + 1, by congr 1, by omega, HBn.out⟩
      case measure => simp [intOf]; omega
    · obtain rfl : k = N.length := by omega
      have d1 : decide ((N.length : Int) < (N.length : Int)) = false := decide_eq_false (by omega)
      have d1' : decide (N.length < N.length) = false := decide_eq_false (by omega)
      go_wp2_with fail
      have HP2 := Lib.hid (HP.out.kept HBk.out)
      have HP2' := Lib.hid (HP'.out.kept HBk.out)
      have b0 := Lib.hid g0
      have b1 := Lib.hid g1
      have b2 := Lib.hid g2
      have b3 := Lib.hid g3
      have HB3 := Lib.hid (HB.out.trans (HBk.out.mono HB.out.size))
      clear HP HP' HN HN' c0 c1 c2 c3 g0 g1 g2 g3 HB HBk M1 M2 d1 d1' hlt hk
      generalize hwr : wr = w3 at *
      clear hwr wr
      go_loopw [6] (fun v wr => ∃ k : Nat, v = .int .i64 k ∧ k ≤ R.length ∧ Below w3.heap.size w3 wr) (fun v wr => (R.length - intOf v).toNat)
      case atStart => exact ⟨0, rfl, Nat.zero_le _, Below.refl _ _⟩
      case round =>
        obtain ⟨k, rfl, hk, hB⟩ := hrel
        have HBk := Lib.hid hB
        have g0 := hB.cell (World.block_lt_of_cell? _ _ b0.out) |>.trans b0.out
        have g1 := hB.cell (World.block_lt_of_cell? _ _ b1.out) |>.trans b1.out
        have g2 := hB.cell (World.block_lt_of_cell? _ _ b2.out) |>.trans b2.out
        have g3 := hB.cell (World.block_lt_of_cell? _ _ b3.out) |>.trans b3.out
        have M1 := Lib.hid (HP2.out.kept hB)
        have M2 := Lib.hid (HP2'.out.kept hB)
        clear hB
        by_cases hlt : k < R.length
        · have d1 : decide ((k : Int) < (R.length : Int)) = true := decide_eq_true (by omega)
          have d1' : decide (k < R.length) = true := decide_eq_true hlt
          obtain ⟨b, o, e1, r1, x1⟩ := M1.out.at hlt
          obtain ⟨b', o', e2, r2, x2⟩ := M2.out.at hlt
          subst e1 e2
          generalize hX : R.getD k default = X at *
          have R1 := Lib.hid r1
          have R2' := Lib.hid r2
          have X1 := Lib.hid x1
          clear r1 r2 x1 x2 hX
          go_wp2_with fail
          refine wp_region_quiet_lit (by kernel_rfl) (by kernel_rfl) ?_
          repeat (first
            | (refine BigFrame.wpQuiet_want rfl (fun K hK => ?_); refine quiet_load_mid 47 _ rfl b (o + k * 2) rfl _ _ (fun w' ⟨n, e⟩ => e ▸ R1.out) Try.underlying47 rfl (sizePartL X) ?_; refine hK _ ?_; clear hK K; simp only [Act.put, List.setIfInBounds_toArray, List.set_cons_zero, List.set_cons_succ])
            | (refine BigFrame.wpQuiet_want rfl (fun K hK => ?_); refine quiet_load_mid 47 _ rfl b' (o' + k * 2) rfl _ _ (fun w' ⟨n, e⟩ => e ▸ R2'.out) Try.underlying47 rfl (sizePartL X) ?_; refine hK _ ?_; clear hK K; simp only [Act.put, List.setIfInBounds_toArray, List.set_cons_zero, List.set_cons_succ])
            | (refine BigFrame.wpQuiet_want rfl (fun K hK => ?_); refine quiet_neq 47 _ _ _ rfl _ _ rfl rfl (by kernel_rfl) (decide (X = X)) (fun w' => eqPart X X w') ?_; rw [decide_eq_true rfl]; refine hK _ ?_; clear hK K; simp only [Act.put, Bool.not_true, List.setIfInBounds_toArray, List.set_cons_zero, List.set_cons_succ])
            | (go_big_quiet_step (fail)))
          refine wpQuiet_nil ?_
          rintro w' ⟨n, rfl⟩
          have HBn := Lib.hid (below_drewN HBk.out n)
          generalize wr.drewN n = w4 at *
          go_wp2_with fail
          go_round
          case rel => exact ⟨k + 1, by congr 1, by omega, HBn.out⟩
          case measure => simp [intOf]; omega
        · obtain rfl : k = R.length := by omega
          have d1 : decide ((R.length : Int) < (R.length : Int)) = false := decide_eq_false (by omega)
          have d1' : decide (R.length < R.length) = false := decide_eq_false (by omega)
          go_wp2_with fail
          go_ret
          exact ⟨rfl, HB3.out.trans (HBk.out.mono HB3.out.size)⟩
end Go.Proofs.Ytbmoanhdpnaocaa
