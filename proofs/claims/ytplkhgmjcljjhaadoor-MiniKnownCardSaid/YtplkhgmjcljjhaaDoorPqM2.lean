/- Several texts in one. -/
import Derived.Test.YtplkhgmjcljjhaaDoorPqM1
import Derived.Deep.QuietTactic
namespace Go.Proofs.YtplkhgmjcljjhaaDoor
open Go.RowKit Sets Nf
namespace Mi
section
variable {s0 : Nat} {Fx : Nat → Prop} {x : Ad} {n : Nat} {S P O : Nat → Nat} {L : List Bl} {T R K : List Nat} {lv tv rv : Value} {W W' : World}
/-- One more block that stays. -/
def Fq (Fx : Nat → Prop) (q : Nat) : Nat → Prop := fun k => Fx k ∨ k = q
theorem Mv.less {q : Nat} (h : Mv s0 (Fq Fx q) W W') : Mv s0 Fx W W' := ⟨h.below, fun k hk => h.fx k (.inl hk)⟩
theorem BkAt.ext (h : BkAt s0 Fx x n S P O L T R K lv tv rv W) (o : Obj) : BkAt s0 (Fq Fx W.heap.size) x n S P O L T R K lv tv rv (W.alloc o) := by
  have h1 := h.stay ((Below.refl W.heap.size W).alloc (Nat.le_refl _) o)
  refine { h1 with off := fun q hq => ?_ }
  rcases hq with hq | rfl
  · exact h1.off q hq
  · have hlt : ∀ k, k < W.heap.size → k ≠ W.heap.size := fun k hk => Nat.ne_of_lt hk
    refine ⟨by simp, ⟨(hlt _ h.ltb).symm, (hlt _ (World.rowIs.lt h.st)).symm, (hlt _ (World.rowIs.lt h.pl)).symm, (hlt _ (World.rowIs.lt h.of)).symm, (hlt _ h.mp.lt).symm⟩, fun e => ?_, fun e => ?_, fun e => ?_⟩
    · exact absurd (h.li.lt _ e).2 (Nat.lt_irrefl _)
    · exact absurd (h.tch.lt _ e).2 (Nat.lt_irrefl _)
    · exact absurd (h.rw.lt _ e).2 (Nat.lt_irrefl _)
theorem BkAt.congrO (h : BkAt s0 Fx x n S P O L T R K lv tv rv W) {O' : Nat → Nat} (e : ∀ i, i < n → O' i = O i) : BkAt s0 Fx x n S P O' L T R K lv tv rv W :=
  { h with of := World.rowIs.congr h.of (fun i hi => by rw [e i hi]) }
theorem BkAt.drewI (h : BkAt s0 Fx x n S P O L T R K lv tv rv W) : BkAt s0 Fx x n S P O L T R K lv tv rv W.drew := h.stay ((Below.refl _ _).drew)
theorem BkAt.drewM (h : BkAt s0 Fx x n S P O L T R K lv tv rv W) : Mv s0 Fx W W.drew := h.mv ((Below.refl _ _).drew)
end
/-- The states of the first j places of a block have gone over. -/
def spOj (P O : Nat → Nat) (fr k j : Nat) : Nat → Nat := fun s => if fr ≤ P s ∧ P s < fr + j then k else O s
theorem spOj_zero (P O : Nat → Nat) (fr k : Nat) : spOj P O fr k 0 = O := funext fun s => if_neg (by omega)
theorem spOj_next {n : Nat} {S P O : Nat → Nat} {L : List Bl} (h : Pa n S P O L) (fr k j : Nat) (hj : fr + j < n) : ∀ s, s < n → spOj P O fr k (j + 1) s = up (spOj P O fr k j) (S (fr + j)) k s := fun s hs => by
  unfold spOj up
  have h1 := h.sp (fr + j) hj
  by_cases e : s = S (fr + j)
  · rw [if_pos e, e, h1.2, if_pos (by omega)]
  · rw [if_neg e]
    show (if fr ≤ P s ∧ P s < fr + (j + 1) then k else O s) = (if fr ≤ P s ∧ P s < fr + j then k else O s)
    have hne : P s ≠ fr + j := fun e2 => e (by rw [← e2, (h.ps s hs).2])
    by_cases e2 : fr ≤ P s ∧ P s < fr + j
    · rw [if_pos e2, if_pos (by omega)]
    · rw [if_neg e2, if_neg (by omega)]
theorem infoBl : (Tryd.prog.info? 141).map (fun i => (i.zero, i.size, i.bytes)) = some (some (.agg #[.int .i64 0, .int .i64 0, .int .i64 0]), 3, 24) := by kernel_rfl
/-- A block's row. -/
def bl3a (b : Bl) : Array Value := (bl3 b).toArray
theorem sizeBl (b : Bl) : (Tryd.prog.info? 141).map (·.size) = some (bl3a b).size := by
  show _ = some 3
  kernel_rfl
theorem oneBl (b : Bl) : (bl3a b).all (·.oneCell') = true := by simp [bl3a, bl3, Value.oneCell']
theorem buildBl (f t : Int) (w : World) : (Instr.build 141 #[(0, .int .i64 f), (1, .int .i64 t)]).run Tryd.prog w = .ok (.agg #[.int .i64 f, .int .i64 t, .int .i64 0]) w := by kernel_rfl
set_option maxHeartbeats 6400000 in
set_option maxRecDepth 100000 in
theorem split_any {s0 : Nat} {Fx : Nat → Prop} (x : Ad) (n : Nat) (S P O : Nat → Nat) (L : List Bl) (T R : List Nat) (g c : Nat) (tv rv : Value) (i : Nat) (w : World) (h : BkAt s0 Fx x n S P O L T R R (.slice (some ⟨g, 0, none⟩) L.length c) tv rv w)
    (hp : Pa n S P O L) (hi : i < L.length) (h0 : 0 < (gb L i).2.2) (hn : n ≤ 100000) (hR : R.length ≤ 100000) (hRl : ∀ y ∈ R, y < L.length) :
    Calls Tryd.prog 75 #[.pointer (some ⟨x.b, 0, none⟩), .int .i64 i] w fun e w' => e = .returned (.tuple #[]) ∧ ∃ O' L' R' g' c' rv', BkAt s0 Fx x n S P O' L' T R' R' (.slice (some ⟨g', 0, none⟩) L'.length c') tv rv' w' ∧ Mv s0 Fx w w' ∧
      (((gb L i).1 + (gb L i).2.2 = (gb L i).2.1 ∧ O' = O ∧ L' = clL L i ∧ R' = R) ∨ ((gb L i).1 + (gb L i).2.2 ≠ (gb L i).2.1 ∧ O' = spO P O L i ∧ L' = spL L i ∧ R' = spR L R i)) := by
  have HB := Lib.hid h
  have HI := Lib.hid hi
  have HPA := Lib.hid hp
  have HN := Lib.hid hn
  have HRL := Lib.hid (And.intro hR hRl)
  have HBL := Lib.hid (hp.bl i hi)
  have HFW := Lib.hid hp.few
  have c3 := h.cells.2.2.2.1
  have hii : (i : Int) < (L.length : Int) := by omega
  have HH0 := Lib.hid h0
  clear h hp hi h0 hn hR hRl
  go_enter Tryd.func75, Tryd.ntmps75
  go_upto_region 1 with fail
  clear c3
  have HB1 := Lib.hid HB.out.drewI
  have HV1 := Lib.hid HB.out.drewM
  have l0 := (HB1.out.lcell HI.out).1
  have l2 := (HB1.out.lcell HI.out).2.2
  clear HB
  obtain ⟨b, hbl⟩ : ∃ b, Hid (gb L i = b) := ⟨_, Lib.hid rfl⟩
  rw [hbl.out] at l0 l2 HBL HH0
  obtain ⟨fr, tq, mk⟩ := b
  simp only [] at l0 l2 HBL HH0
  have HC0 : Hid (w.drew.cell? ⟨g, i * 3, none⟩ = some (.int .i64 fr) ∧ w.drew.cell? ⟨g, i * 3 + 2, none⟩ = some (.int .i64 mk)) := Lib.hid ⟨l0, l2⟩
  clear l0 l2
  have hw : wrap64 ((fr : Int) + (mk : Int)) = ((fr + mk : Nat) : Int) := wrap_sum (by have := HBL.out; have := HN.out; omega)
  refine region_mix [(false, 0), (false, 1), (false, 2), (false, 3), (false, 4), (false, 5), (false, 6), (false, 7), (false, 8), (false, 9), (false, 10), (false, 11), (false, 12), (false, 13), (true, 14)] (fun w' => w'.cell? ⟨g, i * 3, none⟩ = some (.int .i64 fr) ∧ w'.cell? ⟨g, i * 3 + 2, none⟩ = some (.int .i64 mk)) (by kernel_rfl) (by kernel_rfl) HC0.out ?_
  simp only [planOps, List.map_cons, List.map_nil, List.getD_cons_zero, List.getD_cons_succ, List.length_cons, List.length_nil, List.drop_succ_cons, List.drop_zero]
  refine mix_seg (seg := [_, _, _, _, _, _, _, _, _, _, _, _, _, _]) rfl HC0.out ?_
  intro ι hι F hF
  have f1 := fun n => (hF n).1
  have f2 := fun n => (hF n).2
  have hbb := buildBl
  iterate 14 (go_big_quiet_step (fail))
  refine wpQuiet_nil ?_
  clear f1 f2 hF hι F hbb
  generalize w.drew = w1 at *
  refine mix_eff (fun K' hK => ?_)
  go_wp2_with fail
  have hC : (w1.alloc (.cells #[.int .i64 0, .int .i64 0, .int .i64 0] 141)).cell? ⟨g, i * 3, none⟩ = some (.int .i64 fr) ∧ (w1.alloc (.cells #[.int .i64 0, .int .i64 0, .int .i64 0] 141)).cell? ⟨g, i * 3 + 2, none⟩ = some (.int .i64 mk) := ⟨by rw [World.cell?_alloc_past _ _ _ (World.block_lt_of_cell? _ _ HC0.out.1)]; exact HC0.out.1, by rw [World.cell?_alloc_past _ _ _ (World.block_lt_of_cell? _ _ HC0.out.2)]; exact HC0.out.2⟩
  refine mix_on hK hC ?_
  clear hK K' hC
  show wpList _ _ _ _ _ _
  have hrow := World.setRow_alloc_new w1 #[.int .i64 0, .int .i64 0, .int .i64 0] #[.int .i64 fr, .int .i64 ((fr : Int) + (mk : Int)), .int .i64 0] 141
  refine wpList_store_row rfl 141 (.tmp 5) (.tmp 30) rfl w1.heap.size _ rfl rfl 141 _ (heap_alloc_new w1 _) (sizeBl (fr, fr + mk, 0)) rfl (oneBl (fr, fr + mk, 0)) ?_
  rw [hrow]
  refine wpList_nil ?_
  refine NoPanic.normal ?_
  have HB2 := Lib.hid (HB1.out.ext (.cells #[.int .i64 fr, .int .i64 ((fr : Int) + (mk : Int)), .int .i64 0] 141))
  have HV2 := Lib.hid (HV1.out.trans (HB1.out.mv ((Below.refl w1.heap.size w1).alloc (Nat.le_refl _) (.cells #[.int .i64 fr, .int .i64 ((fr : Int) + (mk : Int)), .int .i64 0] 141))))
  have HQ2 : Hid ((w1.alloc (.cells #[.int .i64 fr, .int .i64 ((fr : Int) + (mk : Int)), .int .i64 0] 141)).heap[w1.heap.size]? = some (.cells #[.int .i64 fr, .int .i64 ((fr : Int) + (mk : Int)), .int .i64 0] 141 (0, 0))) := Lib.hid (heap_alloc_new w1 _)
  clear hrow HB1 HV1 HC0
  generalize w1.alloc (.cells #[.int .i64 fr, .int .i64 ((fr : Int) + (mk : Int)), .int .i64 0] 141) = w2 at *
  generalize w1.heap.size = q at *
  have HS1 := Lib.hid (HB2.out.setL HI.out (by decide : 2 < 3) (.int .i64 0) (fr, tq, 0) (by rw [hbl.out]; rfl))
  have l2 := (HB2.out.lcell HI.out).2.2
  rw [hbl.out] at l2
  have lf := HB2.out.li.frozenAt (i * 3 + 2)
  go_upto_region 3 with fail
  have HB3 := Lib.hid HS1.out.1
  have HV3 := Lib.hid (HV2.out.trans HS1.out.2.less)
  have HQ3 := Lib.hid ((HS1.out.2.fx q (.inr rfl)).trans HQ2.out)
  clear HB2 HV2 HQ2 HS1 l2 lf
  generalize w2.setCell ⟨g, i * 3 + 2, none⟩ (.int .i64 0) = w3 at *
  have hL1 : Hid ((L.set i (fr, tq, 0)).length = L.length) := Lib.hid (List.length_set ..)
  have HG1 : Hid (gb (L.set i (fr, tq, 0)) i = (fr, tq, 0)) := Lib.hid (by rw [gb_set _ _ _ _ HI.out, if_pos rfl])
  have HI1 : Hid (i < (L.set i (fr, tq, 0)).length) := Lib.hid (by rw [hL1.out]; exact HI.out)
  have HCL : Hid (clL L i = L.set i (fr, tq, 0)) := Lib.hid (by unfold clL; rw [hbl.out])
  have l1 := (HB3.out.lcell HI1.out).2.1
  rw [HG1.out] at l1
  have q1 : w3.cell? ⟨q, 1, none⟩ = some (.int .i64 ((fr : Int) + (mk : Int))) := by rw [cell_of_row w3 q 1 _ _ _ HQ3.out]; rfl
  have HB4 := Lib.hid HB3.out.drewI
  have HV4 := Lib.hid (HV3.out.trans HB3.out.drewM.less)
  have HQ4 : Hid (w3.drew.heap[q]? = some (.cells #[.int .i64 fr, .int .i64 ((fr : Int) + (mk : Int)), .int .i64 0] 141 (0, 0))) := HQ3
  refine region_mix [(false, 0), (false, 1), (false, 2), (false, 3), (false, 4), (false, 5)] (fun w' => w' = w3.drew) (by kernel_rfl) (by kernel_rfl) rfl ?_
  simp only [planOps, List.map_cons, List.map_nil, List.getD_cons_zero, List.getD_cons_succ, List.length_cons, List.length_nil, List.drop_succ_cons, List.drop_zero]
  refine mix_seg (seg := [_, _, _, _, _, _]) (rest := []) rfl rfl ?_
  intro ι hι F hF
  have f1 : ∀ n, (F n).cell? ⟨q, 1, none⟩ = some (.int .i64 ((fr : Int) + (mk : Int))) := fun n => by rw [hF n]; exact q1
  have f2 : ∀ n, (F n).cell? ⟨g, i * 3 + 1, none⟩ = some (.int .i64 tq) := fun n => by rw [hF n]; exact l1
  iterate 6 (go_big_quiet_step (fail))
  refine wpQuiet_nil ?_
  clear f1 f2 hF hι F q1 l1
  show wpList _ _ _ _ _ _
  go_wp2_with fail
  refine NoPanic.normal ?_
  clear HB3 HV3 HQ3
  generalize w3.drew = w4 at *
  by_cases he : fr + mk = tq
  · have hd : ((fr : Int) + (mk : Int) == (tq : Int)) = true := by rw [← he]; simp
    go_wp2_with fail
    (try simp only [Exit.inBlock, Exit.then])
    refine bodyPost_ret (results_none rfl _ _ _) rfl ?_
    refine ⟨rfl, O, L.set i (fr, tq, 0), R, g, c, rv, HB4.out.weak (fun _ h => .inl h), HV4.out, .inl ⟨?_, rfl, HCL.out.symm, rfl⟩⟩
    rw [hbl.out]; exact he
  · have hd : ((fr : Int) + (mk : Int) == (tq : Int)) = false := by rw [beq_eq_false_iff_ne]; omega
    have HE := Lib.hid he
    clear he
    have l0 := (HB4.out.lcell HI1.out).1
    rw [HG1.out] at l0
    have lf := HB4.out.li.frozenAt (i * 3)
    have q1 : w4.cell? ⟨q, 1, none⟩ = some (.int .i64 ((fr : Int) + (mk : Int))) := by rw [cell_of_row w4 q 1 _ _ _ HQ4.out]; rfl
    have HS1 := Lib.hid (HB4.out.setL HI1.out (by decide : 0 < 3) (.int .i64 ((fr : Int) + (mk : Int))) (fr + mk, tq, 0) (by rw [HG1.out]; rfl))
    rw [List.set_set] at HS1
    go_upto_region 5 with fail
    have HB5 := Lib.hid HS1.out.1
    have HV5 := Lib.hid (HV4.out.trans HS1.out.2.less)
    have HQ5 := Lib.hid ((HS1.out.2.fx q (.inr rfl)).trans HQ4.out)
    clear HB4 HV4 HQ4 HS1 l0 lf q1 hd hL1 HG1 HI1 HCL
    have e0 : i * 3 + 0 = i * 3 := rfl
    generalize w4.setCell ⟨g, i * 3, none⟩ (.int .i64 ((fr : Int) + (mk : Int))) = w5 at *
    have HL2 : Hid ((L.set i (fr + mk, tq, 0)).length = L.length) := Lib.hid (List.length_set ..)
    rw [HL2.out] at HB5
    have c3 := HB5.out.cells.2.2.2.1
    go_upto_region 6 with fail
    have c0 := HB5.out.cells.1
    have q0 : w5.cell? ⟨q, 0, none⟩ = some (.int .i64 fr) := by rw [cell_of_row w5 q 0 _ _ _ HQ5.out]; rfl
    have q1 : w5.cell? ⟨q, 1, none⟩ = some (.int .i64 ((fr : Int) + (mk : Int))) := by rw [cell_of_row w5 q 1 _ _ _ HQ5.out]; rfl
    have h1 : (fr : Int) ≤ (fr : Int) + (mk : Int) := by omega
    have h2 : (fr : Int) + (mk : Int) ≤ (n : Int) := by have := HBL.out; omega
    have hnf : ¬ n = fr := by have := HBL.out; omega
    go_quiet (fail)
    rw [show fr + mk - fr = mk from by omega]
    have HB6 := Lib.hid (HB5.out.stay (below_drewN (Below.refl w5.heap.size w5) nq))
    have HV6 := Lib.hid (HV5.out.trans (HB5.out.mv (below_drewN (Below.refl w5.heap.size w5) nq)).less)
    have HQ6 : Hid ((w5.drewN nq).heap[q]? = some (.cells #[.int .i64 fr, .int .i64 ((fr : Int) + (mk : Int)), .int .i64 0] 141 (0, 0))) := HQ5
    clear HB5 HV5 HQ5 c0 c3 q0 q1 h1 h2 hnf
    generalize w5.drewN nq = w6 at *
    go_wp2_with fail
    go_loopw [61] (fun v wr => ∃ j : Nat, v = .int .i64 j ∧ j ≤ mk ∧ Hid (BkAt s0 (Fq Fx q) x n S P (spOj P O fr L.length j) (L.set i (fr + mk, tq, 0)) T R R (.slice (some ⟨g, 0, none⟩) L.length c) tv rv wr) ∧ Hid (Mv s0 Fx w wr) ∧ Hid (wr.heap[q]? = some (.cells #[.int .i64 fr, .int .i64 ((fr : Int) + (mk : Int)), .int .i64 0] 141 (0, 0)))) (fun v _ => ((mk : Int) - intOf v).toNat)
    case atStart => exact ⟨0, rfl, Nat.zero_le _, by rw [spOj_zero]; exact HB6, HV6, HQ6⟩
    case round =>
      clear HB6 HV6 HQ6
      obtain ⟨j, rfl, hj, HB7, HV7, HQ7⟩ := hrel
      generalize hwr : wr = w7 at *
      clear hwr wr w6
      by_cases hlt : j < mk
      · have hdd : decide ((j : Int) < (mk : Int)) = true := decide_eq_true (by omega)
        have hd2 : decide (j < mk) = true := decide_eq_true hlt
        have HJ := Lib.hid hlt
        have HFJ : Hid (fr + j < n) := Lib.hid (by have := HBL.out; omega)
        have HSJ := Lib.hid (HPA.out.sp (fr + j) HFJ.out)
        have cs := World.rowIs.cell HB7.out.st HFJ.out
        have c2 := HB7.out.cells.2.2.1
        have co := World.rowIs.cell HB7.out.of HSJ.out.1
        have cf := World.rowIs.frozen HB7.out.of (S (fr + j))
        have hsi : ((S (fr + j) : Nat) : Int) < (n : Int) := by have := HSJ.out; omega
        have HS1 := Lib.hid (HB7.out.setO (S (fr + j)) L.length)
        have HNX := Lib.hid (spOj_next HPA.out fr L.length j HFJ.out)
        have HW1 : Hid (wrap64 ((j : Int) + 1) = ((j + 1 : Nat) : Int)) := Lib.hid (nat_wrap (by have := HBL.out; have := HN.out; omega))
        have hji : (j : Int) < (mk : Int) := by omega
        clear hlt
        generalize S (fr + j) = sj at *
        go_wp2_with fail
        go_roundw
        case rel => exact ⟨j + 1, by rw [HW1.out], HJ.out, Lib.hid (HS1.out.1.congrO HNX.out), Lib.hid (HV7.out.trans HS1.out.2.less), Lib.hid ((HS1.out.2.fx q (.inr rfl)).trans HQ7.out)⟩
        case measure => rw [HW1.out]; exact meas8 HJ.out
      · have hdd : decide ((j : Int) < (mk : Int)) = false := decide_eq_false (by omega)
        have hd2 : decide (j < mk) = false := decide_eq_false hlt
        have HE7 : Hid (j = mk) := Lib.hid (by omega)
        rw [HE7.out] at HB7
        clear hlt
        go_upto_region 11 with fail
        have hlk := HB7.out.mp.look i
        have c7 := HB7.out.cells.2.2.2.2.2.2.2.1
        generalize hbb : decide (i ∈ R) = bb at *
        have HBB := Lib.hid hbb
        clear hbb
        go_upto_region 12 with fail
        have hal := (Below.refl w7.heap.size w7).alloc (Nat.le_refl _) (.cells #[] 87)
        have HB8 := Lib.hid (HB7.out.stay hal)
        have HV8 := Lib.hid (HV7.out.trans (HB7.out.mv hal).less)
        have HQ8 := Lib.hid ((hal.block q (HB7.out.off q (.inr rfl)).1).trans HQ7.out)
        clear hal HB7 HV7 HQ7 hlk c7 hdd hd2
        generalize w7.alloc (.cells #[] 87) = w8 at *
        generalize (Value.pointer (some ⟨w7.heap.size, 0, none⟩)) = pv at *
        have HG2 : Hid (gb (L.set i (fr + mk, tq, 0)) i = (fr + mk, tq, 0)) := Lib.hid (by rw [gb_set _ _ _ _ HI.out, if_pos rfl])
        have HI2 : Hid (i < (L.set i (fr + mk, tq, 0)).length) := Lib.hid (by rw [HL2.out]; exact HI.out)
        go_cut [9, 10, 99] from 73 to 99 (fun a b v wr => v = .bool (decide (i ∈ R ∨ mk ≤ tq - (fr + mk))) ∧ a = pv ∧ b = .bool bb ∧ wr = w8.drew)
        case first =>
          have q0 : w8.cell? ⟨q, 0, none⟩ = some (.int .i64 fr) := by rw [cell_of_row w8 q 0 _ _ _ HQ8.out]; rfl
          have q1 : w8.cell? ⟨q, 1, none⟩ = some (.int .i64 ((fr : Int) + (mk : Int))) := by rw [cell_of_row w8 q 1 _ _ _ HQ8.out]; rfl
          have hl8 := HB8.out
          rw [← HL2.out] at hl8
          have l0 := (hl8.lcell HI2.out).1
          have l1 := (hl8.lcell HI2.out).2.1
          clear hl8
          rw [HG2.out] at l0 l1
          simp only [] at l0 l1
          have hw1 : wrap64 ((fr : Int) + (mk : Int) - (fr : Int)) = (mk : Int) := by have := HBL.out; have := HN.out; unfold wrap64; omega
          have hw2 : wrap64 ((tq : Int) - ((fr + mk : Nat) : Int)) = ((tq - (fr + mk) : Nat) : Int) := by have := HBL.out; have := HN.out; unfold wrap64; omega
          cases bb
          · refine region_mix [(false, 0), (false, 1), (false, 2), (false, 3), (false, 4), (false, 5), (false, 6), (false, 7), (false, 8), (false, 9), (false, 10), (false, 11), (false, 12), (false, 13), (false, 14), (false, 15), (false, 16)] (fun w' => w' = w8.drew) (by kernel_rfl) (by kernel_rfl) rfl ?_
            simp only [planOps, List.map_cons, List.map_nil, List.getD_cons_zero, List.getD_cons_succ, List.length_cons, List.length_nil, List.drop_succ_cons, List.drop_zero]
            refine mix_seg (seg := [_, _, _, _, _, _, _, _, _, _, _, _, _, _, _, _, _]) (rest := []) rfl rfl ?_
            intro ι hι F hF
            have f1 : ∀ n, (F n).cell? ⟨q, 0, none⟩ = some (.int .i64 fr) := fun n => by rw [hF n]; exact q0
            have f2 : ∀ n, (F n).cell? ⟨q, 1, none⟩ = some (.int .i64 ((fr : Int) + (mk : Int))) := fun n => by rw [hF n]; exact q1
            have f3 : ∀ n, (F n).cell? ⟨g, i * 3, none⟩ = some (.int .i64 ((fr + mk : Nat) : Int)) := fun n => by rw [hF n]; exact l0
            have f4 : ∀ n, (F n).cell? ⟨g, i * 3 + 1, none⟩ = some (.int .i64 tq) := fun n => by rw [hF n]; exact l1
            iterate 17 (go_big_quiet_step (fail))
            refine wpQuiet_nil ?_
            clear f1 f2 f3 f4 hF hι F q0 q1 l0 l1
            show wpList _ _ _ _ _ _
            go_wp2_with fail
            refine NoPanic.normal ?_
            go_wp2_with fail
            have hnm : i ∉ R := fun hm => by have := HBB.out; rw [decide_eq_true hm] at this; cases this
            go_meet
            case rel => exact ⟨congrArg Value.bool (by simp only [hnm, false_or]; rw [show (fr : Int) + (mk : Int) = ((fr + mk : Nat) : Int) from by omega, hw2]; exact decide_eq_decide.2 (by omega)), rfl, rfl, rfl⟩
          · refine region_mix [(false, 0), (false, 1), (false, 2), (false, 3), (false, 4), (false, 5), (false, 6), (false, 7), (false, 8), (false, 9), (false, 10), (false, 11), (false, 12), (false, 13), (false, 14), (false, 15), (false, 16)] (fun w' => w' = w8.drew) (by kernel_rfl) (by kernel_rfl) rfl ?_
            simp only [planOps, List.map_cons, List.map_nil, List.getD_cons_zero, List.getD_cons_succ, List.length_cons, List.length_nil, List.drop_succ_cons, List.drop_zero]
            refine mix_seg (seg := [_, _, _, _, _, _, _, _, _, _, _, _, _, _, _, _, _]) (rest := []) rfl rfl ?_
            intro ι hι F hF
            have f1 : ∀ n, (F n).cell? ⟨q, 0, none⟩ = some (.int .i64 fr) := fun n => by rw [hF n]; exact q0
            have f2 : ∀ n, (F n).cell? ⟨q, 1, none⟩ = some (.int .i64 ((fr : Int) + (mk : Int))) := fun n => by rw [hF n]; exact q1
            have f3 : ∀ n, (F n).cell? ⟨g, i * 3, none⟩ = some (.int .i64 ((fr + mk : Nat) : Int)) := fun n => by rw [hF n]; exact l0
            have f4 : ∀ n, (F n).cell? ⟨g, i * 3 + 1, none⟩ = some (.int .i64 tq) := fun n => by rw [hF n]; exact l1
            iterate 17 (go_big_quiet_step (fail))
            refine wpQuiet_nil ?_
            clear f1 f2 f3 f4 hF hι F q0 q1 l0 l1
            show wpList _ _ _ _ _ _
            go_wp2_with fail
            refine NoPanic.normal ?_
            go_wp2_with fail
            have hnm : i ∈ R := of_decide_eq_true HBB.out
            go_meet
            case rel => exact ⟨congrArg Value.bool (by simp [hnm]), rfl, rfl, rfl⟩
        case rest =>
          obtain ⟨rfl, rfl, rfl, rfl⟩ := hcut
          have HB9 := Lib.hid HB8.out.drewI
          have HV9 := Lib.hid (HV8.out.trans HB8.out.drewM.less)
          have HQ9 : Hid (w8.drew.heap[q]? = some (.cells #[.int .i64 fr, .int .i64 ((fr : Int) + (mk : Int)), .int .i64 0] 141 (0, 0))) := HQ8
          clear HB8 HV8 HQ8
          generalize w8.drew = w9 at *
          have HSR : Hid (spR L R i = if i ∈ R ∨ mk ≤ tq - (fr + mk) then R ++ [L.length] else R ++ [i]) := Lib.hid (by unfold spR; rw [hbl.out])
          go_upto_if 99 with fail
          go_cut [40, 99] from 100 to 105 (fun _ _ wr => Hid (∃ rv', BkAt s0 (Fq Fx q) x n S P (spOj P O fr L.length mk) (L.set i (fr + mk, tq, 0)) T (spR L R i) (spR L R i) (.slice (some ⟨g, 0, none⟩) L.length c) tv rv' wr) ∧ Hid (Mv s0 Fx w wr) ∧ Hid (wr.heap[q]? = some (.cells #[.int .i64 fr, .int .i64 ((fr : Int) + (mk : Int)), .int .i64 0] 141 (0, 0))))
          case first =>
            by_cases hcc : i ∈ R ∨ mk ≤ tq - (fr + mk)
            · rw [if_pos hcc] at HSR
              have hd : decide (i ∈ R ∨ mk ≤ tq - (fr + mk)) = true := decide_eq_true hcc
              have HNR : Hid (L.length ∉ R) := Lib.hid (fun hm => by have := HRL.out.2 _ hm; omega)
              generalize decide (i ∈ R ∨ mk ≤ tq - (fr + mk)) = dd at *
              subst hd
              clear hcc
              go_wp2_with (go_at_call 83; refine (wait_any x n S P _ _ T R _ tv rv L.length _ HB9.out HNR.out HRL.out.1).mono ?_; rintro e w10 ⟨rfl, rv', h1, h2⟩; have HB10 := Lib.hid h1; have HV10 := Lib.hid h2; clear h1 h2)
              go_meet
              case rel => exact ⟨Lib.hid ⟨rv', by rw [HSR.out]; exact HB10.out⟩, Lib.hid (HV9.out.trans HV10.out.less), Lib.hid ((HV10.out.fx q (.inr rfl)).trans HQ9.out)⟩
            · rw [if_neg hcc] at HSR
              have hd : decide (i ∈ R ∨ mk ≤ tq - (fr + mk)) = false := decide_eq_false hcc
              have HNR : Hid (i ∉ R) := Lib.hid (fun hm => hcc (.inl hm))
              generalize decide (i ∈ R ∨ mk ≤ tq - (fr + mk)) = dd at *
              subst hd
              clear hcc
              go_wp2_with (go_at_call 83; refine (wait_any x n S P _ _ T R _ tv rv i _ HB9.out HNR.out HRL.out.1).mono ?_; rintro e w10 ⟨rfl, rv', h1, h2⟩; have HB10 := Lib.hid h1; have HV10 := Lib.hid h2; clear h1 h2)
              go_meet
              case rel => exact ⟨Lib.hid ⟨rv', by rw [HSR.out]; exact HB10.out⟩, Lib.hid (HV9.out.trans HV10.out.less), Lib.hid ((HV10.out.fx q (.inr rfl)).trans HQ9.out)⟩
          case rest =>
            obtain ⟨hx, HV11, HQ11⟩ := hcut
            obtain ⟨rv', hx⟩ := hx.out
            have HB11 := Lib.hid hx
            clear hx HB9 HV9 HQ9 w9
            generalize wc = w11 at *
            go_upto_region 15 with fail
            have HB12 := Lib.hid HB11.out.drewI
            have HV12 := Lib.hid (HV11.out.trans HB11.out.drewM.less)
            clear HB11 HV11
            have HC0 : Hid (w11.drew.cell? ⟨x.b, 3, none⟩ = some (.slice (some ⟨g, 0, none⟩) L.length c) ∧ w11.drew.heap[q]? = some (.cells #[.int .i64 fr, .int .i64 ((fr : Int) + (mk : Int)), .int .i64 0] 141 (0, 0))) := Lib.hid ⟨HB12.out.cells.2.2.2.1, HQ11.out⟩
            clear HQ11
            refine region_mix [(false, 0), (false, 1), (false, 2), (false, 3), (false, 4), (false, 5), (true, 6), (true, 7), (false, 8), (false, 9)] (fun w' => w'.cell? ⟨x.b, 3, none⟩ = some (.slice (some ⟨g, 0, none⟩) L.length c) ∧ w'.heap[q]? = some (.cells #[.int .i64 fr, .int .i64 ((fr : Int) + (mk : Int)), .int .i64 0] 141 (0, 0))) (by kernel_rfl) (by kernel_rfl) HC0.out ?_
            simp only [planOps, List.map_cons, List.map_nil, List.getD_cons_zero, List.getD_cons_succ, List.length_cons, List.length_nil, List.drop_succ_cons, List.drop_zero]
            refine mix_seg (seg := [_, _, _, _, _, _]) rfl HC0.out ?_
            intro ι hι F hF
            have f1 := fun n => (hF n).1
            have f2 := Lib.hid (fun n => (hF n).2)
            iterate 5 (go_big_quiet_step (fail))
            refine BigFrame.wpQuiet_want rfl (fun K hK => ?_); refine quiet_load_row 141 _ rfl q rfl 141 #[.int .i64 fr, .int .i64 ((fr : Int) + (mk : Int)), .int .i64 0] (0, 0) _ (fun w' ⟨n, e⟩ => e ▸ (f2.out n)) Tryd.underlying141 rfl (sizeBl (fr, fr + mk, 0)) ?_; refine hK _ ?_; clear hK K; simp only [Act.put, List.setIfInBounds_toArray, List.set_cons_zero, List.set_cons_succ]
            refine wpQuiet_nil ?_
            clear f1 f2 hF hι F
            generalize w11.drew = w12 at *
            refine mix_eff (fun K' hK => ?_)
            go_wp2_with fail
            refine mix_on hK ⟨by rw [World.cell?_alloc_past _ _ _ (World.block_lt_of_cell? _ _ HC0.out.1)]; exact HC0.out.1, (heap_alloc_old w12 _ (Array.getElem?_eq_some_iff.1 HC0.out.2).1).trans HC0.out.2⟩ ?_
            clear hK K'
            have HSZ := Lib.hid HB12.out.s0le
            have HLI := Lib.hid HB12.out.li
            rw [HL2.out] at HLI
            refine mix_eff (fun K' hK => ?_)
            refine wpList_push 102 141 (.agg #[.int .i64 0, .int .i64 0, .int .i64 0]) 3 24 Tryd.underlying102 infoBl rfl (by decide) rfl (.tmp 110) (.tmp 112) rfl s0 (.slice (some ⟨g, 0, none⟩) L.length c) L.length _ rfl HLI.out (bl3 (fr, fr + mk, 0)) _ rfl rfl (fun u hu => by simp [bl3] at hu; rcases hu with rfl | rfl | rfl <;> rfl) rfl (by have := HFW.out; have := HN.out; omega) (by decide) HSZ.out ?_
            intro lv' w13 ho hb ha
            have HPU := Lib.hid (HB12.out.pushL (b := (fr, fr + mk, 0)) (by rw [HL2.out]; exact ho) hb ha)
            have hrw := (ha.block x.b HB12.out.ltb HB12.out.sep.l.1).trans HB12.out.row
            have hf := frozen_of_row w13 x.b 3 _ _ hrw
            have hc3 : w13.cell? ⟨x.b, 3, none⟩ = some (.slice (some ⟨g, 0, none⟩) L.length c) := by rw [cell_of_row w13 x.b 3 _ _ _ hrw]; rfl
            have hC : w13.cell? ⟨x.b, 3, none⟩ = some (.slice (some ⟨g, 0, none⟩) L.length c) ∧ w13.heap[q]? = some (.cells #[.int .i64 fr, .int .i64 ((fr : Int) + (mk : Int)), .int .i64 0] 141 (0, 0)) := ⟨hc3, (ha.block q (Array.getElem?_eq_some_iff.1 HC0.out.2).1 (HB12.out.off q (.inr rfl)).2.2.1).trans HC0.out.2⟩
            obtain ⟨a9, c9, hsv, hsg⟩ := own_slice ho
            obtain ⟨g9, rfl⟩ : ∃ g9, a9 = some ⟨g9, 0, none⟩ := by
              rcases hsg with hsg | ⟨g9, e, -⟩
              · omega
              · exact ⟨g9, e⟩
            clear hsg
            subst hsv
            clear ho hb ha hrw
            refine wpList_nil ?_
            refine mix_on hK hC ?_
            clear hK K'
            refine mix_seg (seg := [_, _]) (rest := []) rfl hC ?_
            intro ι hι F hF
            try simp only [Act.put, List.setIfInBounds_toArray, List.set_cons_zero, List.set_cons_succ]
            iterate 2 (go_big_quiet_step (fail))
            refine wpQuiet_nil ?_
            clear hF hι F hC
            show wpList _ _ _ _ _ _
            go_wp2_with fail
            refine NoPanic.normal ?_
            go_end0
            have hsl : spL L i = L.set i (fr + mk, tq, 0) ++ [(fr, fr + mk, 0)] := by unfold spL; rw [hbl.out]
            have hso : spO P O L i = spOj P O fr L.length mk := by unfold spO spOj; rw [hbl.out]
            have hln : (spL L i).length = L.length + 1 := spL_len L i
            refine ⟨rfl, _, spL L i, _, g9, c9, rv', ?_, HV12.out.trans HPU.out.2.less, .inr ⟨by rw [hbl.out]; exact HE.out, rfl, rfl, rfl⟩⟩
            rw [hso, hln, hsl]
            exact HPU.out.1.weak (fun _ h => .inl h)
end Mi
end Go.Proofs.YtplkhgmjcljjhaaDoor
namespace Go.Proofs.YtplkhgmjcljjhaaDoor
open Go.RowKit Sets Nf
namespace Mi
theorem own_two {w : World} {B : Nat} {v : Value} {l : List Int} (h : OwnN B w v l) : (v = .slice none 0 0 ∧ l = []) ∨ ∃ g c, v = .slice (some ⟨g, 0, none⟩) l.length c ∧ l.length ≤ c := by
  rcases h.2 with ⟨h1, h2⟩ | ⟨g, cap, cur, h1, _, _, h2, _⟩
  · exact .inl ⟨h1, List.length_eq_zero_iff.1 h2⟩
  · exact .inr ⟨g, cap, h1, h2⟩
theorem nodup_few {T : List Nat} (hn : T.Nodup) {k : Nat} (h : ∀ x ∈ T, x < k) : T.length ≤ k := by
  have := Df.nodup_len T (List.range k) hn (fun s hs => List.mem_range.2 (h s hs))
  rwa [List.length_range] at this
theorem getD_some {l : List Nat} {j : Nat} (h : j < l.length) : l[j]? = some (l.getD j 0) := by
  rw [List.getD_eq_getElem?_getD, List.getElem?_eq_getElem h]; rfl
set_option maxHeartbeats 6400000 in
set_option maxRecDepth 100000 in
theorem tell_any {s0 : Nat} {Fx : Nat → Prop} (x : Ad) (n : Nat) (S P O : Nat → Nat) (L : List Bl) (R : List Nat) (g c : Nat) (tv rv : Value) (a : Option Addr) (cap : Nat) (l : List Nat) (w : World)
    (h : BkAt s0 Fx x n S P O L [] R R (.slice (some ⟨g, 0, none⟩) L.length c) tv rv w) (hf : Fr n S P O L R) (hl : l.Nodup) (hln : ∀ s ∈ l, s < n) (hnum : ∀ W, Mv s0 Fx w W → NumsIn W a (zI l)) (hn : n ≤ 90000) :
    Calls Tryd.prog 54 #[.pointer (some ⟨x.b, 0, none⟩), .slice a l.length cap] w fun e w' => e = .returned (.tuple #[]) ∧ ∃ S' P' O' L' R' g' c' tv' rv',
      BkAt s0 Fx x n S' P' O' L' [] R' R' (.slice (some ⟨g', 0, none⟩) L'.length c') tv' rv' w' ∧ Mv s0 Fx w w' ∧ Fr n S' P' O' L' R' ∧ Told n l O R L.length O' R' L'.length := by
  have HB := Lib.hid h
  have HF := Lib.hid hf
  have HLN := Lib.hid (And.intro hl hln)
  have HNU := Lib.hid hnum
  have HN := Lib.hid hn
  have HLL : Hid (l.length ≤ n) := Lib.hid (nodup_few hl hln)
  clear h hf hl hln hnum hn
  go_enter Tryd.func54, Tryd.ntmps54
  go_wp2_with fail
  go_loopw [10] (fun v wr => ∃ (j : Nat) (S1 P1 : Nat → Nat) (L1 : List Bl) (T1 : List Nat) (tv1 : Value), v = .int .i64 j ∧ j ≤ l.length ∧ Hid (BkAt s0 Fx x n S1 P1 O L1 T1 R R (.slice (some ⟨g, 0, none⟩) L1.length c) tv1 rv wr) ∧ Hid (MkI n O l j S1 P1 L1 T1) ∧ Hid (L1.length = L.length) ∧ Hid (Mv s0 Fx w wr)) (fun v _ => ((l.length : Int) - intOf v).toNat)
  case atStart => exact ⟨0, S, P, L, [], tv, rfl, Nat.zero_le _, HB, Lib.hid (MkI.start HF.out l), Lib.hid rfl, Lib.hid (Mv.refl _ _ _)⟩
  case round =>
    clear HB
    obtain ⟨j, S1, P1, L1, T1, tv1, rfl, hj, HB1, HM1, HE1, HV1⟩ := hrel
    generalize hwr : wr = w1 at *
    clear hwr wr
    by_cases hlt : j < l.length
    · have hdd : decide ((j : Int) < (l.length : Int)) = true := decide_eq_true (by omega)
      have hd2 : decide (j < l.length) = true := decide_eq_true hlt
      have HJ := Lib.hid hlt
      obtain ⟨b2, o2, rfl, hc⟩ := HNU.out w1 HV1.out j (by rw [zI_len]; exact hlt)
      rw [zI_get l j hlt] at hc
      have HSJ := Lib.hid (getD_some hlt)
      have HSN := Lib.hid (HLN.out.2 _ (List.mem_of_getElem? HSJ.out))
      have HW1 : Hid (wrap64 ((j : Int) + 1) = ((j + 1 : Nat) : Int)) := Lib.hid (nat_wrap (by have := HLL.out; have := HN.out; omega))
      have hji : (j : Int) < (l.length : Int) := by omega
      have HT1 : Hid (T1.length ≤ 100000) := Lib.hid (by have := nodup_few HM1.out.nd HM1.out.lt; have := HM1.out.pa.few; have := HN.out; omega)
      clear hlt
      generalize l.getD j 0 = s at *
      have HNX := Lib.hid (HM1.out.next HLN.out.1 HSJ.out HSN.out)
      go_wp2_with (go_at_call 74; refine (mark_any x n S1 P1 O L1 T1 R R g c tv1 rv s w1 HB1.out HM1.out.pa HSN.out HNX.out.1 (by have := HN.out; omega) HT1.out).mono ?_; rintro e w2 ⟨rfl, tv2, h1, h2⟩; have HB2 := Lib.hid h1; have HV2 := Lib.hid h2; clear h1 h2)
      go_roundw
      case rel => exact ⟨j + 1, _, _, _, _, tv2, by rw [HW1.out], HJ.out, HB2, Lib.hid HNX.out.2, Lib.hid ((mkL_len O L1 s).trans HE1.out), Lib.hid (HV1.out.trans HV2.out)⟩
      case measure => rw [HW1.out]; exact meas8 HJ.out
    · have hdd : decide ((j : Int) < (l.length : Int)) = false := decide_eq_false (by omega)
      have hd2 : decide (j < l.length) = false := decide_eq_false hlt
      obtain rfl : j = l.length := by omega
      clear hlt hj
      have c4 := HB1.out.cells.2.2.2.2.1
      obtain ⟨ta, tc, htv, -⟩ := own_slice HB1.out.tch
      rw [zI_len] at htv
      subst htv
      go_wp2_with fail
      clear c4 hdd hd2
      have HTL : Hid (T1.length ≤ n) := Lib.hid (by have := nodup_few HM1.out.nd HM1.out.lt; have := HM1.out.pa.few; omega)
      have HRS : Hid (R.Nodup ∧ ∀ y ∈ R, y < L1.length) := Lib.hid ⟨HF.out.nd, fun y hy => by rw [HE1.out]; exact HF.out.lt y hy⟩
      go_loopw [23] (fun v wr => ∃ (j : Nat) (O2 : Nat → Nat) (L2 : List Bl) (R2 : List Nat) (g2 c2 : Nat) (rv2 : Value), v = .int .i64 j ∧ j ≤ T1.length ∧ Hid (BkAt s0 Fx x n S1 P1 O2 L2 T1 R2 R2 (.slice (some ⟨g2, 0, none⟩) L2.length c2) (.slice ta T1.length tc) rv2 wr) ∧ Hid (SpI n S1 P1 O L1 R T1 j O2 L2 R2) ∧ Hid (Mv s0 Fx w wr)) (fun v _ => ((T1.length : Int) - intOf v).toNat)
      case atStart => exact ⟨0, O, L1, R, g, c, rv, rfl, Nat.zero_le _, HB1, Lib.hid (SpI.start HM1.out HRS.out.1 HRS.out.2), HV1⟩
      case round =>
        clear HB1 HV1
        obtain ⟨j, O2, L2, R2, g2, c2, rv2, rfl, hj, HB2, HS2, HV2⟩ := hrel
        generalize hwr : wr = w2 at *
        clear hwr wr w1
        by_cases hlt : j < T1.length
        · have hdd : decide ((j : Int) < (T1.length : Int)) = true := decide_eq_true (by omega)
          have hd2 : decide (j < T1.length) = true := decide_eq_true hlt
          have HJ := Lib.hid hlt
          have hnums : NumsIn w2 ta (zI T1) := by
            obtain ⟨a3, c3, e3, h3⟩ := HB2.out.tch.nums
            rw [zI_len] at e3
            injection e3 with e3 _ _
            rw [e3]; exact h3
          obtain ⟨b2, o2, rfl, hc⟩ := hnums j (by rw [zI_len]; exact hlt)
          rw [zI_get T1 j hlt] at hc
          have HTJ := Lib.hid (getD_some hlt)
          have HW1 : Hid (wrap64 ((j : Int) + 1) = ((j + 1 : Nat) : Int)) := Lib.hid (nat_wrap (by have := HTL.out; have := HN.out; omega))
          have hji : (j : Int) < (T1.length : Int) := by omega
          have HRL : Hid (R2.length ≤ 100000) := Lib.hid (by have := nodup_few HS2.out.nd HS2.out.lt; have := HS2.out.pa.few; have := HN.out; omega)
          clear hlt hnums
          generalize T1.getD j 0 = i at *
          have HHE := Lib.hid (HS2.out.here HTJ.out)
          go_wp2_with (go_at_call 75; refine (split_any x n S1 P1 O2 L2 T1 R2 g2 c2 _ rv2 i w2 HB2.out HS2.out.pa HHE.out.1 HHE.out.2 (by have := HN.out; omega) HRL.out HS2.out.lt).mono ?_; rintro e w3 ⟨rfl, O3, L3, R3, g3, c3, rv3, h1, h2, h3⟩; have HB3 := Lib.hid h1; have HV3 := Lib.hid h2; have HX3 := Lib.hid h3; clear h1 h2 h3)
          have HS3 : Hid (SpI n S1 P1 O L1 R T1 (j + 1) O3 L3 R3) := Lib.hid (by
            rcases HX3.out with ⟨h1, rfl, rfl, rfl⟩ | ⟨h1, rfl, rfl, rfl⟩
            · exact HS2.out.clear HM1.out.pa HM1.out.nd HTJ.out h1
            · exact HS2.out.split HM1.out.pa HM1.out.nd HTJ.out h1)
          go_roundw
          case rel => exact ⟨j + 1, O3, L3, R3, g3, c3, rv3, by rw [HW1.out], HJ.out, HB3, HS3, Lib.hid (HV2.out.trans HV3.out)⟩
          case measure => rw [HW1.out]; exact meas8 HJ.out
        · have hdd : decide ((j : Int) < (T1.length : Int)) = false := decide_eq_false (by omega)
          have hd2 : decide (j < T1.length) = false := decide_eq_false hlt
          obtain rfl : j = T1.length := by omega
          clear hlt hj
          have HD := Lib.hid (HS2.out.done HM1.out)
          rw [HE1.out] at HD
          have c4 := HB2.out.cells.2.2.2.2.1
          have f4 := HB2.out.fz 4
          have HCT := Lib.hid HB2.out.cutT
          rcases own_two HB2.out.tch with ⟨e, -⟩ | ⟨g5, c5, e, h5⟩
          · injection e with e1 e2 e3
            subst e1
            subst e3
            go_wp2_with fail
            go_end0
            exact ⟨rfl, S1, P1, O2, L2, R2, g2, c2, _, rv2, HCT.out.1, HV2.out.trans HCT.out.2, HD.out.1, HD.out.2⟩
          · rw [zI_len] at h5 e
            injection e with e1 e2 e3
            subst e1
            subst e3
            go_wp2_with fail
            go_end0
            exact ⟨rfl, S1, P1, O2, L2, R2, ⟨g2, c2, _, rv2, HCT.out.1⟩, HV2.out.trans HCT.out.2, HD.out.1, HD.out.2⟩
end Mi
end Go.Proofs.YtplkhgmjcljjhaaDoor
