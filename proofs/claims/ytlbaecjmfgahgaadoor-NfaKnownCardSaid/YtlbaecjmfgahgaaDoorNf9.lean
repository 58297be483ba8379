/- Run. -/
import Derived.Test.YtlbaecjmfgahgaaDoorNf8
namespace Go.Proofs.YtlbaecjmfgahgaaDoor
open Go.RowKit Sets Nf
namespace Nf
theorem quiet_load_set {C : World → Prop} {a : Act} {K : Act → Prop} {o : Oper} (x : Operand) (ho : o.op = .load 39 x) (g S : Nat) (hx : a.eval x = .pointer (some ⟨g, 0, none⟩)) (hg : ∀ w, C w → SetB w g S)
    (h : K (a.put o.dst (.agg (setC S)))) : o.quiet Tryd.prog a C K :=
  quiet_load_row 39 x ho g hx 39 (setC S) (0, 0) _ (fun w hw => (hg w hw).row) Tryd.underlying39 rfl (sizeSet S) h
theorem quiet_load_mach {C : World → Prop} {a : Act} {K : Act → Prop} {o : Oper} (X : Operand) (ho : o.op = .load 27 X) (g : Nat) (x : Ma) (m : Mc) (hx : a.eval X = .pointer (some ⟨g, 0, none⟩)) (hg : ∀ w, C w → BoxM w g x m)
    (h : K (a.put o.dst (.agg (mc x m)))) : o.quiet Tryd.prog a C K :=
  quiet_load_row 27 X ho g hx 27 (mc x m) (0, 0) _ (fun w hw => (hg w hw).row) Tryd.underlying27 rfl (sizeMach x m) h
theorem set_eq (S T : Nat) (hS : S < 2 ^ 256) (hT : T < 2 ^ 256) (w : World) : (Op.equalIn 10000 39 (.agg (setC S)) (.agg (setC T))).run Tryd.prog w = .ok (decide (S = T)) w := by
  unfold setC
  rw [eqSet]
  congr 1
  rw [Bool.eq_iff_iff, decide_eq_true_iff]
  simp only [Bool.and_eq_true, beq_iff_eq]
  constructor
  · rintro h
    refine ext_words hS hT (fun i hi => ?_)
    have : i = 0 ∨ i = 1 ∨ i = 2 ∨ i = 3 := by omega
    rcases this with rfl | rfl | rfl | rfl <;> omega
  · rintro rfl; simp
theorem zeroW : #[Value.int .u64 0, .int .u64 0, .int .u64 0, .int .u64 0] = setC 0 := zeroC
theorem guardS : Tryd.prog.eqGuardType Tryd.prog.depth 39 = false := by kernel_rfl
theorem wpList_eql_zero {ops : Array Oper} {rest : List Oper} {o : Oper} {a : Act} {w : World} {Q : Exit → Act → World → Prop} (hgd : o.guard = none) (t : TypeId) (x y : Operand) (ho : o.op = .binOp .eql 39 x y t)
    (S : Nat) (hx : a.eval x = .agg (setC S)) (hy : a.eval y = .agg #[.int .u64 0, .int .u64 0, .int .u64 0, .int .u64 0]) (hS : S < 2 ^ 256) (h : wpList Tryd.prog ops Q rest (a.put o.dst (.bool (decide (S = 0)))) w) : wpList Tryd.prog ops Q (o :: rest) a w := by
  refine wpList_plain hgd fun K hK => ?_
  unfold Oper.wp execOp
  rw [zeroC] at hy
  simp only [ho, hx, hy, Sem.run_bind, run_eqGuard_agg w .eql 39 x y _ _ guardS, run_eql_struct, set_eq S 0 hS (Nat.two_pow_pos 256), Result.andThen_ok, Sem.run_pure]
  exact hK _ _ h
theorem wpList_neq_zero {ops : Array Oper} {rest : List Oper} {o : Oper} {a : Act} {w : World} {Q : Exit → Act → World → Prop} (hgd : o.guard = none) (t : TypeId) (x y : Operand) (ho : o.op = .binOp .neq 39 x y t)
    (S : Nat) (hx : a.eval x = .agg (setC S)) (hy : a.eval y = .agg #[.int .u64 0, .int .u64 0, .int .u64 0, .int .u64 0]) (hS : S < 2 ^ 256) (h : wpList Tryd.prog ops Q rest (a.put o.dst (.bool (!(decide (S = 0))))) w) : wpList Tryd.prog ops Q (o :: rest) a w := by
  refine wpList_plain hgd fun K hK => ?_
  unfold Oper.wp execOp
  rw [zeroC] at hy
  simp only [ho, hx, hy, Sem.run_bind, run_eqGuard_agg w .neq 39 x y _ _ guardS, run_neq_struct, set_eq S 0 hS (Nat.two_pow_pos 256), Result.andThen_ok, Sem.run_pure]
  exact hK _ _ h
theorem quiet_neq_zero {C : World → Prop} {a : Act} {K : Act → Prop} {o : Oper} (t : TypeId) (x y : Operand) (ho : o.op = .binOp .neq 39 x y t) (S : Nat) (hx : a.eval x = .agg (setC S)) (hy : a.eval y = .agg #[.int .u64 0, .int .u64 0, .int .u64 0, .int .u64 0]) (hS : S < 2 ^ 256)
    (h : K (a.put o.dst (.bool (!(decide (S = 0)))))) : o.quiet Tryd.prog a C K := by
  refine ⟨.bool (!(decide (S = 0))), fun w hw => ?_, h⟩
  unfold Oper.quietAt execOp
  rw [zeroC] at hy
  simp only [ho, hx, hy, Sem.run_bind, run_eqGuard_agg w .neq 39 x y _ _ guardS, run_neq_struct, set_eq S 0 hS (Nat.two_pow_pos 256), Result.andThen_ok, Sem.run_pure]
  exact ⟨rfl, rfl⟩
theorem listN_zero : listN 0 = [] := by
  unfold listN
  rw [List.filter_eq_nil_iff]
  intro k _
  rw [Nat.zero_testBit]; decide
theorem fold_zero (m : Mc) : ∀ (l : List Nat), (l.foldl (stepS m) (0, 0)) = (0, 0) ∨ l = []
  | [] => .inr rfl
  | c :: l => .inl (by
    have hr : rd m 0 c = 0 := by
      unfold rd
      rw [listN_zero]; rfl
    have hb : bh (m.fo.map grp) 0 = 0 := by
      unfold bh
      rw [listN_zero]; rfl
    rw [List.foldl_cons, show stepS m (0, 0) c = (0, 0) from by unfold stepS; rw [hr, hb]]
    rcases fold_zero m l with h | h
    · exact h
    · rw [h]; rfl)
/-- The runs behind j bytes. -/
def runN (m : Mc) (l : List Nat) (j : Nat) : Nat × Nat := (l.take j).foldl (stepS m) (0, grp m.fi)
theorem runN_succ (m : Mc) (l : List Nat) (j : Nat) (h : j < l.length) : runN m l (j + 1) = (rd m (runN m l j).2 (l.getD j 0), bh (m.fo.map grp) (rd m (runN m l j).2 (l.getD j 0))) := by
  unfold runN
  rw [List.take_succ_eq_append_getElem h, List.foldl_append, List.getD_eq_getElem?_getD, List.getElem?_eq_getElem h]
  rfl
theorem runN_all (m : Mc) (l : List Nat) (j : Nat) (h : l.length ≤ j) : runN m l j = runS m l := by
  unfold runN
  rw [List.take_of_length_le h]; rfl
theorem runN_dead (m : Mc) (l : List Nat) (j : Nat) (h : (runN m l j).1 = 0) (h2 : (runN m l j).2 = 0) : (runS m l).1 = 0 := by
  have : runS m l = (l.drop j).foldl (stepS m) (runN m l j) := by
    unfold runN
    rw [← List.foldl_append, List.take_append_drop]; rfl
  rw [this, show runN m l j = (0, 0) from Prod.ext h h2]
  rcases fold_zero m (l.drop j) with e | e
  · rw [e]
  · rw [e]; rfl
theorem rd_lt (m : Mc) (q c : Nat) : rd m q c < 2 ^ 256 := ofN_lt _ (fun x hx => by
  exact ((mem_listN q x).1 (List.mem_filter.1 hx).1).1)
theorem bits_lt {S n : Nat} (h : ∀ k, S.testBit k = true → k < n) (hn : n ≤ 256) : S < 2 ^ 256 := by
  rcases Nat.lt_or_ge S (2 ^ 256) with h1 | h1
  · exact h1
  · obtain ⟨i, hi, hb⟩ := Nat.exists_ge_and_testBit_of_ge_two_pow h1
    have := h i hb
    omega
theorem bh_small {m : Mc} (h : Rt m) (q k : Nat) (hk : (bh (m.fo.map grp) q).testBit k = true) : k < m.sp.length := by
  rw [bh_bit] at hk
  obtain ⟨i, -, -, h3⟩ := hk
  rw [map_grp] at h3
  exact fo_lt h h3
theorem runN_small {m : Mc} (h : Rt m) (l : List Nat) (j : Nat) (hj : j ≤ l.length) : ∀ k, (runN m l j).2.testBit k = true → k < m.sp.length := by
  cases j with
  | zero => exact fun k hk => fi_lt h hk
  | succ j =>
    intro k hk
    rw [runN_succ m l j (by omega)] at hk
    exact bh_small h _ _ hk
theorem run1_lt (m : Mc) (l : List Nat) (j : Nat) (hj : j ≤ l.length) : (runN m l j).1 < 2 ^ 256 := by
  cases j with
  | zero => exact Nat.two_pow_pos 256
  | succ j => rw [runN_succ m l j (by omega)]; exact rd_lt _ _ _
theorem rd_bits (m : Mc) (q c k : Nat) (h : (rd m q c).testBit k = true) : q.testBit k = true := ((rd_bit m q c k).1 h).2.1
theorem grp_lt256 {n : Nat} {l : List Int} (h : rise n l = true) (hn : n ≤ 256) : grp l < 2 ^ 256 := bits_lt (fun _ hk => grp_lt h hk) hn
theorem last_lt {m : Mc} (h : Rt m) : lastN m < 2 ^ 256 := by
  refine bits_lt (n := 250) (fun k hk => ?_) (by decide)
  rw [last_bit] at hk
  have := h.many
  have := h.lal
  rcases Nat.lt_or_ge k m.la.length with h1 | h1
  · omega
  · rw [getD_ge h1] at hk; cases hk
/-- a set is stored where a place for it was just laid -/
theorem wpList_lay_set {ops : Array Oper} {rest : List Oper} {o : Oper} {a : Act} {w : World} {Q : Exit → Act → World → Prop} (hgd : o.guard = none) (x y : Operand)
    (ho : o.op = .store 39 x y) (S g : Nat) (hg : w.heap.size = g) (hx : a.eval x = .pointer (some ⟨g, 0, none⟩)) (hy : a.eval y = .agg (setC S))
    (h : wpList Tryd.prog ops Q rest (a.put o.dst undef) (w.alloc (.cells (setC S) 39))) : wpList Tryd.prog ops Q (o :: rest) a (w.alloc (.cells #[.int .u64 0, .int .u64 0, .int .u64 0, .int .u64 0] 39)) := by
  subst hg
  refine wpList_store_row hgd 39 x y ho w.heap.size (setC S) hx hy 39 _ (heap_alloc_new w _) (sizeSet S) rfl (oneSet S) ?_
  rw [World.setRow_alloc_new]
  exact h
theorem list_some {s : ByteArray} (h : ¬ s.size = 0) : s.toList.isEmpty = false := by
  rw [ByteArray.toList_eq]
  cases hl : s.data.toList with
  | nil => exact absurd (by show s.data.size = 0; rw [← Array.length_toList, hl]; rfl) h
  | cons a l => rfl
set_option maxHeartbeats 6400000 in
set_option maxRecDepth 100000 in
theorem nrun_any (x : Ma) (m : Mc) (s : ByteArray) (w : World) (h : MAt w x m) (hf : Fine m) (hs : s.size ≤ 1000) (hT : Tab w) :
    Calls Tryd.prog 14 #[.agg (mc x m), .string s] w fun e w' => e = .returned (.bool (takesM m (bs s))) ∧ Below w.heap.size w w' := by
  have HG : Hid (0 < w.heap.size) := Lib.hid (World.block_lt_of_cell? _ _ (hT 0 (by decide)))
  have HM := Lib.hid h
  have HF := Lib.hid hf
  have HS := Lib.hid hs
  have HT := Lib.hid hT
  have HLEN := Lib.hid (bs_len s)
  have HBL := Lib.hid (bs_lt s)
  clear h hf hs hT
  go_enter Tryd.func14, Tryd.ntmps14
  go_upto_region 1 with fail
  have HX := Lib.hid (BoxM.new w x m)
  have HB := Lib.hid ((Below.refl w.heap.size w).alloc (Nat.le_refl _) (.cells (mc x m) 27))
  generalize w.alloc (.cells (mc x m) 27) = w1 at *
  have HM1 := Lib.hid (HM.out.kept HB.out)
  have HR := Lib.hid (nright_any x m w1 HM1.out HF.out)
  rw [mv_eq] at HR
  cases hr : rightM m
  · rw [hr] at HR
    have HV : Hid (takesM m (bs s) = false) := Lib.hid (by unfold takesM; rw [hr]; rfl)
    clear hr
    go_wp2_with (first
      | (refine wpList_load_mach rfl (.tmp 2) rfl w.heap.size x m rfl HX.out ?_)
      | (go_at_call 15; refine HR.out.mono ?_; rintro e w2 ⟨rfl, hb2⟩; have HB2 := Lib.hid hb2; clear hb2))
    go_ret
    exact ⟨by rw [HV.out]; rfl, HB.out.trans (HB2.out.mono (Nat.le_of_lt HX.out.lt))⟩
  · rw [hr] at HR
    have HRT := Lib.hid ((right_iff m).1 hr)
    have HV : Hid (takesM m (bs s) = if bs s = [] then m.em else decide ((runS m (bs s)).1 &&& lastN m ≠ 0)) := Lib.hid (by unfold takesM; rw [hr, Bool.true_and])
    clear hr
    go_upto_region 3 with (first
      | (refine wpList_load_mach rfl (.tmp 2) rfl w.heap.size x m rfl HX.out ?_)
      | (go_at_call 15; refine HR.out.mono ?_; rintro e w2 ⟨rfl, hb2⟩; have HB2 := Lib.hid hb2; clear hb2))
    have HX2 := Lib.hid (HX.out.kept HB2.out HX.out.lt)
    have HM2 := Lib.hid (HM1.out.kept HB2.out)
    have HB3 := Lib.hid (HB.out.trans (HB2.out.mono (Nat.le_of_lt HX.out.lt)))
    generalize hBq : w.heap.size = B at *
    have HBq := Lib.hid hBq
    clear hBq HB HX HM1 HB2 HR w1
    have c0 := HX2.out.c0
    have c1 := HX2.out.c1
    have c2 := HX2.out.c2
    have c4 := HX2.out.c4
    by_cases hs0 : s.size = 0
    · obtain rfl : s = ⟨#[]⟩ := by
        cases s with
        | mk d => cases d with
          | mk l => cases l with
            | nil => rfl
            | cons a l => simp [ByteArray.size] at hs0
      have HV2 : Hid (takesM m (bs ⟨#[]⟩) = m.em) := Lib.hid (by rw [HV.out]; rfl)
      clear hs0
      go_wp2_with fail
      go_ret
      exact ⟨by rw [HV2.out]; rfl, by rw [HBq.out]; exact HB3.out⟩
    · have hne := list_some hs0
      have HV2 : Hid (takesM m (bs s) = decide ((runS m (bs s)).1 &&& lastN m ≠ 0)) := Lib.hid (by
        rw [HV.out, if_neg]
        intro e
        apply hs0
        rw [← HLEN.out, e]; rfl)
      clear hs0 HV
      have HGS := Lib.hid (groups_any x.oa x.oc m.fo w2 HM2.out.fo HF.out.fo (fun l hl => ⟨(HF.out.each l hl).1, fun k hk => by
        have h1 := (rise_iff _ _).1 (HRT.out.foR l hl)
        have h2 := h1.1 k hk
        have h3 := HRT.out.many
        omega⟩))
      go_upto_region 6 with (go_at_call 32; refine HGS.out.mono ?_; rintro e w3 ⟨g, rfl, hg3, hgb, hb3⟩; have HG3 := Lib.hid hg3; have HGB := Lib.hid hgb; have HB4 := Lib.hid hb3; clear hg3 hgb hb3 c0 c1 c2 c4)
      have HX3 := Lib.hid (HX2.out.kept HB4.out HX2.out.lt)
      have HB5 := Lib.hid (HB3.out.trans (HB4.out.mono (Nat.le_of_lt HX2.out.lt)))
      have HBN := Lib.hid HX2.out.lt
      clear HX2 HGS hne HB3
      have HGL := Lib.hid HG3.out.lt
      have HM3 := Lib.hid (HM2.out.kept HB4.out)
      go_upto_region 7 with fail
      rw [zeroC]
      have ha := (Below.refl w3.heap.size w3).alloc (Nat.le_refl _) (.cells (setC 0) 39)
      have HS4 := Lib.hid (SetB.new w3 0)
      have HX4 := Lib.hid (HX3.out.kept ha HX3.out.lt)
      have HG4 := Lib.hid (HG3.out.kept ha HG3.out.lt)
      have HM4 := Lib.hid (HM3.out.kept ha)
      have HB6 := Lib.hid (HB5.out.trans (ha.mono (Nat.le_of_lt HX3.out.lt)))
      obtain ⟨b6, hb6⟩ : ∃ b6, Hid (w3.heap.size = b6) := ⟨_, Lib.hid rfl⟩
      have HL6 : Hid (B < b6 ∧ g < b6) := Lib.hid (by rw [← hb6.out]; exact ⟨HX3.out.lt, HGL.out⟩)
      rw [hb6.out] at HS4 ⊢
      clear ha HG3 HX3 HM3 HB5 HGB HB4 HBN HGL HM2
      generalize w3.alloc (.cells (setC 0) 39) = w4 at *
      clear hb6
      have c1 := HX4.out.c1
      have HGR := Lib.hid (group_any x.fa x.fc m.fi w4 HM4.out.fi HF.out.fi (fun k hk => by
        have h1 := (rise_iff _ _).1 HRT.out.fiR
        have h2 := h1.1 k hk
        have h3 := HRT.out.many
        omega))
      go_upto_region 8 with (first
        | (go_at_call 33; refine HGR.out.mono ?_; rintro e w5 ⟨rfl, hb5⟩; have HB7 := Lib.hid hb5; clear hb5 c1)
        | (refine wpList_lay_set rfl (.tmp 7) (.tmp 21) rfl (grp m.fi) _ rfl rfl rfl ?_))
      have ha := (Below.refl w5.heap.size w5).alloc (Nat.le_refl _) (.cells (setC (grp m.fi)) 39)
      have h45 := HB7.out.trans (ha.mono HB7.out.size)
      have HS5 := Lib.hid (HS4.out.stay h45)
      have HT5 := Lib.hid (SetB.new w5 (grp m.fi))
      have HX5 := Lib.hid (HX4.out.kept h45 HX4.out.lt)
      have HG5 := Lib.hid (HG4.out.kept h45 HG4.out.lt)
      have HM5 := Lib.hid (HM4.out.kept h45)
      have HB8 := Lib.hid (HB6.out.trans (h45.mono (Nat.le_of_lt HX4.out.lt)))
      obtain ⟨b7, hb7⟩ : ∃ b7, Hid (w5.heap.size = b7) := ⟨_, Lib.hid rfl⟩
      have HL7 : Hid (b6 < b7) := Lib.hid (by rw [← hb7.out]; exact Nat.lt_of_lt_of_le HS4.out.lt HB7.out.size)
      rw [hb7.out] at HT5 ⊢
      clear ha h45 HG4 HX4 HM4 HB6 HB7 HS4 HGR
      generalize w5.alloc (.cells (setC (grp m.fi)) 39) = w6 at *
      clear hb7
      go_wp2_with fail
      go_loopw [24] (fun i wr => ∃ j : Nat, i = .int .i64 j ∧ j ≤ s.size ∧ Hid (SetB wr b6 (runN m (bs s) j).1) ∧ Hid (SetB wr b7 (runN m (bs s) j).2) ∧ Hid (BoxM wr B x m) ∧ Hid (GsB wr g (m.fo.map grp)) ∧ Hid (Below B w wr)) (fun i _ => ((s.size : Int) - intOf i).toNat)
      case atStart => exact ⟨0, rfl, Nat.zero_le _, HS5, HT5, HX5, HG5, HB8⟩
      case round =>
        obtain ⟨j, rfl, hj, HSa, HSn, HXr, HGr, HBr⟩ := hrel
        generalize hwr : wr = w7 at *
        clear hwr wr HS5 HT5 HX5 HG5 HB8
        have HM7 := Lib.hid (HM.out.kept (HBq.out ▸ HBr.out))
        have c0 := HXr.out.c0
        have HBX := Lib.hid HXr.out.lt
        have HL67 : Hid (b6 < w7.heap.size ∧ b7 < w7.heap.size ∧ g < w7.heap.size) := Lib.hid ⟨HSa.out.lt, HSn.out.lt, HGr.out.lt⟩
        by_cases hlt : j < s.size
        · have hdd : decide ((j : Int) < (s.size : Int)) = true := decide_eq_true (by omega)
          have hd2 : decide (j < s.size) = true := decide_eq_true hlt
          have HRS := Lib.hid (runN_succ m (bs s) j (by rw [HLEN.out]; exact hlt))
          have hix := index_bs s j _ rfl hlt
          have HCC : Hid ((bs s).getD j 0 < 256) := Lib.hid (HBL.out _ (getD_mem (by rw [HLEN.out]; exact hlt)))
          have HW1 : Hid (wrap64 ((j : Int) + 1) = ((j + 1 : Nat) : Int)) := Lib.hid (nat_wrap (by have := HS.out; omega))
          have HQS := Lib.hid (runN_small HRT.out (bs s) j (by rw [HLEN.out]; omega))
          have HDEAD := Lib.hid (runN_dead m (bs s) (j + 1))
          generalize (bs s).getD j 0 = c at *
          generalize hA : (runN m (bs s) j).1 = A at *
          generalize hQ : (runN m (bs s) j).2 = Q at *
          clear hA hQ
          have HJ := Lib.hid hlt
          clear hlt
          go_upto_region 11 with fail
          refine region_mix [(false, 0), (false, 1), (false, 2), (false, 3), (false, 4), (false, 5), (true, 6)] (fun w' => Below w7.heap.size w7 w') (by kernel_rfl) (by kernel_rfl) ((Below.refl _ _).drew) ?_
          simp only [planOps, List.map_cons, List.map_nil, List.getD_cons_zero, List.getD_cons_succ, List.length_cons, List.length_nil, List.drop_succ_cons, List.drop_zero]
          refine mix_seg (seg := [_, _, _, _, _, _]) (rest := [_]) rfl ((Below.refl _ _).drew) ?_
          intro ι hι F hF
          have f1 := fun n => ((hF n).cell (p := ⟨B, 0, none⟩) HBX.out).trans c0
          have f2 := Lib.hid (fun n => HSn.out.kept (hF n) HL67.out.2.1)
          go_big_quiet_step (fail)
          go_big_quiet_step (fail)
          refine BigFrame.wpQuiet_want rfl (fun K hK => ?_); refine quiet_load_set _ rfl b7 Q rfl (fun w' ⟨n, e⟩ => e ▸ f2.out n) ?_; refine hK _ ?_; clear hK K; simp only [Act.put, List.setIfInBounds_toArray, List.set_cons_zero, List.set_cons_succ]
          iterate 3 (go_big_quiet_step (fail))
          refine wpQuiet_nil ?_
          clear f1 f2 hF hι F
          have HRD := Lib.hid (reading_any x.sa x.sc m.sp Q c w7.drew (HM7.out.kept ((Below.refl _ _).drew)).sp HQS.out HCC.out (HT.out.below (B := w.heap.size) ((HBq.out ▸ HBr.out).trans ((Below.refl _ _).drew)) (by rw [HBq.out]; exact HG.out)))
          rw [rdL_rd] at HRD
          generalize hAA : rd m Q c = A' at *
          have HAA := Lib.hid hAA
          clear hAA
          refine mix_eff (fun K hK => ?_)
          go_wp2_with (go_at_call 34; refine HRD.out.mono ?_; rintro e w8 ⟨rfl, hb8⟩; have HB8 := Lib.hid (((Below.refl w7.heap.size w7).drew).trans hb8); clear hb8)
          refine mix_on hK HB8.out ?_
          clear hK K HRD
          show wpList _ _ _ _ _ _
          have HSa8 := Lib.hid (HSa.out.kept HB8.out HL67.out.1)
          go_wp2_with (refine wpList_store_set rfl (.tmp 6) (.tmp 33) rfl b6 A A' rfl rfl HSa8.out ?_)
          refine NoPanic.normal ?_
          have HSa9 := Lib.hid (HSa8.out.put A')
          have hbut := But.setRow b6 w8 (setC A')
          have HSn9 := Lib.hid ((HSn.out.kept HB8.out HL67.out.2.1).but hbut (by have := HL7.out; omega))
          have HG9 := Lib.hid ((HGr.out.kept HB8.out HL67.out.2.2).but hbut (by have := HL6.out; omega))
          have HX9 := Lib.hid (BoxM.mk ((hbut.block B (Nat.lt_of_lt_of_le HBX.out HB8.out.size) (by have := HL6.out; omega)).trans (HXr.out.kept HB8.out HBX.out).row))
          have HB9 := Lib.hid (But.below (HBr.out.trans (HB8.out.mono (Nat.le_of_lt HBX.out))) hbut (by have := HL6.out; omega) (Nat.le_trans (Nat.le_of_lt HBX.out) HB8.out.size))
          clear hbut HSa8
          generalize w8.setRow b6 (setC A') = w9 at *
          have HLTA : Hid (A' < 2 ^ 256) := Lib.hid (by rw [← HAA.out]; exact rd_lt _ _ _)
          by_cases hA0 : A' = 0
          · subst hA0
            have HV3 : Hid (takesM m (bs s) = false) := Lib.hid (by
              have h1 : (runN m (bs s) (j + 1)).1 = 0 := by rw [HRS.out]
              have h2 : (runN m (bs s) (j + 1)).2 = 0 := by
                rw [HRS.out]
                show bh (m.fo.map grp) 0 = 0
                unfold bh
                rw [listN_zero]; rfl
              rw [HV2.out, HDEAD.out h1 h2, Nat.zero_and]; rfl)
            go_wp2_with (first
              | (refine wpList_load_set rfl (.tmp 6) rfl b6 0 rfl HSa9.out ?_)
              | (refine wpList_eql_zero rfl _ _ _ rfl 0 rfl rfl (Nat.two_pow_pos 256) ?_))
            go_ret
            exact ⟨by rw [HV3.out]; rfl, by rw [HBq.out]; exact HB9.out⟩
          · have HBH := Lib.hid (behind_any g (m.fo.map grp) A' w9 HG9.out (fun k hk => by
              rw [List.length_map, HRT.out.fol]
              rw [← HAA.out] at hk
              exact HQS.out k (rd_bits _ _ _ _ hk)) (HT.out.below (B := w.heap.size) (HBq.out ▸ HB9.out) (by rw [HBq.out]; exact HG.out)))
            rw [List.length_map] at HBH
            go_wp2_with (first
              | (refine wpList_load_set rfl (.tmp 6) rfl b6 A' rfl HSa9.out ?_)
              | (refine wpList_eql_zero rfl _ _ _ rfl A' rfl rfl HLTA.out ?_)
              | (go_at_call 35; refine HBH.out.mono ?_; rintro e w10 ⟨rfl, hb10⟩; have HB10 := Lib.hid hb10; clear hb10)
              | (refine wpList_store_set rfl (.tmp 7) (.tmp 39) rfl b7 Q (bh (m.fo.map grp) A') rfl rfl (HSn9.out.stay HB10.out) ?_))
            go_roundw
            case rel =>
              have hbut := But.setRow b7 w10 (setC (bh (m.fo.map grp) A'))
              have h67 := HL7.out
              have h6 := HL6.out
              refine ⟨j + 1, by rw [HW1.out], HJ.out, Lib.hid ?_, Lib.hid ?_, Lib.hid ?_, Lib.hid ?_, Lib.hid ?_⟩
              · rw [HRS.out]; exact (HSa9.out.stay HB10.out).but hbut (by omega)
              · rw [HRS.out]; exact (HSn9.out.stay HB10.out).put _
              · exact BoxM.mk ((hbut.block B (Nat.lt_of_lt_of_le HX9.out.lt HB10.out.size) (by omega)).trans (HX9.out.kept HB10.out HX9.out.lt).row)
              · exact (HG9.out.stay HB10.out).but hbut (by omega)
              · exact But.below (HB9.out.trans (HB10.out.mono (Nat.le_of_lt HX9.out.lt))) hbut (by omega) (Nat.le_trans (Nat.le_of_lt HX9.out.lt) HB10.out.size)
            case measure => rw [HW1.out]; exact meas8 HJ.out
        · have hdd : decide ((j : Int) < (s.size : Int)) = false := decide_eq_false (by omega)
          have hd2 : decide (j < s.size) = false := decide_eq_false hlt
          have HE := Lib.hid (runN_all m (bs s) j (by rw [HLEN.out]; omega))
          rw [HE.out] at HSa HSn
          have HR1 : Hid ((runS m (bs s)).1 < 2 ^ 256) := Lib.hid (by rw [← HE.out]; exact run1_lt m (bs s) j (by rw [HLEN.out]; omega))
          have HLA := Lib.hid (last_lt HRT.out)
          have HLS := Lib.hid (last_any x m w7.drew (HM7.out.kept ((Below.refl _ _).drew)) (by have h1 := HRT.out.lal; have h2 := HRT.out.many; omega))
          generalize (runS m (bs s)).1 = A at *
          clear hlt HE c0
          go_upto_region 16 with fail
          refine region_mix [(false, 0), (false, 1), (false, 4), (true, 2), (true, 3), (false, 5)] (fun w' => Below w7.heap.size w7 w') (by kernel_rfl) (by kernel_rfl) ((Below.refl _ _).drew) ?_
          simp only [planOps, List.map_cons, List.map_nil, List.getD_cons_zero, List.getD_cons_succ, List.length_cons, List.length_nil, List.drop_succ_cons, List.drop_zero]
          refine mix_seg (seg := [_, _, _]) rfl ((Below.refl _ _).drew) ?_
          intro ι hι F hF
          have f1 := Lib.hid (fun n => HSa.out.kept (hF n) HL67.out.1)
          have f2 := Lib.hid (fun n => HXr.out.kept (hF n) HBX.out)
          refine BigFrame.wpQuiet_want rfl (fun K hK => ?_); refine quiet_load_set _ rfl b6 A rfl (fun w' ⟨n, e⟩ => e ▸ f1.out n) ?_; refine hK _ ?_; clear hK K; simp only [Act.put, List.setIfInBounds_toArray, List.set_cons_zero, List.set_cons_succ]
          refine BigFrame.wpQuiet_want rfl (fun K hK => ?_); refine quiet_load_mach _ rfl B x m rfl (fun w' ⟨n, e⟩ => e ▸ f2.out n) ?_; refine hK _ ?_; clear hK K; simp only [Act.put, List.setIfInBounds_toArray, List.set_cons_zero, List.set_cons_succ]
          go_big_quiet_step (fail)
          refine wpQuiet_nil ?_
          clear f1 f2 hF hι F
          refine mix_eff (fun K hK => ?_)
          go_wp2_with (go_at_call 37; refine HLS.out.mono ?_; rintro e w8 ⟨rfl, hb8⟩; have HB8 := Lib.hid (((Below.refl w7.heap.size w7).drew).trans hb8); clear hb8)
          refine mix_on hK HB8.out ?_
          clear hK K
          have HAN := Lib.hid (and_any A (lastN m) w8)
          refine mix_eff (fun K hK => ?_)
          go_wp2_with (go_at_call 36; refine HAN.out.mono ?_; rintro e w9 ⟨rfl, hb9⟩; have HB9 := Lib.hid (HB8.out.trans (hb9.mono HB8.out.size)); clear hb9)
          refine mix_on hK HB9.out ?_
          clear hK K
          refine mix_seg (seg := [_]) (rest := []) rfl HB9.out ?_
          intro ι hι F hF
          refine BigFrame.wpQuiet_want rfl (fun K hK => ?_); refine quiet_neq_zero _ _ _ rfl (A &&& lastN m) rfl rfl (lt_and HR1.out) ?_; refine hK _ ?_; clear hK K; simp only [Act.put, List.setIfInBounds_toArray, List.set_cons_zero, List.set_cons_succ]
          refine wpQuiet_nil ?_
          clear hF hι F
          show wpList _ _ _ _ _ _
          have HE : Hid (takesM m (bs s) = !(decide (A &&& lastN m = 0))) := Lib.hid (by rw [HV2.out, Bool.eq_iff_iff]; simp)
          generalize (!(decide (A &&& lastN m = 0))) = r at *
          go_wp2_with fail
          refine NoPanic.normal ?_
          go_wp2_with fail
          go_ret
          exact ⟨by rw [HE.out]; rfl, by rw [HBq.out]; exact HBr.out.trans (HB9.out.mono (Nat.le_of_lt HBX.out))⟩
end Nf
end Go.Proofs.YtlbaecjmfgahgaaDoor
