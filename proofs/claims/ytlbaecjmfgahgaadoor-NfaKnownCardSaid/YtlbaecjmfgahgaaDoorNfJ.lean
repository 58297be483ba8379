/- awake, Great. -/
import Derived.Test.YtlbaecjmfgahgaaDoorNfI
namespace Go.Proofs.YtlbaecjmfgahgaaDoor
open Go.RowKit Sets Nf
namespace Nf
def greatM (m : Mc) : Bool := (decide (60 < m.sp.length) || (decide (60 < m.fo.length) || (decide (60 < m.la.length) || decide (60 < m.fi.length)))) || m.fo.any (fun l => decide (60 < l.length))
theorem any_snoc {α : Type} (p : α → Bool) (l : List α) (d : α) (j : Nat) (h : j < l.length) : (l.take (j + 1)).any p = ((l.take j).any p || p (l.getD j d)) := by
  rw [List.take_succ_eq_append_getElem h, List.any_append, List.getD_eq_getElem?_getD, List.getElem?_eq_getElem h]; simp
set_option maxHeartbeats 3200000 in
set_option maxRecDepth 100000 in
theorem ngreat_any (x : Ma) (m : Mc) (w : World) (h : ListsIn w x.oa m.fo) :
    Calls Tryd.prog 5 #[.agg (mc x m)] w fun e w' => e = .returned (.bool (greatM m)) ∧ Below w.heap.size w w' := by
  have HM := Lib.hid h
  clear h
  go_enter Tryd.func5, Tryd.ntmps5
  go_upto_region 1 with fail
  have HX := Lib.hid (BoxM.new w x m)
  have HB := Lib.hid ((Below.refl w.heap.size w).alloc (Nat.le_refl _) (.cells (mc x m) 27))
  have HM1 := Lib.hid (HM.out.kept HB.out)
  have c0 := HX.out.c0
  have c1 := HX.out.c1
  have c2 := HX.out.c2
  have c3 := HX.out.c3
  generalize w.alloc (.cells (mc x m) 27) = w1 at *
  have HG : Hid (greatM m = ((decide (60 < m.sp.length) || (decide (60 < m.fo.length) || (decide (60 < m.la.length) || decide (60 < m.fi.length)))) || m.fo.any (fun l => decide (60 < l.length)))) := Lib.hid rfl
  by_cases h1 : 60 < m.sp.length
  · have d1 : decide ((60 : Int) < (m.sp.length : Int)) = true := decide_eq_true (by omega)
    have HR : Hid (greatM m = true) := Lib.hid (by rw [HG.out, decide_eq_true h1]; rfl)
    clear h1
    go_wp2_with fail
    go_ret
    exact ⟨by rw [HR.out]; rfl, HB.out⟩
  · have d1 : decide ((60 : Int) < (m.sp.length : Int)) = false := decide_eq_false (by omega)
    by_cases h2 : 60 < m.fo.length
    · have d2 : decide ((60 : Int) < (m.fo.length : Int)) = true := decide_eq_true (by omega)
      have HR : Hid (greatM m = true) := Lib.hid (by rw [HG.out, decide_eq_true h2]; simp)
      clear h1 h2
      go_wp2_with fail
      go_ret
      exact ⟨by rw [HR.out]; rfl, HB.out⟩
    · have d2 : decide ((60 : Int) < (m.fo.length : Int)) = false := decide_eq_false (by omega)
      by_cases h3 : 60 < m.la.length
      · have d3 : decide ((60 : Int) < (m.la.length : Int)) = true := decide_eq_true (by omega)
        have HR : Hid (greatM m = true) := Lib.hid (by rw [HG.out, decide_eq_true h3]; simp)
        clear h1 h2 h3
        go_wp2_with fail
        go_ret
        exact ⟨by rw [HR.out]; rfl, HB.out⟩
      · have d3 : decide ((60 : Int) < (m.la.length : Int)) = false := decide_eq_false (by omega)
        by_cases h4 : 60 < m.fi.length
        · have d4 : decide ((60 : Int) < (m.fi.length : Int)) = true := decide_eq_true (by omega)
          have HR : Hid (greatM m = true) := Lib.hid (by rw [HG.out, decide_eq_true h4]; simp)
          clear h1 h2 h3 h4
          go_wp2_with fail
          go_ret
          exact ⟨by rw [HR.out]; rfl, HB.out⟩
        · have d4 : decide ((60 : Int) < (m.fi.length : Int)) = false := decide_eq_false (by omega)
          have HG2 : Hid (greatM m = m.fo.any (fun l => decide (60 < l.length))) := Lib.hid (by rw [HG.out, decide_eq_false h1, decide_eq_false h2, decide_eq_false h3, decide_eq_false h4]; simp)
          have HL2 : Hid (m.fo.length ≤ 60) := Lib.hid (by omega)
          clear h1 h2 h3 h4 HG
          go_wp2_with fail
          go_loopw [3] (fun i wr => ∃ j : Nat, i = .int .i64 j ∧ j ≤ m.fo.length ∧ wr = w1 ∧ Hid ((m.fo.take j).any (fun l => decide (60 < l.length)) = false)) (fun i _ => ((m.fo.length : Int) - intOf i).toNat)
          case atStart => exact ⟨0, rfl, Nat.zero_le _, rfl, Lib.hid (by simp)⟩
          case round =>
            obtain ⟨j, rfl, hj, rfl, HA⟩ := hrel
            by_cases hlt : j < m.fo.length
            · have hdd : decide ((j : Int) < (m.fo.length : Int)) = true := decide_eq_true (by omega)
              have hd2 : decide (j < m.fo.length) = true := decide_eq_true hlt
              obtain ⟨b, o, a, cap, hoa, hc, -⟩ := HM1.out j hlt
              rw [hoa] at c2
              have HS := Lib.hid (any_snoc (fun l => decide (60 < l.length)) m.fo [] j hlt)
              have HW1 : Hid (wrap64 ((j : Int) + 1) = ((j + 1 : Nat) : Int)) := Lib.hid (nat_wrap (by have := HL2.out; omega))
              have HT : Hid (60 < (m.fo.getD j []).length → greatM m = true) := Lib.hid (fun h => by
                rw [HG2.out, List.any_eq_true]
                exact ⟨_, getD_mem hlt, decide_eq_true h⟩)
              have HJ := Lib.hid hlt
              have hjm : (j : Int) < (m.fo.length : Int) := by omega
              clear hlt hoa
              generalize m.fo.getD j [] = l at *
              by_cases h5 : 60 < l.length
              · have d5 : decide ((60 : Int) < (l.length : Int)) = true := decide_eq_true (by omega)
                have d5' : decide (60 < l.length) = true := decide_eq_true h5
                have HR := Lib.hid (HT.out h5)
                clear h5
                go_wp2_with fail
                go_ret
                exact ⟨by rw [HR.out]; rfl, HB.out⟩
              · have d5 : decide ((60 : Int) < (l.length : Int)) = false := decide_eq_false (by omega)
                have d5' : decide (60 < l.length) = false := decide_eq_false h5
                have HA2 : Hid ((m.fo.take (j + 1)).any (fun l => decide (60 < l.length)) = false) := Lib.hid (by rw [HS.out, HA.out, d5']; rfl)
                clear h5
                go_wp2_with fail
                go_roundw
                case rel => exact ⟨j + 1, by rw [HW1.out], HJ.out, by first | rfl | trivial, HA2⟩
                case measure => rw [HW1.out]; exact meas8 HJ.out
            · have hdd : decide ((j : Int) < (m.fo.length : Int)) = false := decide_eq_false (by omega)
              have hd2 : decide (j < m.fo.length) = false := decide_eq_false hlt
              have HR : Hid (greatM m = false) := Lib.hid (by rw [HG2.out, ← HA.out, List.take_of_length_le (by omega)])
              clear hlt
              go_wp2_with fail
              go_ret
              exact ⟨by rw [HR.out]; rfl, HB.out⟩
theorem some_fine : Fine someM := by
  refine ⟨by decide, by decide, by decide, by decide, ?_, ?_, ?_⟩
  · intro l hl
    simp [someM] at hl
    rcases hl with rfl | rfl
    · exact ⟨by decide, fun k hk => by simp at hk; rcases hk with rfl | rfl <;> (unfold i64; omega)⟩
    · exact ⟨by decide, fun k hk => by simp at hk⟩
  · intro k hk
    simp [someM] at hk
    subst hk
    unfold i64; omega
  · intro s hs
    simp [someM] at hs
    rcases hs with rfl | rfl | rfl <;> exact ⟨by decide +kernel, by decide⟩
theorem some_right : rightM someM = true := by decide +kernel
theorem some_two : (trimM someM (useN someM)).sp.length = 2 := by decide +kernel
theorem some_t0 : takesM someM (bs ⟨#[]⟩) = true := by decide +kernel
theorem some_t1 : takesM someM (bs ⟨#[97, 98]⟩) = true := by decide +kernel
theorem some_t2 : takesM someM (bs ⟨#[97, 99]⟩) = false := by decide +kernel
theorem wp_load_mach {o : Oper} {a : Act} {w : World} {K : Act → World → Prop} {Q : Exit → Act → World → Prop} (X : Operand) (ho : o.op = .load 27 X) (B : Nat) (x : Ma) (m : Mc) (hx : a.eval X = .pointer (some ⟨B, 0, none⟩)) (hc : BoxM w B x m)
    (h : K (a.put o.dst (.agg (mc x m))) w) : o.wp Tryd.prog a w K Q := by
  unfold Oper.wp execOp
  simp only [ho, hx, Instr.loadAt, Instr.sureAddr, Sem.run_bind, Sem.run_pure, Result.andThen_ok, run_loadVar_row w B 27 27 (mc x m) (0, 0) _ hc.row Tryd.underlying27 rfl (sizeMach x m)]
  exact h
/-- a machine is stored where a place for it was just laid -/
theorem wpList_lay_mach {ops : Array Oper} {rest : List Oper} {o : Oper} {a : Act} {w : World} {Q : Exit → Act → World → Prop} (hgd : o.guard = none) (X Y : Operand)
    (ho : o.op = .store 27 X Y) (x : Ma) (m : Mc) (g : Nat) (hg : w.heap.size = g) (hx : a.eval X = .pointer (some ⟨g, 0, none⟩)) (hy : a.eval Y = .agg (mc x m))
    (h : wpList Tryd.prog ops Q rest (a.put o.dst undef) (w.alloc (.cells (mc x m) 27))) : wpList Tryd.prog ops Q (o :: rest) a (w.alloc (.cells #[.slice none 0 0, .slice none 0 0, .slice none 0 0, .slice none 0 0, .bool false] 27)) := by
  subst hg
  refine wpList_store_row hgd 27 X Y ho w.heap.size (mc x m) hx hy 27 _ (heap_alloc_new w _) (sizeMach x m) rfl (oneMach x m) ?_
  rw [World.setRow_alloc_new]
  exact h
set_option maxHeartbeats 6400000 in
set_option maxRecDepth 100000 in
theorem awake10_any (w : World) (hT : Tab w) :
    Calls Tryd.prog 6 #[] w fun e w' => e = .returned (.bool true) ∧ Below w.heap.size w w' := by
  have HG : Hid (0 < w.heap.size) := Lib.hid (World.block_lt_of_cell? _ _ (hT 0 (by decide)))
  have HT := Lib.hid hT
  clear hT
  go_enter Tryd.func6, Tryd.ntmps6
  go_upto_region 2 with (first
    | (go_at_call 13; refine (some_any w).mono ?_; rintro e w1 ⟨x, rfl, ho, hb⟩; have HM := Lib.hid ho.mat; have HB1 := Lib.hid hb; clear ho hb)
    | (refine wpList_lay_mach rfl (.tmp 1) (.tmp 4) rfl x someM _ rfl rfl rfl ?_))
  rw [show ∀ a : Act, a.put none undef = a from fun _ => rfl]
  have hal := (Below.refl w1.heap.size w1).alloc (Nat.le_refl _) (.cells (mc x someM) 27)
  have HX2 := Lib.hid (BoxM.new w1 x someM)
  have HM2 := Lib.hid (HM.out.kept hal)
  have HB2 := Lib.hid (HB1.out.trans (hal.mono HB1.out.size))
  obtain ⟨b1, hb1⟩ : ∃ b, Hid (w1.heap.size = b) := ⟨_, Lib.hid rfl⟩
  have HL1 : Hid (w.heap.size ≤ b1) := Lib.hid (by rw [← hb1.out]; exact HB1.out.size)
  rw [hb1.out] at HX2 ⊢
  clear hal HM HB1
  generalize w1.alloc (.cells (mc x someM) 27) = w2 at *
  clear hb1
  have HTR := Lib.hid (trim_any x someM w2 HM2.out some_fine ((right_iff _).1 some_right) (HT.out.below HB2.out HG.out))
  go_upto_region 3 with (first
    | (refine wpList_load_mach rfl (.tmp 1) rfl b1 x someM rfl HX2.out ?_)
    | (go_at_call 8; refine HTR.out.mono ?_; rintro e w3 ⟨y, rfl, -, hb⟩; have HB3 := Lib.hid hb; clear hb)
    | (refine wpList_lay_mach rfl (.tmp 2) (.tmp 8) rfl y (trimM someM (useN someM)) _ rfl rfl rfl ?_))
  have hal := (Below.refl w3.heap.size w3).alloc (Nat.le_refl _) (.cells (mc y (trimM someM (useN someM))) 27)
  have h23 := HB3.out.trans (hal.mono HB3.out.size)
  have HX3 := Lib.hid (HX2.out.kept h23 HX2.out.lt)
  have HM3 := Lib.hid (HM2.out.kept h23)
  have HB4 := Lib.hid (HB2.out.trans (h23.mono HB2.out.size))
  have HY3 := Lib.hid (BoxM.new w3 y (trimM someM (useN someM)))
  obtain ⟨b3, hb3⟩ : ∃ b, Hid (w3.heap.size = b) := ⟨_, Lib.hid rfl⟩
  rw [hb3.out] at HY3 ⊢
  clear hal h23 HX2 HM2 HB3 HTR
  generalize w3.alloc (.cells (mc y (trimM someM (useN someM))) 27) = w4 at *
  clear hb3 w1
  have HRG := Lib.hid (nright_any x someM w4 HM3.out some_fine)
  rw [mv_eq, some_right] at HRG
  have HX4 := HX3
  have HY4 := HY3
  have HM4 := HM3
  have HBB4 := HB4
  clear HX3 HY3 HM3 HB4
  go_wp2_with (first
    | (refine wpList_load_mach rfl (.tmp 1) rfl b1 x someM rfl HX4.out ?_)
    | (go_at_call 15; refine HRG.out.mono ?_; rintro e w5 ⟨rfl, hb⟩; have HB := Lib.hid hb; clear hb HRG; have HX5 := Lib.hid (HX4.out.kept HB.out HX4.out.lt); have HY5 := Lib.hid (HY4.out.kept HB.out HY4.out.lt); have HM5 := Lib.hid (HM4.out.kept HB.out); have HBB5 := Lib.hid (HBB4.out.trans (HB.out.mono HBB4.out.size)); clear HB HX4 HY4 HM4 HBB4; have HRU5 := Lib.hid (nrun_any x someM ⟨#[]⟩ w5 HM5.out some_fine (by decide) (HT.out.below HBB5.out HG.out)); rw [some_t0] at HRU5)
    | (refine BigFrame.wpList_want rfl (fun K' hK' => ?_); refine wp_load_mach (.tmp 1) rfl b1 x someM rfl HX5.out ?_; refine hK' _ _ ?_; clear hK' K')
    | (go_at_call 14; refine HRU5.out.mono ?_; rintro e w6 ⟨rfl, hb⟩; have HB := Lib.hid hb; clear hb HRU5; have HX6 := Lib.hid (HX5.out.kept HB.out HX5.out.lt); have HY6 := Lib.hid (HY5.out.kept HB.out HY5.out.lt); have HM6 := Lib.hid (HM5.out.kept HB.out); have HBB6 := Lib.hid (HBB5.out.trans (HB.out.mono HBB5.out.size)); clear HB HX5 HY5 HM5 HBB5; have HRU6 := Lib.hid (nrun_any x someM ⟨#[97, 98]⟩ w6 HM6.out some_fine (by decide) (HT.out.below HBB6.out HG.out)); rw [some_t1] at HRU6)
    | (refine BigFrame.wpList_want rfl (fun K' hK' => ?_); refine wp_load_mach (.tmp 1) rfl b1 x someM rfl HX6.out ?_; refine hK' _ _ ?_; clear hK' K')
    | (go_at_call 14; refine HRU6.out.mono ?_; rintro e w7 ⟨rfl, hb⟩; have HB := Lib.hid hb; clear hb HRU6; have HX7 := Lib.hid (HX6.out.kept HB.out HX6.out.lt); have HY7 := Lib.hid (HY6.out.kept HB.out HY6.out.lt); have HM7 := Lib.hid (HM6.out.kept HB.out); have HBB7 := Lib.hid (HBB6.out.trans (HB.out.mono HBB6.out.size)); clear HB HX6 HY6 HM6 HBB6; have HRU7 := Lib.hid (nrun_any x someM ⟨#[97, 99]⟩ w7 HM7.out some_fine (by decide) (HT.out.below HBB7.out HG.out)); rw [some_t2] at HRU7)
    | (refine BigFrame.wpList_want rfl (fun K' hK' => ?_); refine wp_load_mach (.tmp 1) rfl b1 x someM rfl HX7.out ?_; refine hK' _ _ ?_; clear hK' K')
    | (go_at_call 14; refine HRU7.out.mono ?_; rintro e w8 ⟨rfl, hb⟩; have HB := Lib.hid hb; clear hb HRU7; have HX8 := Lib.hid (HX7.out.kept HB.out HX7.out.lt); have HY8 := Lib.hid (HY7.out.kept HB.out HY7.out.lt); have HM8 := Lib.hid (HM7.out.kept HB.out); have HBB8 := Lib.hid (HBB7.out.trans (HB.out.mono HBB7.out.size)); clear HB HX7 HY7 HM7 HBB7; have c0 := HY8.out.c0; rw [some_two] at c0))
  go_ret
  exact ⟨rfl, HBB8.out⟩
end Nf
end Go.Proofs.YtlbaecjmfgahgaaDoor
