/- Several texts in one. -/
import Derived.Test.YtghbgfkkdknmnaaDoorPqB2
import Derived.Test.YtghbgfkkdknmnaaDoorPqA1
import Derived.Maps.AppendAt
namespace Go.Proofs.YtghbgfkkdknmnaaDoor
open Go.RowKit Sets Nf
namespace Nf
def someM : Mc := ⟨[(ofN [97], 0), (ofN [98], 0), (ofN [99], 0)], [0], [[1, 2], [], []], [false, true, false], true⟩
theorem bytes_litN (w : World) (l : List Nat) (hl : ∀ x ∈ l, x < 256) (cs : Array Value) (hcs : cs = (l.map fun (c : Nat) => Value.int .u8 c).toArray) (hm : l.length ≤ 1000) : BytesAt (w.alloc (.cells cs 5)) (.slice (some ⟨w.heap.size, 0, none⟩) l.length l.length) l := by
  subst hcs
  refine ⟨hl, by unfold maxLen; omega, _, _, rfl, fun i hi => ⟨w.heap.size, 0, rfl, ?_⟩⟩
  rw [Nat.zero_add, World.cell?_alloc_new, List.getElem?_toArray, List.getElem?_map, List.getElem?_eq_getElem hi, List.getD_eq_getElem?_getD, List.getElem?_eq_getElem hi]; rfl
end Nf
end Go.Proofs.YtghbgfkkdknmnaaDoor
namespace Go.Proofs.YtghbgfkkdknmnaaDoor
open Go.RowKit Sets Nf
namespace Nf
def greatM (m : Mc) : Bool := (decide (60 < m.sp.length) || (decide (60 < m.fo.length) || (decide (60 < m.la.length) || decide (60 < m.fi.length)))) || m.fo.any (fun l => decide (60 < l.length))
theorem any_snoc {α : Type} (p : α → Bool) (l : List α) (d : α) (j : Nat) (h : j < l.length) : (l.take (j + 1)).any p = ((l.take j).any p || p (l.getD j d)) := by
  rw [List.take_succ_eq_append_getElem h, List.any_append, List.getD_eq_getElem?_getD, List.getElem?_eq_getElem h]; simp
set_option maxHeartbeats 3200000 in
set_option maxRecDepth 100000 in
theorem ngreat_any (x : Ma) (m : Mc) (w : World) (h : ListsIn w x.oa m.fo) :
    Calls Tryd.prog 9 #[.agg (mc x m)] w fun e w' => e = .returned (.bool (greatM m)) ∧ Below w.heap.size w w' := by
  have HM := Lib.hid h
  clear h
  go_enter Tryd.func9, Tryd.ntmps9
  go_upto_region 1 with fail
  have HX := Lib.hid (BoxM.new w x m)
  have HB := Lib.hid ((Below.refl w.heap.size w).alloc (Nat.le_refl _) (.cells (mc x m) 27))
  have HM1 := Lib.hid (HM.out.kept HB.out)
  have c0 := HX.out.c0
  have c1 := HX.out.c1
  have c2 := HX.out.c2
  have c3 := HX.out.c3
  generalize w.alloc (.cells (mc x m) 27) = w1 at *
  have HG : Hid (greatM m = ((decide (60 < m.sp.length) || (decide (60 < m.fo.length) || (decide (60 < m.la.length) || decide (60 < m.fi.length)))) || m.fo.any (fun l => decide (60 < l.length)))) := Lib.hid rfl
  by_cases h1 : 60 < m.sp.length
  · have d1 : decide ((60 : Int) < (m.sp.length : Int)) = true := decide_eq_true (by omega)
    have HR : Hid (greatM m = true) := Lib.hid (by rw [HG.out, decide_eq_true h1]; rfl)
    clear h1
    go_wp2_with fail
    go_ret
    exact ⟨by rw [HR.out]; rfl, HB.out⟩
  · have d1 : decide ((60 : Int) < (m.sp.length : Int)) = false := decide_eq_false (by omega)
    by_cases h2 : 60 < m.fo.length
    · have d2 : decide ((60 : Int) < (m.fo.length : Int)) = true := decide_eq_true (by omega)
      have HR : Hid (greatM m = true) := Lib.hid (by rw [HG.out, decide_eq_true h2]; simp)
      clear h1 h2
      go_wp2_with fail
      go_ret
      exact ⟨by rw [HR.out]; rfl, HB.out⟩
    · have d2 : decide ((60 : Int) < (m.fo.length : Int)) = false := decide_eq_false (by omega)
      by_cases h3 : 60 < m.la.length
      · have d3 : decide ((60 : Int) < (m.la.length : Int)) = true := decide_eq_true (by omega)
        have HR : Hid (greatM m = true) := Lib.hid (by rw [HG.out, decide_eq_true h3]; simp)
        clear h1 h2 h3
        go_wp2_with fail
        go_ret
        exact ⟨by rw [HR.out]; rfl, HB.out⟩
      · have d3 : decide ((60 : Int) < (m.la.length : Int)) = false := decide_eq_false (by omega)
        by_cases h4 : 60 < m.fi.length
        · have d4 : decide ((60 : Int) < (m.fi.length : Int)) = true := decide_eq_true (by omega)
          have HR : Hid (greatM m = true) := Lib.hid (by rw [HG.out, decide_eq_true h4]; simp)
          clear h1 h2 h3 h4
          go_wp2_with fail
          go_ret
          exact ⟨by rw [HR.out]; rfl, HB.out⟩
        · have d4 : decide ((60 : Int) < (m.fi.length : Int)) = false := decide_eq_false (by omega)
          have HG2 : Hid (greatM m = m.fo.any (fun l => decide (60 < l.length))) := Lib.hid (by rw [HG.out, decide_eq_false h1, decide_eq_false h2, decide_eq_false h3, decide_eq_false h4]; simp)
          have HL2 : Hid (m.fo.length ≤ 60) := Lib.hid (by omega)
          clear h1 h2 h3 h4 HG
          go_wp2_with fail
          go_loopw [3] (fun i wr => ∃ j : Nat, i = .int .i64 j ∧ j ≤ m.fo.length ∧ wr = w1 ∧ Hid ((m.fo.take j).any (fun l => decide (60 < l.length)) = false)) (fun i _ => ((m.fo.length : Int) - intOf i).toNat)
          case atStart => exact ⟨0, rfl, Nat.zero_le _, rfl, Lib.hid (by simp)⟩
          case round =>
            obtain ⟨j, rfl, hj, rfl, HA⟩ := hrel
            by_cases hlt : j < m.fo.length
            · have hdd : decide ((j : Int) < (m.fo.length : Int)) = true := decide_eq_true (by omega)
              have hd2 : decide (j < m.fo.length) = true := decide_eq_true hlt
              obtain ⟨b, o, a, cap, hoa, hc, -⟩ := HM1.out j hlt
              rw [hoa] at c2
              have HS := Lib.hid (any_snoc (fun l => decide (60 < l.length)) m.fo [] j hlt)
              have HW1 : Hid (wrap64 ((j : Int) + 1) = ((j + 1 : Nat) : Int)) := Lib.hid (nat_wrap (by have := HL2.out; omega))
              have HT : Hid (60 < (m.fo.getD j []).length → greatM m = true) := Lib.hid (fun h => by
                rw [HG2.out, List.any_eq_true]
                exact ⟨_, getD_mem hlt, decide_eq_true h⟩)
              have HJ := Lib.hid hlt
              have hjm : (j : Int) < (m.fo.length : Int) := by omega
              clear hlt hoa
              generalize m.fo.getD j [] = l at *
              by_cases h5 : 60 < l.length
              · have d5 : decide ((60 : Int) < (l.length : Int)) = true := decide_eq_true (by omega)
                have d5' : decide (60 < l.length) = true := decide_eq_true h5
                have HR := Lib.hid (HT.out h5)
                clear h5
                go_wp2_with fail
                go_ret
                exact ⟨by rw [HR.out]; rfl, HB.out⟩
              · have d5 : decide ((60 : Int) < (l.length : Int)) = false := decide_eq_false (by omega)
                have d5' : decide (60 < l.length) = false := decide_eq_false h5
                have HA2 : Hid ((m.fo.take (j + 1)).any (fun l => decide (60 < l.length)) = false) := Lib.hid (by rw [HS.out, HA.out, d5']; rfl)
                clear h5
                go_wp2_with fail
                go_roundw
                case rel => exact ⟨j + 1, by rw [HW1.out], HJ.out, by first | rfl | trivial, HA2⟩
                case measure => rw [HW1.out]; exact meas8 HJ.out
            · have hdd : decide ((j : Int) < (m.fo.length : Int)) = false := decide_eq_false (by omega)
              have hd2 : decide (j < m.fo.length) = false := decide_eq_false hlt
              have HR : Hid (greatM m = false) := Lib.hid (by rw [HG2.out, ← HA.out, List.take_of_length_le (by omega)])
              clear hlt
              go_wp2_with fail
              go_ret
              exact ⟨by rw [HR.out]; rfl, HB.out⟩
theorem some_fine : Fine someM := by
  refine ⟨by decide, by decide, by decide, by decide, ?_, ?_, ?_⟩
  · intro l hl
    simp [someM] at hl
    rcases hl with rfl | rfl
    · exact ⟨by decide, fun k hk => by simp at hk; rcases hk with rfl | rfl <;> (unfold i64; omega)⟩
    · exact ⟨by decide, fun k hk => by simp at hk⟩
  · intro k hk
    simp [someM] at hk
    subst hk
    unfold i64; omega
  · intro s hs
    simp [someM] at hs
    rcases hs with rfl | rfl | rfl <;> exact ⟨by decide +kernel, by decide⟩
theorem some_right : rightM someM = true := by decide +kernel
theorem some_two : (trimM someM (useN someM)).sp.length = 2 := by decide +kernel
theorem some_t0 : takesM someM (bs ⟨#[]⟩) = true := by decide +kernel
theorem some_t1 : takesM someM (bs ⟨#[97, 98]⟩) = true := by decide +kernel
theorem some_t2 : takesM someM (bs ⟨#[97, 99]⟩) = false := by decide +kernel
theorem wp_load_mach {o : Oper} {a : Act} {w : World} {K : Act → World → Prop} {Q : Exit → Act → World → Prop} (X : Operand) (ho : o.op = .load 27 X) (B : Nat) (x : Ma) (m : Mc) (hx : a.eval X = .pointer (some ⟨B, 0, none⟩)) (hc : BoxM w B x m)
    (h : K (a.put o.dst (.agg (mc x m))) w) : o.wp Tryd.prog a w K Q := by
  unfold Oper.wp execOp
  simp only [ho, hx, Instr.loadAt, Instr.sureAddr, Sem.run_bind, Sem.run_pure, Result.andThen_ok, run_loadVar_row w B 27 27 (mc x m) (0, 0) _ hc.row Tryd.underlying27 rfl (sizeMach x m)]
  exact h
/-- a machine is stored where a place for it was just laid -/
theorem wpList_lay_mach {ops : Array Oper} {rest : List Oper} {o : Oper} {a : Act} {w : World} {Q : Exit → Act → World → Prop} (hgd : o.guard = none) (X Y : Operand)
    (ho : o.op = .store 27 X Y) (x : Ma) (m : Mc) (g : Nat) (hg : w.heap.size = g) (hx : a.eval X = .pointer (some ⟨g, 0, none⟩)) (hy : a.eval Y = .agg (mc x m))
    (h : wpList Tryd.prog ops Q rest (a.put o.dst undef) (w.alloc (.cells (mc x m) 27))) : wpList Tryd.prog ops Q (o :: rest) a (w.alloc (.cells #[.slice none 0 0, .slice none 0 0, .slice none 0 0, .slice none 0 0, .bool false] 27)) := by
  subst hg
  refine wpList_store_row hgd 27 X Y ho w.heap.size (mc x m) hx hy 27 _ (heap_alloc_new w _) (sizeMach x m) rfl (oneMach x m) ?_
  rw [World.setRow_alloc_new]
  exact h
end Nf
end Go.Proofs.YtghbgfkkdknmnaaDoor
namespace Go.Proofs.YtghbgfkkdknmnaaDoor
open Go.RowKit Sets
theorem u8s_snoc (D : List Nat) (c : Nat) : u8s (D ++ [c]) = u8s D ++ [.int .u8 c] := by unfold u8s; rw [List.map_append]; rfl
/-- What the call owns lies on while what lay below some world's end is kept. -/
theorem owns_below {w w' : World} {B e sz n : Nat} {v : Value} {xs : List Value} (h : w.ownsRow B e sz v n xs) (hb : Below w.heap.size w w') : w'.ownsRow B e sz v n xs := by
  obtain ⟨h1, h2⟩ := h
  refine ⟨h1, ?_⟩
  rcases h2 with h2 | ⟨g, cap, cur, h3, h4, h5, h6⟩
  · exact .inl h2
  · exact .inr ⟨g, cap, cur, h3, h4, by rw [hb.block _ (Array.getElem?_eq_some_iff.1 h5).1]; exact h5, h6⟩
theorem owns_slice {w : World} {B e sz n : Nat} {v : Value} {xs : List Value} (h : w.ownsRow B e sz v n xs) : ∃ a cap, v = .slice a n cap ∧ n ≤ cap := by
  rcases h.2 with ⟨h1, h2⟩ | ⟨g, cap, cur, h1, -, -, h2, -⟩
  · exact ⟨none, 0, by rw [h1, h2], by omega⟩
  · exact ⟨_, cap, h1, h2⟩
theorem wpList_append_u8 {ops : Array Oper} {rest : List Oper} {o : Oper} {a : Act} {w : World} {Q : Exit → Act → World → Prop} (hgd : o.guard = none) (s x : Operand)
    (ho : o.op = .call { callee := .builtin .append, args := #[s, x], argTypes := #[30, 30] }) (base : Nat) (v : Value) (D : List Nat) (c : Nat) (hs : a.eval s = v)
    (hown : w.ownsRow base 5 1 v D.length (u8s D)) (hx : a.eval x = .slice (some ⟨w.heap.size, 0, none⟩) 1 1) (hD : D.length + 1 ≤ 140737488355328) (hbase : base ≤ w.heap.size)
    (h : ∀ v' w', w'.ownsRow base 5 1 v' (D ++ [c]).length (u8s (D ++ [c])) → Below base w w' → wpList Tryd.prog ops Q rest (a.put o.dst v') w') :
    wpList Tryd.prog ops Q (o :: rest) a (w.alloc (.cells #[.int .u8 (c : Int)] 5)) := by
  obtain ⟨i0, hi, hz0, hz1, hz2⟩ := info_parts infoB
  refine wpList_append_own _ hgd s x 30 ho base 5 i0 (.int .u8 0) 1 1 Tryd.underlying30 hi hz0 hz1 hz2 rfl (by decide) v _ _ hs (hown.alloc _) ⟨w.heap.size, 0, none⟩ 1 1 [.int .u8 (c : Int)] hx rfl (cell_one_new _ _ _) ?_ ?_ ?_ ?_ ?_
  · intro u hu; simp at hu; subst hu; rfl
  · unfold maxLen; omega
  · omega
  · simp; omega
  · intro v' w' h1 h2 _
    refine h v' w' ?_ (((Below.refl _ _).alloc hbase _).grown h2 (by simp; omega) (fun j hj => (hown.lt j hj).1))
    rw [u8s_snoc, List.length_append]
    exact h1
end Go.Proofs.YtghbgfkkdknmnaaDoor
