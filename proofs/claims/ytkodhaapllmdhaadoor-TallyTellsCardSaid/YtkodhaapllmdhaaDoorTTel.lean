/- TallyTells. -/
import Derived.Test.YtkodhaapllmdhaaDoorROf
namespace Go.Proofs.YtkodhaapllmdhaaDoor
open Go.RowKit Rk Go.Sort
set_option maxHeartbeats 3200000 in
set_option maxRecDepth 100000 in
theorem tells_any (v : Value) (l : List Nat) (w : World) (hq : FloatsAt w v l) (hT : Tabs w) :
    Calls Tryd.prog 5 #[v] w fun e w' => e = .returned (.bool true) ∧ Below w.heap.size w w' := by
  have HT := Lib.hid hT
  have HQ := Lib.hid hq
  have hml := hq.2.1
  obtain ⟨s, c, rfl⟩ : ∃ s c, v = .slice s l.length c := by obtain ⟨-, -, s, c, rfl, -⟩ := hq; exact ⟨s, c, rfl⟩
  clear hq hT
  have hst : ∀ b a m w, Sem.run Tryd.prog (store a (.float .f64 b) m) w = stored Tryd.prog w a (.float .f64 b) m := fun b a m w => run_store Tryd.prog w a _ m rfl
  go_enter Tryd.func5, Tryd.ntmps5
  by_cases hlen : 200 < l.length
  · have hd : decide ((200 : Int) < (l.length : Int)) = true := decide_eq_true (by omega)
    go_wp2_with fail
    refine (awake_any _ HT.out).mono ?_
    rintro e w' ⟨rfl, hB⟩
    go_wp2_with fail
    go_ret
    exact ⟨rfl, hB⟩
  · have hd : decide ((200 : Int) < (l.length : Int)) = false := decide_eq_false (by omega)
    have hn : l.length ≤ 200 := by omega
    have hO1 := fun w h => of_any (.slice s l.length c) l w h (by omega)
    have hO2 := fun w h => refof_any (.slice s l.length c) l w h (by omega)
    have hf := tal_fits l (by omega)
    generalize tal l = t at *
    have hS := fun w => same_refl t hf w
    obtain ⟨many, odd, least, greatest, mean⟩ := t
    simp only [Tl.val] at hO1 hO2 hS
    obtain ⟨f1, f2, f3⟩ := hf
    have HA1 := Lib.hid (fun w => alike_is least least true f1 f1 (by simp) w)
    have HA2 := Lib.hid (fun w => alike_is greatest greatest true f2 f2 (by simp) w)
    have HA3 := Lib.hid (fun w => alike_is mean mean true f3 f3 (by simp) w)
    have HO1 := Lib.hid hO1
    have HO2 := Lib.hid hO2
    have HS := Lib.hid hS
    have e1 : ((many : Int) == (many : Int)) = true := by simp
    have e2 : ((odd : Int) == (odd : Int)) = true := by simp
    clear hO1 hO2 hS f1 f2 f3
    go_wp2_with (first
      | (go_at_call 8; refine (HO1.out _ HQ.out).mono ?_; rintro e w1 ⟨rfl, hB1⟩
         have HB1 := Lib.hid hB1
         have hs1 := hB1.size
         have HQ1 := Lib.hid (HQ.out.below hB1)
         clear hB1)
      | (go_at_call 22; refine (HO2.out _ (HQ1.out.below ((Below.refl _ _).alloc (Nat.le_refl _) _))).mono ?_; rintro e w2 ⟨rfl, hB⟩
         have hg0 : w1.heap.size < (w1.alloc (.cells #[.int .i64 many, .int .i64 odd, .float .f64 least, .float .f64 greatest, .float .f64 mean] 24)).heap.size := by simp
         have hcc := fun k => (hB.cell (p := ⟨w1.heap.size, k, none⟩) hg0).trans (World.cell?_alloc_new w1 #[.int .i64 many, .int .i64 odd, .float .f64 least, .float .f64 greatest, .float .f64 mean] 24 k)
         have hg : w1.heap.size < w2.heap.size := Nat.lt_of_lt_of_le hg0 hB.size
         have HB2 := Lib.hid (HB1.out.trans ((((Below.refl _ w1).alloc (Nat.le_refl _) (.cells #[.int .i64 many, .int .i64 odd, .float .f64 least, .float .f64 greatest, .float .f64 mean] 24)).trans (hB.mono (Nat.le_of_lt hg0))).mono hs1))
         have c0 := hcc 0
         have c1 := hcc 1
         have c2 := hcc 2
         have c3 := hcc 3
         have c4 := hcc 4
         simp only [List.getElem?_toArray, List.getElem?_cons_zero, List.getElem?_cons_succ] at c0 c1 c2 c3 c4
         have hs2 := HB2.out.size
         generalize w1.heap.size = g at *
         clear hg0 hcc hB)
      | (go_at_call 15; refine (HA1.out _).mono ?_; rintro e w' ⟨rfl, rfl⟩)
      | (go_at_call 15; refine (HA2.out _).mono ?_; rintro e w' ⟨rfl, rfl⟩)
      | (go_at_call 15; refine (HA3.out _).mono ?_; rintro e w' ⟨rfl, rfl⟩)
      | (go_at_call 17; refine (HS.out _).mono ?_; rintro e w3 ⟨rfl, hB3⟩
         have HB3 := Lib.hid (((HB2.out.alloc hs2 (.cells #[.int .i64 many, .int .i64 odd, .float .f64 least, .float .f64 greatest, .float .f64 mean] 38)).alloc (Nat.le_trans hs2 (by simp)) (.cells #[.int .i64 many, .int .i64 odd, .float .f64 least, .float .f64 greatest, .float .f64 mean] 24)).trans (hB3.mono (Nat.le_trans hs2 (by simp only [World.size_alloc]; omega))))
         have hs3 := HB3.out.size
         clear hB3)
      | (go_at_call 18; refine (awake_any _ (HT.out.below HB3.out)).mono ?_; rintro e w4 ⟨rfl, hB4⟩))
    go_ret
    exact ⟨rfl, HB3.out.trans (hB4.mono hs3)⟩
end Go.Proofs.YtkodhaapllmdhaaDoor
