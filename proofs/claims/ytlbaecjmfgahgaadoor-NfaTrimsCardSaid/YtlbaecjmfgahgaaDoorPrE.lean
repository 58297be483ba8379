/- Several texts in one. -/
import Derived.Test.YtlbaecjmfgahgaaDoorNfS
namespace Go.Proofs.YtlbaecjmfgahgaaDoor
open Go.RowKit Sets Nf
namespace Nf
theorem wpList_neqS {ops : Array Oper} {rest : List Oper} {o : Oper} {a : Act} {w : World} {Q : Exit → Act → World → Prop} (hgd : o.guard = none) (ty t : TypeId) (x y : Operand) (ho : o.op = .binOp .neq ty x y t) (xs ys : Array Value) (hx : a.eval x = .agg xs) (hy : a.eval y = .agg ys) (hg : Tryd.prog.eqGuardType Tryd.prog.depth ty = false)
    (r : Bool) (hr : ∀ w, (Op.equalIn 10000 ty (.agg xs) (.agg ys)).run Tryd.prog w = .ok r w) (h : wpList Tryd.prog ops Q rest (a.put o.dst (.bool (!r))) w) : wpList Tryd.prog ops Q (o :: rest) a w := by
  refine wpList_plain hgd fun K hK => ?_
  unfold Oper.wp execOp
  simp only [ho, hx, hy, Sem.run_bind, run_eqGuard_agg w .neq ty x y _ _ hg, run_neq_struct, hr, Result.andThen_ok, Sem.run_pure]
  exact hK _ _ h
set_option maxHeartbeats 6400000 in
set_option maxRecDepth 100000 in
theorem equalN_any (a b : Option Addr) (ca cb : Nat) (l k : List Int) (w : World) (h : NumsIn w a l) (hk : NumsIn w b k) (hl : l.length ≤ 1000) :
    Calls Tryd.prog 27 #[.slice a l.length ca, .slice b k.length cb] w fun e w' => e = .returned (.bool (decide (l = k))) ∧ ∃ n, w' = w.drewN n := by
  have HN := Lib.hid h
  have HK := Lib.hid hk
  have HL := Lib.hid hl
  have HX := Lib.hid (ext_getD (0) (l := l) (k := k))


  clear h hk hl
  go_enter Tryd.func27, Tryd.ntmps27
  by_cases hlen : l.length = k.length
  · have hd0 : (((l.length : Nat) : Int) != ((k.length : Nat) : Int)) = false := by rw [hlen]; simp
    have HE := Lib.hid hlen
    clear hlen
    go_wp2_with fail
    go_loopw [5, 13] (fun _ i wr => ∃ j n : Nat, i = .int .i64 j ∧ j ≤ l.length ∧ wr = w.drewN n ∧ Hid (∀ t, t < j → l.getD t 0 = k.getD t 0)) (fun _ i _ => ((l.length : Int) - intOf i).toNat)
    case atStart => exact ⟨0, 0, rfl, Nat.zero_le _, by rw [World.drewN_zero], Lib.hid (fun t ht => by omega)⟩
    case round =>
      obtain ⟨j, n, rfl, hj, rfl, HI⟩ := hrel
      by_cases hlt : j < l.length
      · have hdd : decide ((j : Int) < (l.length : Int)) = true := decide_eq_true (by omega)
        have hd2 : decide (j < l.length) = true := decide_eq_true hlt
        obtain ⟨b1, o1, rfl, hc1⟩ := HN.out j hlt
        obtain ⟨b2, o2, rfl, hc2⟩ := HK.out j (by rw [← HE.out]; exact hlt)
        have hj1 : (j : Int) < (l.length : Int) := by omega
        have hj2 : (j : Int) < (k.length : Int) := by have := HE.out; omega
        have HW1 : Hid (wrap64 ((j : Int) + 1) = ((j + 1 : Nat) : Int)) := Lib.hid (nat_wrap (by have := HL.out; omega))
        have HJ := Lib.hid hlt
        have HD : Hid (l.getD j 0 ≠ k.getD j 0 → decide (l = k) = false) := Lib.hid (fun h => decide_eq_false (fun e => h (by rw [e])))
        have HS : Hid (l.getD j 0 = k.getD j 0 → ∀ t, t < j + 1 → l.getD t 0 = k.getD t 0) := Lib.hid (fun h t ht => by
          rcases Nat.lt_or_ge t j with h1 | h1
          · exact HI.out t h1
          · have : t = j := by omega
            subst this; exact h)
        clear hlt
        generalize l.getD j 0 = y at *
        generalize k.getD j 0 = z at *
        by_cases hyz : y = z
        · have hb : (y != z) = false := by rw [hyz]; simp
          have HS2 := Lib.hid (HS.out hyz)
          clear hyz
          go_wp2_with fail
          go_quiet (fail)
          go_wp2_with fail
          go_roundw
          case rel => exact ⟨j + 1, _, by rw [HW1.out], HJ.out, by first | rfl | rw [World.drewN_drewN], HS2⟩
          case measure => rw [HW1.out]; exact meas9 HJ.out
        · have hb : (y != z) = true := by rw [bne_iff_ne]; exact hyz
          have HR := Lib.hid (HD.out hyz)
          clear hyz
          go_wp2_with fail
          go_quiet (fail)
          go_wp2_with fail
          go_ret
          exact ⟨by rw [HR.out]; rfl, _, by first | rfl | rw [World.drewN_drewN]⟩
      · have hdd : decide ((j : Int) < (l.length : Int)) = false := decide_eq_false (by omega)
        have hd2 : decide (j < l.length) = false := decide_eq_false hlt
        have HR : Hid (decide (l = k) = true) := Lib.hid (decide_eq_true (HX.out HE.out (fun i hi => HI.out i (by omega))))
        clear hlt
        go_wp2_with fail
        go_ret
        exact ⟨by rw [HR.out]; rfl, _, rfl⟩
  · have hd0 : (((l.length : Nat) : Int) != ((k.length : Nat) : Int)) = true := by rw [bne_iff_ne]; omega
    have HR : Hid (decide (l = k) = false) := Lib.hid (decide_eq_false (fun e => hlen (by rw [e])))
    clear hlen
    go_wp2_with fail
    go_ret
    exact ⟨by rw [HR.out]; rfl, 0, by rw [World.drewN_zero]⟩
set_option maxHeartbeats 6400000 in
set_option maxRecDepth 100000 in
theorem equalB_any (a b : Option Addr) (ca cb : Nat) (l k : List Bool) (w : World) (h : BoolsIn w a l) (hk : BoolsIn w b k) (hl : l.length ≤ 1000) :
    Calls Tryd.prog 29 #[.slice a l.length ca, .slice b k.length cb] w fun e w' => e = .returned (.bool (decide (l = k))) ∧ ∃ n, w' = w.drewN n := by
  have HN := Lib.hid h
  have HK := Lib.hid hk
  have HL := Lib.hid hl
  have HX := Lib.hid (ext_getD (false) (l := l) (k := k))


  clear h hk hl
  go_enter Tryd.func29, Tryd.ntmps29
  by_cases hlen : l.length = k.length
  · have hd0 : (((l.length : Nat) : Int) != ((k.length : Nat) : Int)) = false := by rw [hlen]; simp
    have HE := Lib.hid hlen
    clear hlen
    go_wp2_with fail
    go_loopw [5, 13] (fun _ i wr => ∃ j n : Nat, i = .int .i64 j ∧ j ≤ l.length ∧ wr = w.drewN n ∧ Hid (∀ t, t < j → l.getD t false = k.getD t false)) (fun _ i _ => ((l.length : Int) - intOf i).toNat)
    case atStart => exact ⟨0, 0, rfl, Nat.zero_le _, by rw [World.drewN_zero], Lib.hid (fun t ht => by omega)⟩
    case round =>
      obtain ⟨j, n, rfl, hj, rfl, HI⟩ := hrel
      by_cases hlt : j < l.length
      · have hdd : decide ((j : Int) < (l.length : Int)) = true := decide_eq_true (by omega)
        have hd2 : decide (j < l.length) = true := decide_eq_true hlt
        obtain ⟨b1, o1, rfl, hc1⟩ := HN.out j hlt
        obtain ⟨b2, o2, rfl, hc2⟩ := HK.out j (by rw [← HE.out]; exact hlt)
        have hj1 : (j : Int) < (l.length : Int) := by omega
        have hj2 : (j : Int) < (k.length : Int) := by have := HE.out; omega
        have HW1 : Hid (wrap64 ((j : Int) + 1) = ((j + 1 : Nat) : Int)) := Lib.hid (nat_wrap (by have := HL.out; omega))
        have HJ := Lib.hid hlt
        have HD : Hid (l.getD j false ≠ k.getD j false → decide (l = k) = false) := Lib.hid (fun h => decide_eq_false (fun e => h (by rw [e])))
        have HS : Hid (l.getD j false = k.getD j false → ∀ t, t < j + 1 → l.getD t false = k.getD t false) := Lib.hid (fun h t ht => by
          rcases Nat.lt_or_ge t j with h1 | h1
          · exact HI.out t h1
          · have : t = j := by omega
            subst this; exact h)
        clear hlt
        cases h1 : l.getD j false <;> cases h2 : k.getD j false <;> rw [h1] at hc1 HD HS <;> rw [h2] at hc2 HD HS <;> clear h1 h2
        · have HS2 := Lib.hid (HS.out rfl)
          go_wp2_with fail
          go_quiet (fail)
          go_wp2_with fail
          go_roundw
          case rel => exact ⟨j + 1, _, by rw [HW1.out], HJ.out, by first | rfl | rw [World.drewN_drewN], HS2⟩
          case measure => rw [HW1.out]; exact meas9 HJ.out
        · have HR := Lib.hid (HD.out (by decide))
          go_wp2_with fail
          go_quiet (fail)
          go_wp2_with fail
          go_ret
          exact ⟨by rw [HR.out]; rfl, _, by first | rfl | rw [World.drewN_drewN]⟩
        · have HR := Lib.hid (HD.out (by decide))
          go_wp2_with fail
          go_quiet (fail)
          go_wp2_with fail
          go_ret
          exact ⟨by rw [HR.out]; rfl, _, by first | rfl | rw [World.drewN_drewN]⟩
        · have HS2 := Lib.hid (HS.out rfl)
          go_wp2_with fail
          go_quiet (fail)
          go_wp2_with fail
          go_roundw
          case rel => exact ⟨j + 1, _, by rw [HW1.out], HJ.out, by first | rfl | rw [World.drewN_drewN], HS2⟩
          case measure => rw [HW1.out]; exact meas9 HJ.out
      · have hdd : decide ((j : Int) < (l.length : Int)) = false := decide_eq_false (by omega)
        have hd2 : decide (j < l.length) = false := decide_eq_false hlt
        have HR : Hid (decide (l = k) = true) := Lib.hid (decide_eq_true (HX.out HE.out (fun i hi => HI.out i (by omega))))
        clear hlt
        go_wp2_with fail
        go_ret
        exact ⟨by rw [HR.out]; rfl, _, rfl⟩
  · have hd0 : (((l.length : Nat) : Int) != ((k.length : Nat) : Int)) = true := by rw [bne_iff_ne]; omega
    have HR : Hid (decide (l = k) = false) := Lib.hid (decide_eq_false (fun e => hlen (by rw [e])))
    clear hlen
    go_wp2_with fail
    go_ret
    exact ⟨by rw [HR.out]; rfl, 0, by rw [World.drewN_zero]⟩
set_option maxHeartbeats 6400000 in
set_option maxRecDepth 100000 in
theorem equalS_any (a b : Option Addr) (ca cb : Nat) (l k : List (Nat × Nat)) (w : World) (h : SpotsIn w a l) (hk : SpotsIn w b k) (hl : l.length ≤ 1000) (hs : ∀ s ∈ l, s.1 < 2 ^ 256) (hs' : ∀ s ∈ k, s.1 < 2 ^ 256) :
    Calls Tryd.prog 26 #[.slice a l.length ca, .slice b k.length cb] w fun e w' => e = .returned (.bool (decide (l = k))) ∧ ∃ n, w' = w.drewN n := by
  have HN := Lib.hid h
  have HK := Lib.hid hk
  have HL := Lib.hid hl
  have HX := Lib.hid (ext_getD ((0, 0)) (l := l) (k := k))
  have HS1 := Lib.hid hs
  have HS2' := Lib.hid hs'
  clear h hk hl hs hs'
  go_enter Tryd.func26, Tryd.ntmps26
  by_cases hlen : l.length = k.length
  · have hd0 : (((l.length : Nat) : Int) != ((k.length : Nat) : Int)) = false := by rw [hlen]; simp
    have HE := Lib.hid hlen
    clear hlen
    go_wp2_with fail
    go_loopw [5, 13] (fun _ i wr => ∃ j n : Nat, i = .int .i64 j ∧ j ≤ l.length ∧ wr = w.drewN n ∧ Hid (∀ t, t < j → l.getD t (0, 0) = k.getD t (0, 0))) (fun _ i _ => ((l.length : Int) - intOf i).toNat)
    case atStart => exact ⟨0, 0, rfl, Nat.zero_le _, by rw [World.drewN_zero], Lib.hid (fun t ht => by omega)⟩
    case round =>
      obtain ⟨j, n, rfl, hj, rfl, HI⟩ := hrel
      by_cases hlt : j < l.length
      · have hdd : decide ((j : Int) < (l.length : Int)) = true := decide_eq_true (by omega)
        have hd2 : decide (j < l.length) = true := decide_eq_true hlt
        obtain ⟨b1, o1, rfl, hc1⟩ := HN.out j hlt
        obtain ⟨b2, o2, rfl, hc2⟩ := HK.out j (by rw [← HE.out]; exact hlt)
        have hj1 : (j : Int) < (l.length : Int) := by omega
        have hj2 : (j : Int) < (k.length : Int) := by have := HE.out; omega
        have HW1 : Hid (wrap64 ((j : Int) + 1) = ((j + 1 : Nat) : Int)) := Lib.hid (nat_wrap (by have := HL.out; omega))
        have HJ := Lib.hid hlt
        have HD : Hid (l.getD j (0, 0) ≠ k.getD j (0, 0) → decide (l = k) = false) := Lib.hid (fun h => decide_eq_false (fun e => h (by rw [e])))
        have HS : Hid (l.getD j (0, 0) = k.getD j (0, 0) → ∀ t, t < j + 1 → l.getD t (0, 0) = k.getD t (0, 0)) := Lib.hid (fun h t ht => by
          rcases Nat.lt_or_ge t j with h1 | h1
          · exact HI.out t h1
          · have : t = j := by omega
            subst this; exact h)
        have HP1 := Lib.hid (HS1.out _ (getD_mem (d := (0, 0)) hlt))
        have HP2 := Lib.hid (HS2'.out _ (getD_mem (d := (0, 0)) (show j < k.length by rw [← HE.out]; exact hlt)))
        have hc1' : (w.drewN n).rangeAt b1 (o1 + j * 5) (sp5 (l.getD j (0, 0))) := fun t v hv => hc1 t v hv
        have hc2' : (w.drewN n).rangeAt b2 (o2 + j * 5) (sp5 (k.getD j (0, 0))) := fun t v hv => hc2 t v hv
        have Q1 := Lib.hid hc1'
        have Q2 := Lib.hid hc2'
        clear hlt hc1 hc2 hc1' hc2'
        generalize l.getD j (0, 0) = p1 at *
        generalize k.getD j (0, 0) = p2 at *
        go_upto_region 6 with fail
        refine region_mix [(false, 0), (false, 1), (false, 2), (false, 3), (false, 4), (false, 5), (false, 6), (false, 7)] (fun w' => w' = (w.drewN n).drew) (by kernel_rfl) (by kernel_rfl) rfl ?_
        simp only [planOps, List.map_cons, List.map_nil, List.getD_cons_zero, List.getD_cons_succ, List.length_cons, List.length_nil, List.drop_succ_cons, List.drop_zero]
        refine mix_seg (seg := [_, _, _, _, _, _, _, _]) (rest := []) rfl rfl ?_
        intro ι hι F hF
        have Q1 : Hid ((w.drewN n).drew.rangeAt b1 (o1 + j * 5) (sp5 p1)) := Lib.hid (fun t v hv => Q1.out t v hv)
        have Q2 : Hid ((w.drewN n).drew.rangeAt b2 (o2 + j * 5) (sp5 p2)) := Lib.hid (fun t v hv => Q2.out t v hv)
        iterate 3 (go_big_quiet_step (fail))
        refine BigFrame.wpQuiet_want rfl (fun K hK => ?_); refine quiet_load_mid 41 _ rfl b1 (o1 + j * 5) rfl (sp5 p1) _ (fun w' ⟨k, e⟩ => by rw [e, hF k]; exact Q1.out) Tryd.underlying41 rfl (sizeSpot p1) ?_; refine hK _ ?_; clear hK K; simp only [Act.put, List.setIfInBounds_toArray, List.set_cons_zero, List.set_cons_succ]
        iterate 3 (go_big_quiet_step (fail))
        refine BigFrame.wpQuiet_want rfl (fun K hK => ?_); refine quiet_load_mid 41 _ rfl b2 (o2 + j * 5) rfl (sp5 p2) _ (fun w' ⟨k, e⟩ => by rw [e, hF k]; exact Q2.out) Tryd.underlying41 rfl (sizeSpot p2) ?_; refine hK _ ?_; clear hK K; simp only [Act.put, List.setIfInBounds_toArray, List.set_cons_zero, List.set_cons_succ]
        refine wpQuiet_nil ?_
        clear hF hι F
        show wpList _ _ _ _ _ _
        go_wp2_with (refine wpList_neqS rfl 41 _ _ _ rfl (row5 p1) (row5 p2) rfl rfl (by kernel_rfl) (decide (p1 = p2)) (fun w' => eqSpot p1 p2 HP1.out HP2.out w') ?_)
        refine NoPanic.normal ?_
        by_cases hpq : p1 = p2
        · have HS2 := Lib.hid (HS.out hpq)
          rw [decide_eq_true hpq]
          clear hpq
          go_wp2_with fail
          go_roundw
          case rel => exact ⟨j + 1, n + 1, by rw [HW1.out], HJ.out, by first | rfl | trivial, HS2⟩
          case measure => rw [HW1.out]; exact meas9 HJ.out
        · have HR := Lib.hid (HD.out hpq)
          rw [decide_eq_false hpq]
          clear hpq
          go_wp2_with fail
          go_ret
          exact ⟨by rw [HR.out]; rfl, n + 1, by first | rfl | trivial⟩
      · have hdd : decide ((j : Int) < (l.length : Int)) = false := decide_eq_false (by omega)
        have hd2 : decide (j < l.length) = false := decide_eq_false hlt
        have HR : Hid (decide (l = k) = true) := Lib.hid (decide_eq_true (HX.out HE.out (fun i hi => HI.out i (by omega))))
        clear hlt
        go_wp2_with fail
        go_ret
        exact ⟨by rw [HR.out]; rfl, _, rfl⟩
  · have hd0 : (((l.length : Nat) : Int) != ((k.length : Nat) : Int)) = true := by rw [bne_iff_ne]; omega
    have HR : Hid (decide (l = k) = false) := Lib.hid (decide_eq_false (fun e => hlen (by rw [e])))
    clear hlen
    go_wp2_with fail
    go_ret
    exact ⟨by rw [HR.out]; rfl, 0, by rw [World.drewN_zero]⟩
end Nf
end Go.Proofs.YtlbaecjmfgahgaaDoor
namespace Go.Proofs.YtlbaecjmfgahgaaDoor
open Go.RowKit Sets Nf
namespace Nf
set_option maxHeartbeats 6400000 in
set_option maxRecDepth 100000 in
theorem equalF_any (a b : Option Addr) (ca cb : Nat) (l k : List (List Int)) (w : World) (h : ListsIn w a l) (hk : ListsIn w b k) (hl : l.length ≤ 1000) (hs : ∀ s ∈ l, s.length ≤ 1000) :
    Calls Tryd.prog 28 #[.slice a l.length ca, .slice b k.length cb, .func (.func 27) #[] #[]] w fun e w' => e = .returned (.bool (decide (l = k))) ∧ ∃ n, w' = w.drewN n := by
  have HN := Lib.hid h
  have HK := Lib.hid hk
  have HL := Lib.hid hl
  have HS1 := Lib.hid hs
  have HX := Lib.hid (ext_getD ([] : List Int) (l := l) (k := k))
  clear h hk hl hs
  go_enter Tryd.func28, Tryd.ntmps28
  by_cases hlen : l.length = k.length
  · have hd0 : (((l.length : Nat) : Int) != ((k.length : Nat) : Int)) = false := by rw [hlen]; simp
    have HE := Lib.hid hlen
    clear hlen
    go_wp2_with fail
    go_loopw [7, 8, 9, 17] (fun _ _ _ i wr => ∃ j n : Nat, i = .int .i64 j ∧ j ≤ l.length ∧ wr = w.drewN n ∧ Hid (∀ t, t < j → l.getD t [] = k.getD t [])) (fun _ _ _ i _ => ((l.length : Int) - intOf i).toNat)
    case atStart => exact ⟨0, 0, rfl, Nat.zero_le _, by rw [World.drewN_zero], Lib.hid (fun t ht => by omega)⟩
    case round =>
      obtain ⟨j, n, rfl, hj, rfl, HI⟩ := hrel
      by_cases hlt : j < l.length
      · have hdd : decide ((j : Int) < (l.length : Int)) = true := decide_eq_true (by omega)
        have hd2 : decide (j < l.length) = true := decide_eq_true hlt
        have HJ := Lib.hid hlt
        obtain ⟨b1, o1, x1, k1, rfl, hc1, hn1⟩ := HN.out j hlt
        obtain ⟨b2, o2, x2, k2, rfl, hc2, hn2⟩ := HK.out j (by rw [← HE.out]; exact hlt)
        have hj1 : (j : Int) < (l.length : Int) := by omega
        have hj2 : (j : Int) < (k.length : Int) := by have := HE.out; omega
        have HW1 : Hid (wrap64 ((j : Int) + 1) = ((j + 1 : Nat) : Int)) := Lib.hid (nat_wrap (by have := HL.out; omega))
        have HD : Hid (l.getD j [] ≠ k.getD j [] → decide (l = k) = false) := Lib.hid (fun h => decide_eq_false (fun e => h (by rw [e])))
        have HS : Hid (l.getD j [] = k.getD j [] → ∀ t, t < j + 1 → l.getD t [] = k.getD t []) := Lib.hid (fun h t ht => by
          rcases Nat.lt_or_ge t j with h1 | h1
          · exact HI.out t h1
          · have : t = j := by omega
            subst this; exact h)
        have HEQ := Lib.hid (equalN_any x1 x2 k1 k2 (l.getD j []) (k.getD j []) (w.drewN n) (hn1.kept (below_drewN (Below.refl _ _) n)) (hn2.kept (below_drewN (Below.refl _ _) n)) (HS1.out _ (getD_mem hlt)))
        clear hlt hn1 hn2
        generalize l.getD j [] = y at *
        generalize k.getD j [] = z at *
        by_cases hyz : y = z
        · rw [decide_eq_true hyz] at HEQ
          have HS2 := Lib.hid (HS.out hyz)
          clear hyz
          go_wp2_with (go_at_call 27; refine HEQ.out.mono ?_; rintro e w3 ⟨rfl, q, rfl⟩)
          go_roundw
          case rel => exact ⟨j + 1, n + q, by rw [HW1.out], HJ.out, by first | rfl | rw [World.drewN_drewN], HS2⟩
          case measure => rw [HW1.out]; have := HJ.out; simp only [intOf]; omega
        · rw [decide_eq_false hyz] at HEQ
          have HR := Lib.hid (HD.out hyz)
          clear hyz
          go_wp2_with (go_at_call 27; refine HEQ.out.mono ?_; rintro e w3 ⟨rfl, q, rfl⟩)
          go_ret
          exact ⟨by rw [HR.out]; rfl, n + q, by first | rfl | rw [World.drewN_drewN]⟩
      · have hdd : decide ((j : Int) < (l.length : Int)) = false := decide_eq_false (by omega)
        have hd2 : decide (j < l.length) = false := decide_eq_false hlt
        have HR : Hid (decide (l = k) = true) := Lib.hid (decide_eq_true (HX.out HE.out (fun i hi => HI.out i (by omega))))
        clear hlt
        go_wp2_with fail
        go_ret
        exact ⟨by rw [HR.out]; rfl, _, rfl⟩
  · have hd0 : (((l.length : Nat) : Int) != ((k.length : Nat) : Int)) = true := by rw [bne_iff_ne]; omega
    have HR : Hid (decide (l = k) = false) := Lib.hid (decide_eq_false (fun e => hlen (by rw [e])))
    clear hlen
    go_wp2_with fail
    go_ret
    exact ⟨by rw [HR.out]; rfl, 0, by rw [World.drewN_zero]⟩
set_option maxHeartbeats 6400000 in
set_option maxRecDepth 100000 in
theorem nsame_any (x y : Ma) (m n : Mc) (w : World) (h : MAt w x m) (hy : MAt w y n) (hf : Fine m) (hg : Fine n) :
    Calls Tryd.prog 10 #[.agg (mc x m), .agg (mc y n)] w fun e w' => e = .returned (.bool (sameB m n)) ∧ Below w.heap.size w w' := by
  have HM0 := Lib.hid h
  have HN0 := Lib.hid hy
  have HF := Lib.hid hf
  have HG := Lib.hid hg
  clear h hy hf hg
  go_enter Tryd.func10, Tryd.ntmps10
  go_upto_region 1 with fail
  have hb1 := (Below.refl w.heap.size w).alloc (Nat.le_refl _) (.cells (mc x m) 27)
  have HX1 := Lib.hid (BoxM.new w x m)
  have HM1 := Lib.hid (HM0.out.kept hb1)
  have HN1 := Lib.hid (HN0.out.kept hb1)
  obtain ⟨B, hBq⟩ : ∃ B, Hid (w.heap.size = B) := ⟨_, Lib.hid rfl⟩
  have HB1 : Hid (Below B w (w.alloc (.cells (mc x m) 27))) := Lib.hid (by rw [← hBq.out]; exact hb1)
  have HZ : Hid ((w.alloc (.cells (mc x m) 27)).heap.size = B + 1) := Lib.hid (by rw [← hBq.out]; simp)
  rw [hBq.out] at HX1
  try simp only [hBq.out]
  clear hb1
  generalize w.alloc (.cells (mc x m) 27) = w1 at *
  have hb2 := (Below.refl w1.heap.size w1).alloc (Nat.le_refl _) (.cells (mc y n) 27)
  have HY := Lib.hid (BoxM.new w1 y n)
  have HX := Lib.hid (HX1.out.kept hb2 HX1.out.lt)
  have HM := Lib.hid (HM1.out.kept hb2)
  have HN := Lib.hid (HN1.out.kept hb2)
  have HB := Lib.hid (HB1.out.trans (hb2.mono (by rw [HZ.out]; omega)))
  rw [HZ.out] at HY
  clear hb2 HX1 HM1 HN1 HB1 HM0 HN0
  generalize w1.alloc (.cells (mc y n) 27) = w2 at *
  clear HZ w1
  have HXL := Lib.hid HX.out.lt
  have HYL := Lib.hid HY.out.lt
  have c0 := HX.out.c0
  have c1 := HX.out.c1
  have c2 := HX.out.c2
  have c3 := HX.out.c3
  have c4 := HX.out.c4
  have e0 := HY.out.c0
  have e1 := HY.out.c1
  have e2 := HY.out.c2
  have e3 := HY.out.c3
  have e4 := HY.out.c4
  have HRE : Hid (∀ k, Below w.heap.size w (w2.drewN k)) := Lib.hid (fun k => by rw [hBq.out]; exact HB.out.trans ((below_drewN (Below.refl _ _) k).mono (Nat.le_of_lt HXL.out)))
  have hbn := fun k => below_drewN (Below.refl w2.heap.size w2) k
  have E1 := Lib.hid (equalS_any x.sa y.sa x.sc y.sc m.sp n.sp w2 HM.out.sp HN.out.sp HF.out.sp (fun s hs => (HF.out.set s hs).1) (fun s hs => (HG.out.set s hs).1))
  have E2 := Lib.hid (fun k => equalN_any x.fa y.fa x.fc y.fc m.fi n.fi (w2.drewN k) (HM.out.kept (hbn k)).fi (HN.out.kept (hbn k)).fi HF.out.fi)
  have E3 := Lib.hid (fun k => equalF_any x.oa y.oa x.oc y.oc m.fo n.fo (w2.drewN k) (HM.out.kept (hbn k)).fo (HN.out.kept (hbn k)).fo HF.out.fo (fun s hs => (HF.out.each s hs).1))
  have E4 := Lib.hid (fun k => equalB_any x.la y.la x.lc y.lc m.la n.la (w2.drewN k) (HM.out.kept (hbn k)).la (HN.out.kept (hbn k)).la HF.out.la)
  clear hbn
  have HSM : Hid (sameB m n = (decide (m.sp = n.sp) && (decide (m.fi = n.fi) && (decide (m.fo = n.fo) && (decide (m.la = n.la) && decide (m.em = n.em)))))) := Lib.hid (by unfold sameB; simp only [Bool.decide_and])
  generalize decide (m.sp = n.sp) = q1 at *
  generalize decide (m.fi = n.fi) = q2 at *
  generalize decide (m.fo = n.fo) = q3 at *
  generalize decide (m.la = n.la) = q4 at *
  have HEM : Hid (decide (m.em = n.em) = (m.em == n.em)) := Lib.hid rfl
  rw [HEM.out] at HSM
  clear HEM
  cases q1 with
  | false =>
    have HR : Hid (sameB m n = false) := Lib.hid (by rw [HSM.out]; rfl)
    clear HSM
    go_wp2_with (first | (go_at_call 26; refine E1.out.mono ?_; rintro e w3 ⟨rfl, k1, rfl⟩))
    go_ret
    exact ⟨by rw [HR.out]; rfl, HRE.out _⟩
  | true =>
    cases q2 with
    | false =>
      have HR : Hid (sameB m n = false) := Lib.hid (by rw [HSM.out]; rfl)
      clear HSM
      go_wp2_with (first | (go_at_call 26; refine E1.out.mono ?_; rintro e w3 ⟨rfl, k1, rfl⟩) | (go_at_call 27; refine (E2.out _).mono ?_; rintro e w4 ⟨rfl, k2, rfl⟩))
      go_ret
      exact ⟨by rw [HR.out]; rfl, HRE.out _⟩
    | true =>
      cases q3 with
      | false =>
        have HR : Hid (sameB m n = false) := Lib.hid (by rw [HSM.out]; rfl)
        clear HSM
        go_wp2_with (first | (go_at_call 26; refine E1.out.mono ?_; rintro e w3 ⟨rfl, k1, rfl⟩) | (go_at_call 27; refine (E2.out _).mono ?_; rintro e w4 ⟨rfl, k2, rfl⟩) | (go_at_call 28; refine (E3.out _).mono ?_; rintro e w5 ⟨rfl, k3, rfl⟩))
        go_ret
        exact ⟨by rw [HR.out]; rfl, HRE.out _⟩
      | true =>
        cases q4 with
        | false =>
          have HR : Hid (sameB m n = false) := Lib.hid (by rw [HSM.out]; rfl)
          clear HSM
          go_wp2_with (first | (go_at_call 26; refine E1.out.mono ?_; rintro e w3 ⟨rfl, k1, rfl⟩) | (go_at_call 27; refine (E2.out _).mono ?_; rintro e w4 ⟨rfl, k2, rfl⟩) | (go_at_call 28; refine (E3.out _).mono ?_; rintro e w5 ⟨rfl, k3, rfl⟩) | (go_at_call 29; refine (E4.out _).mono ?_; rintro e w6 ⟨rfl, k4, rfl⟩))
          go_ret
          exact ⟨by rw [HR.out]; rfl, HRE.out _⟩
        | true =>
          have HR : Hid (sameB m n = (m.em == n.em)) := Lib.hid (by rw [HSM.out]; rfl)
          clear HSM
          generalize m.em = p1 at *
          generalize n.em = p2 at *
          cases p1 <;> cases p2
          all_goals
            go_wp2_with (first | (go_at_call 26; refine E1.out.mono ?_; rintro e w3 ⟨rfl, k1, rfl⟩) | (go_at_call 27; refine (E2.out _).mono ?_; rintro e w4 ⟨rfl, k2, rfl⟩) | (go_at_call 28; refine (E3.out _).mono ?_; rintro e w5 ⟨rfl, k3, rfl⟩) | (go_at_call 29; refine (E4.out _).mono ?_; rintro e w6 ⟨rfl, k4, rfl⟩))
            go_ret
            exact ⟨by rw [HR.out]; rfl, HRE.out _⟩
end Nf
end Go.Proofs.YtlbaecjmfgahgaaDoor
