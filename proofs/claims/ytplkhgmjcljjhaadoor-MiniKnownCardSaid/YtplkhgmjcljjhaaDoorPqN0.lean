/- Several texts in one. -/
import Derived.Test.YtplkhgmjcljjhaaDoorPq21
import Derived.Test.YtplkhgmjcljjhaaDoorPq10
namespace Go.Proofs.YtplkhgmjcljjhaaDoor
open Go.RowKit Sets Nf
namespace Nf
def sameB (m n : Mc) : Bool := decide (m.sp = n.sp ∧ m.fi = n.fi ∧ m.fo = n.fo ∧ m.la = n.la ∧ m.em = n.em)
theorem same_sp {m n : Mc} (h : m.sp ≠ n.sp) : sameB m n = false := decide_eq_false (fun e => h e.1)
theorem same_fi {m n : Mc} (h : m.fi ≠ n.fi) : sameB m n = false := decide_eq_false (fun e => h e.2.1)
theorem same_fo {m n : Mc} (h : m.fo ≠ n.fo) : sameB m n = false := decide_eq_false (fun e => h e.2.2.1)
theorem same_la {m n : Mc} (h : m.la ≠ n.la) : sameB m n = false := decide_eq_false (fun e => h e.2.2.2.1)
theorem same_em {m n : Mc} (h : m.em ≠ n.em) : sameB m n = false := decide_eq_false (fun e => h e.2.2.2.2)
theorem quiet_drewN {P : Program} {f : FuncId} {args : Array Value} {w : World} {n : Nat} {v : Value} (h : Calls P f args (w.drewN n) fun e w' => e = .returned v ∧ ∃ k, w' = (w.drewN n).drewN k) :
    Calls P f args (w.drewN n) fun e w'' => e = .returned v ∧ ∃ m, w'' = w.drewN m :=
  h.mono fun _ _ ⟨he, k, hk⟩ => ⟨he, n + k, by rw [hk, World.drewN_drewN]⟩
theorem len_ne {α : Type} {l k : List α} (h : ¬ l.length = k.length) : l ≠ k := fun e => h (by rw [e])
end Nf
end Go.Proofs.YtplkhgmjcljjhaaDoor
namespace Go.Proofs.YtplkhgmjcljjhaaDoor
open Go.RowKit Sets Nf
namespace Nf
theorem wpList_neqS {ops : Array Oper} {rest : List Oper} {o : Oper} {a : Act} {w : World} {Q : Exit → Act → World → Prop} (hgd : o.guard = none) (ty t : TypeId) (x y : Operand) (ho : o.op = .binOp .neq ty x y t) (xs ys : Array Value) (hx : a.eval x = .agg xs) (hy : a.eval y = .agg ys) (hg : Tryd.prog.eqGuardType Tryd.prog.depth ty = false)
    (r : Bool) (hr : ∀ w, (Op.equalIn 10000 ty (.agg xs) (.agg ys)).run Tryd.prog w = .ok r w) (h : wpList Tryd.prog ops Q rest (a.put o.dst (.bool (!r))) w) : wpList Tryd.prog ops Q (o :: rest) a w := by
  refine wpList_plain hgd fun K hK => ?_
  unfold Oper.wp execOp
  simp only [ho, hx, hy, Sem.run_bind, run_eqGuard_agg w .neq ty x y _ _ hg, run_neq_struct, hr, Result.andThen_ok, Sem.run_pure]
  exact hK _ _ h
set_option maxHeartbeats 6400000 in
set_option maxRecDepth 100000 in
theorem equalN_any (a b : Option Addr) (ca cb : Nat) (l k : List Int) (w : World) (h : NumsIn w a l) (hk : NumsIn w b k) (hl : l.length ≤ 1000) :
    Calls Tryd.prog 32 #[.slice a l.length ca, .slice b k.length cb] w fun e w' => e = .returned (.bool (decide (l = k))) ∧ ∃ n, w' = w.drewN n := by
  have HN := Lib.hid h
  have HK := Lib.hid hk
  have HL := Lib.hid hl
  have HX := Lib.hid (ext_getD (0) (l := l) (k := k))


  clear h hk hl
  go_enter Tryd.func32, Tryd.ntmps32
  by_cases hlen : l.length = k.length
  · have hd0 : (((l.length : Nat) : Int) != ((k.length : Nat) : Int)) = false := by rw [hlen]; simp
    have HE := Lib.hid hlen
    clear hlen
    go_wp2_with fail
    go_loopw [5, 13] (fun _ i wr => ∃ j n : Nat, i = .int .i64 j ∧ j ≤ l.length ∧ wr = w.drewN n ∧ Hid (∀ t, t < j → l.getD t 0 = k.getD t 0)) (fun _ i _ => ((l.length : Int) - intOf i).toNat)
    case atStart => exact ⟨0, 0, rfl, Nat.zero_le _, by rw [World.drewN_zero], Lib.hid (fun t ht => by omega)⟩
    case round =>
      obtain ⟨j, n, rfl, hj, rfl, HI⟩ := hrel
      by_cases hlt : j < l.length
      · have hdd : decide ((j : Int) < (l.length : Int)) = true := decide_eq_true (by omega)
        have hd2 : decide (j < l.length) = true := decide_eq_true hlt
        obtain ⟨b1, o1, rfl, hc1⟩ := HN.out j hlt
        obtain ⟨b2, o2, rfl, hc2⟩ := HK.out j (by rw [← HE.out]; exact hlt)
        have hj1 : (j : Int) < (l.length : Int) := by omega
        have hj2 : (j : Int) < (k.length : Int) := by have := HE.out; omega
        have HW1 : Hid (wrap64 ((j : Int) + 1) = ((j + 1 : Nat) : Int)) := Lib.hid (nat_wrap (by have := HL.out; omega))
        have HJ := Lib.hid hlt
        have HD : Hid (l.getD j 0 ≠ k.getD j 0 → decide (l = k) = false) := Lib.hid (fun h => decide_eq_false (fun e => h (by rw [e])))
        have HS : Hid (l.getD j 0 = k.getD j 0 → ∀ t, t < j + 1 → l.getD t 0 = k.getD t 0) := Lib.hid (fun h t ht => by
          rcases Nat.lt_or_ge t j with h1 | h1
          · exact HI.out t h1
          · have : t = j := by omega
            subst this; exact h)
        clear hlt
        generalize l.getD j 0 = y at *
        generalize k.getD j 0 = z at *
        by_cases hyz : y = z
        · have hb : (y != z) = false := by rw [hyz]; simp
          have HS2 := Lib.hid (HS.out hyz)
          clear hyz
          go_wp2_with fail
          go_quiet (fail)
          go_wp2_with fail
          go_roundw
          case rel => exact ⟨j + 1, _, by rw [HW1.out], HJ.out, by first | rfl | rw [World.drewN_drewN], HS2⟩
          case measure => rw [HW1.out]; exact meas9 HJ.out
        · have hb : (y != z) = true := by rw [bne_iff_ne]; exact hyz
          have HR := Lib.hid (HD.out hyz)
          clear hyz
          go_wp2_with fail
          go_quiet (fail)
          go_wp2_with fail
          go_ret
          exact ⟨by rw [HR.out]; rfl, _, by first | rfl | rw [World.drewN_drewN]⟩
      · have hdd : decide ((j : Int) < (l.length : Int)) = false := decide_eq_false (by omega)
        have hd2 : decide (j < l.length) = false := decide_eq_false hlt
        have HR : Hid (decide (l = k) = true) := Lib.hid (decide_eq_true (HX.out HE.out (fun i hi => HI.out i (by omega))))
        clear hlt
        go_wp2_with fail
        go_ret
        exact ⟨by rw [HR.out]; rfl, _, rfl⟩
  · have hd0 : (((l.length : Nat) : Int) != ((k.length : Nat) : Int)) = true := by rw [bne_iff_ne]; omega
    have HR : Hid (decide (l = k) = false) := Lib.hid (decide_eq_false (fun e => hlen (by rw [e])))
    clear hlen
    go_wp2_with fail
    go_ret
    exact ⟨by rw [HR.out]; rfl, 0, by rw [World.drewN_zero]⟩
set_option maxHeartbeats 6400000 in
set_option maxRecDepth 100000 in
theorem equalB_any (a b : Option Addr) (ca cb : Nat) (l k : List Bool) (w : World) (h : BoolsIn w a l) (hk : BoolsIn w b k) (hl : l.length ≤ 1000) :
    Calls Tryd.prog 30 #[.slice a l.length ca, .slice b k.length cb] w fun e w' => e = .returned (.bool (decide (l = k))) ∧ ∃ n, w' = w.drewN n := by
  have HN := Lib.hid h
  have HK := Lib.hid hk
  have HL := Lib.hid hl
  have HX := Lib.hid (ext_getD (false) (l := l) (k := k))


  clear h hk hl
  go_enter Tryd.func30, Tryd.ntmps30
  by_cases hlen : l.length = k.length
  · have hd0 : (((l.length : Nat) : Int) != ((k.length : Nat) : Int)) = false := by rw [hlen]; simp
    have HE := Lib.hid hlen
    clear hlen
    go_wp2_with fail
    go_loopw [5, 13] (fun _ i wr => ∃ j n : Nat, i = .int .i64 j ∧ j ≤ l.length ∧ wr = w.drewN n ∧ Hid (∀ t, t < j → l.getD t false = k.getD t false)) (fun _ i _ => ((l.length : Int) - intOf i).toNat)
    case atStart => exact ⟨0, 0, rfl, Nat.zero_le _, by rw [World.drewN_zero], Lib.hid (fun t ht => by omega)⟩
    case round =>
      obtain ⟨j, n, rfl, hj, rfl, HI⟩ := hrel
      by_cases hlt : j < l.length
      · have hdd : decide ((j : Int) < (l.length : Int)) = true := decide_eq_true (by omega)
        have hd2 : decide (j < l.length) = true := decide_eq_true hlt
        obtain ⟨b1, o1, rfl, hc1⟩ := HN.out j hlt
        obtain ⟨b2, o2, rfl, hc2⟩ := HK.out j (by rw [← HE.out]; exact hlt)
        have hj1 : (j : Int) < (l.length : Int) := by omega
        have hj2 : (j : Int) < (k.length : Int) := by have := HE.out; omega
        have HW1 : Hid (wrap64 ((j : Int) + 1) = ((j + 1 : Nat) : Int)) := Lib.hid (nat_wrap (by have := HL.out; omega))
        have HJ := Lib.hid hlt
        have HD : Hid (l.getD j false ≠ k.getD j false → decide (l = k) = false) := Lib.hid (fun h => decide_eq_false (fun e => h (by rw [e])))
        have HS : Hid (l.getD j false = k.getD j false → ∀ t, t < j + 1 → l.getD t false = k.getD t false) := Lib.hid (fun h t ht => by
          rcases Nat.lt_or_ge t j with h1 | h1
          · exact HI.out t h1
          · have : t = j := by omega
            subst this; exact h)
        clear hlt
        cases h1 : l.getD j false <;> cases h2 : k.getD j false <;> rw [h1] at hc1 HD HS <;> rw [h2] at hc2 HD HS <;> clear h1 h2
        · have HS2 := Lib.hid (HS.out rfl)
          go_wp2_with fail
          go_quiet (fail)
          go_wp2_with fail
          go_roundw
          case rel => exact ⟨j + 1, _, by rw [HW1.out], HJ.out, by first | rfl | rw [World.drewN_drewN], HS2⟩
          case measure => rw [HW1.out]; exact meas9 HJ.out
        · have HR := Lib.hid (HD.out (by decide))
          go_wp2_with fail
          go_quiet (fail)
          go_wp2_with fail
          go_ret
          exact ⟨by rw [HR.out]; rfl, _, by first | rfl | rw [World.drewN_drewN]⟩
        · have HR := Lib.hid (HD.out (by decide))
          go_wp2_with fail
          go_quiet (fail)
          go_wp2_with fail
          go_ret
          exact ⟨by rw [HR.out]; rfl, _, by first | rfl | rw [World.drewN_drewN]⟩
        · have HS2 := Lib.hid (HS.out rfl)
          go_wp2_with fail
          go_quiet (fail)
          go_wp2_with fail
          go_roundw
          case rel => exact ⟨j + 1, _, by rw [HW1.out], HJ.out, by first | rfl | rw [World.drewN_drewN], HS2⟩
          case measure => rw [HW1.out]; exact meas9 HJ.out
      · have hdd : decide ((j : Int) < (l.length : Int)) = false := decide_eq_false (by omega)
        have hd2 : decide (j < l.length) = false := decide_eq_false hlt
        have HR : Hid (decide (l = k) = true) := Lib.hid (decide_eq_true (HX.out HE.out (fun i hi => HI.out i (by omega))))
        clear hlt
        go_wp2_with fail
        go_ret
        exact ⟨by rw [HR.out]; rfl, _, rfl⟩
  · have hd0 : (((l.length : Nat) : Int) != ((k.length : Nat) : Int)) = true := by rw [bne_iff_ne]; omega
    have HR : Hid (decide (l = k) = false) := Lib.hid (decide_eq_false (fun e => hlen (by rw [e])))
    clear hlen
    go_wp2_with fail
    go_ret
    exact ⟨by rw [HR.out]; rfl, 0, by rw [World.drewN_zero]⟩
end Nf
end Go.Proofs.YtplkhgmjcljjhaaDoor
namespace Go.Proofs.YtplkhgmjcljjhaaDoor
open Go.RowKit Sets Nf
namespace Nf
set_option maxHeartbeats 6400000 in
set_option maxRecDepth 100000 in
theorem equalF_any (a b : Option Addr) (ca cb : Nat) (l k : List (List Int)) (w : World) (h : ListsIn w a l) (hk : ListsIn w b k) (hl : l.length ≤ 1000) (hs : ∀ s ∈ l, s.length ≤ 1000) :
    Calls Tryd.prog 31 #[.slice a l.length ca, .slice b k.length cb, .func (.func 32) #[] #[]] w fun e w' => e = .returned (.bool (decide (l = k))) ∧ ∃ n, w' = w.drewN n := by
  have HN := Lib.hid h
  have HK := Lib.hid hk
  have HL := Lib.hid hl
  have HS1 := Lib.hid hs
  have HX := Lib.hid (ext_getD ([] : List Int) (l := l) (k := k))
  clear h hk hl hs
  go_enter Tryd.func31, Tryd.ntmps31
  by_cases hlen : l.length = k.length
  · have hd0 : (((l.length : Nat) : Int) != ((k.length : Nat) : Int)) = false := by rw [hlen]; simp
    have HE := Lib.hid hlen
    clear hlen
    go_wp2_with fail
    go_loopw [7, 8, 9, 17] (fun _ _ _ i wr => ∃ j n : Nat, i = .int .i64 j ∧ j ≤ l.length ∧ wr = w.drewN n ∧ Hid (∀ t, t < j → l.getD t [] = k.getD t [])) (fun _ _ _ i _ => ((l.length : Int) - intOf i).toNat)
    case atStart => exact ⟨0, 0, rfl, Nat.zero_le _, by rw [World.drewN_zero], Lib.hid (fun t ht => by omega)⟩
    case round =>
      obtain ⟨j, n, rfl, hj, rfl, HI⟩ := hrel
      by_cases hlt : j < l.length
      · have hdd : decide ((j : Int) < (l.length : Int)) = true := decide_eq_true (by omega)
        have hd2 : decide (j < l.length) = true := decide_eq_true hlt
        have HJ := Lib.hid hlt
        obtain ⟨b1, o1, x1, k1, rfl, hc1, hn1⟩ := HN.out j hlt
        obtain ⟨b2, o2, x2, k2, rfl, hc2, hn2⟩ := HK.out j (by rw [← HE.out]; exact hlt)
        have hj1 : (j : Int) < (l.length : Int) := by omega
        have hj2 : (j : Int) < (k.length : Int) := by have := HE.out; omega
        have HW1 : Hid (wrap64 ((j : Int) + 1) = ((j + 1 : Nat) : Int)) := Lib.hid (nat_wrap (by have := HL.out; omega))
        have HD : Hid (l.getD j [] ≠ k.getD j [] → decide (l = k) = false) := Lib.hid (fun h => decide_eq_false (fun e => h (by rw [e])))
        have HS : Hid (l.getD j [] = k.getD j [] → ∀ t, t < j + 1 → l.getD t [] = k.getD t []) := Lib.hid (fun h t ht => by
          rcases Nat.lt_or_ge t j with h1 | h1
          · exact HI.out t h1
          · have : t = j := by omega
            subst this; exact h)
        have HEQ := Lib.hid (equalN_any x1 x2 k1 k2 (l.getD j []) (k.getD j []) (w.drewN n) (hn1.kept (below_drewN (Below.refl _ _) n)) (hn2.kept (below_drewN (Below.refl _ _) n)) (HS1.out _ (getD_mem hlt)))
        clear hlt hn1 hn2
        generalize l.getD j [] = y at *
        generalize k.getD j [] = z at *
        by_cases hyz : y = z
        · rw [decide_eq_true hyz] at HEQ
          have HS2 := Lib.hid (HS.out hyz)
          clear hyz
          go_wp2_with (go_at_call 32; refine HEQ.out.mono ?_; rintro e w3 ⟨rfl, q, rfl⟩)
          go_roundw
          case rel => exact ⟨j + 1, n + q, by rw [HW1.out], HJ.out, by first | rfl | rw [World.drewN_drewN], HS2⟩
          case measure => rw [HW1.out]; have := HJ.out; simp only [intOf]; omega
        · rw [decide_eq_false hyz] at HEQ
          have HR := Lib.hid (HD.out hyz)
          clear hyz
          go_wp2_with (go_at_call 32; refine HEQ.out.mono ?_; rintro e w3 ⟨rfl, q, rfl⟩)
          go_ret
          exact ⟨by rw [HR.out]; rfl, n + q, by first | rfl | rw [World.drewN_drewN]⟩
      · have hdd : decide ((j : Int) < (l.length : Int)) = false := decide_eq_false (by omega)
        have hd2 : decide (j < l.length) = false := decide_eq_false hlt
        have HR : Hid (decide (l = k) = true) := Lib.hid (decide_eq_true (HX.out HE.out (fun i hi => HI.out i (by omega))))
        clear hlt
        go_wp2_with fail
        go_ret
        exact ⟨by rw [HR.out]; rfl, _, rfl⟩
  · have hd0 : (((l.length : Nat) : Int) != ((k.length : Nat) : Int)) = true := by rw [bne_iff_ne]; omega
    have HR : Hid (decide (l = k) = false) := Lib.hid (decide_eq_false (fun e => hlen (by rw [e])))
    clear hlen
    go_wp2_with fail
    go_ret
    exact ⟨by rw [HR.out]; rfl, 0, by rw [World.drewN_zero]⟩
end Nf
end Go.Proofs.YtplkhgmjcljjhaaDoor
