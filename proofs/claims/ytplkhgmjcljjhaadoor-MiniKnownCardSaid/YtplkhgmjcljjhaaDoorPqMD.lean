/- Several texts in one. -/
import Derived.Test.YtplkhgmjcljjhaaDoorPqM8
import Derived.Test.YtplkhgmjcljjhaaDoorPq45
namespace Go.Proofs.YtplkhgmjcljjhaaDoor
open Go.RowKit Sets Nf Df Cls
namespace Mi
set_option maxHeartbeats 6400000 in
set_option maxRecDepth 100000 in
theorem rsame_any (a b : Option Addr) (ca cb : Nat) (l k : List Int) (w : World) (h : NumsIn w a l) (hk : NumsIn w b k) (hl : l.length ≤ 1000) :
    Calls Tryd.prog 26 #[.slice a l.length ca, .slice b k.length cb] w fun e w' => e = .returned (.bool (decide (l = k))) ∧ ∃ n, w' = w.drewN n := by
  have HN := Lib.hid h
  have HK := Lib.hid hk
  have HL := Lib.hid hl
  have HX := Lib.hid (ext_getD (0) (l := l) (k := k))
  clear h hk hl
  go_enter Tryd.func26, Tryd.ntmps26
  by_cases hlen : l.length = k.length
  · have hd0 : (((l.length : Nat) : Int) != ((k.length : Nat) : Int)) = false := by rw [hlen]; simp
    have HE := Lib.hid hlen
    clear hlen
    go_wp2_with fail
    go_loopw [5] (fun i wr => ∃ j n : Nat, i = .int .i64 j ∧ j ≤ l.length ∧ wr = w.drewN n ∧ Hid (∀ t, t < j → l.getD t 0 = k.getD t 0)) (fun i _ => ((l.length : Int) - intOf i).toNat)
    case atStart => exact ⟨0, 0, rfl, Nat.zero_le _, by rw [World.drewN_zero], Lib.hid (fun t ht => by omega)⟩
    case round =>
      obtain ⟨j, n, rfl, hj, rfl, HI⟩ := hrel
      by_cases hlt : j < l.length
      · have hdd : decide ((j : Int) < (l.length : Int)) = true := decide_eq_true (by omega)
        have hd2 : decide (j < l.length) = true := decide_eq_true hlt
        obtain ⟨b1, o1, rfl, hc1⟩ := HN.out j hlt
        obtain ⟨b2, o2, rfl, hc2⟩ := HK.out j (by rw [← HE.out]; exact hlt)
        have hj1 : (j : Int) < (l.length : Int) := by omega
        have hj2 : (j : Int) < (k.length : Int) := by have := HE.out; omega
        have HW1 : Hid (wrap64 ((j : Int) + 1) = ((j + 1 : Nat) : Int)) := Lib.hid (nat_wrap (by have := HL.out; omega))
        have HJ := Lib.hid hlt
        have HD : Hid (l.getD j 0 ≠ k.getD j 0 → decide (l = k) = false) := Lib.hid (fun h => decide_eq_false (fun e => h (by rw [e])))
        have HS : Hid (l.getD j 0 = k.getD j 0 → ∀ t, t < j + 1 → l.getD t 0 = k.getD t 0) := Lib.hid (fun h t ht => by
          rcases Nat.lt_or_ge t j with h1 | h1
          · exact HI.out t h1
          · have : t = j := by omega
            subst this; exact h)
        clear hlt
        generalize l.getD j 0 = y at *
        generalize k.getD j 0 = z at *
        by_cases hyz : y = z
        · have hb : (y != z) = false := by rw [hyz]; simp
          have HS2 := Lib.hid (HS.out hyz)
          clear hyz
          go_wp2_with fail
          go_quiet (fail)
          go_wp2_with fail
          go_roundw
          case rel => exact ⟨j + 1, _, by rw [HW1.out], HJ.out, by first | rfl | rw [World.drewN_drewN], HS2⟩
          case measure => rw [HW1.out]; exact meas9 HJ.out
        · have hb : (y != z) = true := by rw [bne_iff_ne]; exact hyz
          have HR := Lib.hid (HD.out hyz)
          clear hyz
          go_wp2_with fail
          go_quiet (fail)
          go_wp2_with fail
          go_ret
          exact ⟨by rw [HR.out]; rfl, _, by first | rfl | rw [World.drewN_drewN]⟩
      · have hdd : decide ((j : Int) < (l.length : Int)) = false := decide_eq_false (by omega)
        have hd2 : decide (j < l.length) = false := decide_eq_false hlt
        have HR : Hid (decide (l = k) = true) := Lib.hid (decide_eq_true (HX.out HE.out (fun i hi => HI.out i (by omega))))
        clear hlt
        go_wp2_with fail
        go_ret
        exact ⟨by rw [HR.out]; rfl, _, rfl⟩
  · have hd0 : (((l.length : Nat) : Int) != ((k.length : Nat) : Int)) = true := by rw [bne_iff_ne]; omega
    have HR : Hid (decide (l = k) = false) := Lib.hid (decide_eq_false (fun e => hlen (by rw [e])))
    clear hlen
    go_wp2_with fail
    go_ret
    exact ⟨by rw [HR.out]; rfl, 0, by rw [World.drewN_zero]⟩
/-- The document's automaton, as cells. -/
def rvC (x : Dx) (R : List (List Int)) (F : List Bool) : Array Value := #[.slice none 0 0, .slice x.a R.length x.ac, .slice x.b F.length x.bc]
theorem Kp.cell {s : Nat} {w W : World} {l : List (Nat × Obj)} {ds : List (Dx × Dm)} (h : Kp s w l ds W) {B : Nat} {cs : Array Value} {t : TypeId} (hm : (B, Obj.cells cs t (0, 0)) ∈ l) (q : Nat) : W.cell? ⟨B, q, none⟩ = cs[q]? := cell_of_row W B q _ _ _ (h.rows _ hm)
set_option maxHeartbeats 12800000 in
set_option maxRecDepth 100000 in
theorem rSame_any (x y : Dx) (R S : List (List Int)) (F G : List Bool) (w : World) (hR : ListsIn w x.a R) (hS : ListsIn w y.a S) (hF : BoolsIn w x.b F) (hG : BoolsIn w y.b G) (hr : R.length ≤ 1000) (hrr : ∀ l ∈ R, l.length ≤ 1000) (hf : F.length ≤ 1000) :
    Calls Tryd.prog 10 #[.agg (rvC x R F), .agg (rvC y S G)] w fun e w' => e = .returned (.bool (decide (R = S) && decide (F = G))) ∧ Below w.heap.size w w' := by
  have HR := Lib.hid hR
  have HS := Lib.hid hS
  have HF := Lib.hid hF
  have HG := Lib.hid hG
  have HLR := Lib.hid hr
  have HLL := Lib.hid hrr
  have HLF := Lib.hid hf
  have HX := Lib.hid (ext_getD ([] : List Int) (l := R) (k := S))
  have HY := Lib.hid (ext_getD (false) (l := F) (k := G))
  clear hR hS hF hG hr hrr hf
  go_enter Tryd.func10, Tryd.ntmps10
  go_upto_region 1 with fail
  obtain ⟨s, hs⟩ : ∃ s, Hid (w.heap.size = s) := ⟨_, Lib.hid rfl⟩
  have HK1 : Hid (Kp s w [(s + 1, .cells (rvC y S G) 34 (0, 0)), (s, .cells (rvC x R F) 34 (0, 0))] [] ((w.alloc (.cells (rvC x R F) 34)).alloc (.cells (rvC y S G) 34))) := Lib.hid (by
    have h0 : Kp s w [] [] w := ⟨(fun p hp => by cases hp), (fun p hp => by cases hp), Below.refl _ _, Nat.le_of_eq hs.out.symm⟩
    have h1 := (h0.push (.cells (rvC x R F) 34)).push (.cells (rvC y S G) 34)
    rw [World.size_alloc, hs.out] at h1
    exact h1)
  rw [hs.out]
  generalize (w.alloc (.cells (rvC x R F) 34)).alloc (.cells (rvC y S G) 34) = w1 at *
  have HIN : Hid (∀ W, Below s w W → ListsIn W x.a R ∧ ListsIn W y.a S ∧ BoolsIn W x.b F ∧ BoolsIn W y.b G) := Lib.hid (fun W hb => by
    have hb' : Below w.heap.size w W := hs.out ▸ hb
    exact ⟨HR.out.kept hb', HS.out.kept hb', HF.out.kept hb', HG.out.kept hb'⟩)
  have HEND : Hid (∀ W, Below s w W → Below w.heap.size w W) := Lib.hid (fun W hb => hs.out ▸ hb)
  clear HR HS HF HG
  have c1 : w1.cell? ⟨s, 1, none⟩ = some (.slice x.a R.length x.ac) := Kp.cell HK1.out (.tail _ (.head _)) 1
  have c2 : w1.cell? ⟨s, 2, none⟩ = some (.slice x.b F.length x.bc) := Kp.cell HK1.out (.tail _ (.head _)) 2
  have e1 : w1.cell? ⟨s + 1, 1, none⟩ = some (.slice y.a S.length y.ac) := Kp.cell HK1.out (.head _) 1
  have e2 : w1.cell? ⟨s + 1, 2, none⟩ = some (.slice y.b G.length y.bc) := Kp.cell HK1.out (.head _) 2
  by_cases hlr : R.length = S.length
  · have hd0 : (((R.length : Nat) : Int) != ((S.length : Nat) : Int)) = false := by rw [hlr]; simp
    have HER := Lib.hid hlr
    clear hlr
    by_cases hlf : F.length = G.length
    · have hd1 : (((F.length : Nat) : Int) != ((G.length : Nat) : Int)) = false := by rw [hlf]; simp
      have HEF := Lib.hid hlf
      clear hlf
      go_upto_region 4 with fail
      clear c1 c2 e1 e2 hd0 hd1
      have HK1B : Hid (Below w1.heap.size w1 w1) := Lib.hid (Below.refl _ _)
      go_loopw [5] (fun i wr => ∃ j : Nat, i = .int .i64 j ∧ j ≤ R.length ∧ Hid (Below w1.heap.size w1 wr) ∧ Hid (∀ t, t < j → R.getD t [] = S.getD t [])) (fun i _ => ((R.length : Int) - intOf i).toNat)
      case atStart => exact ⟨0, rfl, Nat.zero_le _, HK1B, Lib.hid (fun t ht => by omega)⟩
      case round =>
        obtain ⟨j, rfl, hj, HB, HI⟩ := hrel
        clear HK1B
        have HK2 := Lib.hid (HK1.out.stay HB.out)
        have c1 : wr.cell? ⟨s, 1, none⟩ = some (.slice x.a R.length x.ac) := Kp.cell HK2.out (.tail _ (.head _)) 1
        have e1 : wr.cell? ⟨s + 1, 1, none⟩ = some (.slice y.a S.length y.ac) := Kp.cell HK2.out (.head _) 1
        by_cases hlt : j < R.length
        · have hdd : decide ((j : Int) < (R.length : Int)) = true := decide_eq_true (by omega)
          have hd2 : decide (j < R.length) = true := decide_eq_true hlt
          obtain ⟨b1, o1, x1, k1, ha1, hc1, hn1⟩ := (HIN.out wr HK2.out.bel).1 j hlt
          obtain ⟨b2, o2, x2, k2, ha2, hc2, hn2⟩ := (HIN.out wr HK2.out.bel).2.1 j (by rw [← HER.out]; exact hlt)
          rw [ha1] at c1
          rw [ha2] at e1
          have hj1 : (j : Int) < (R.length : Int) := by omega
          have hj2 : (j : Int) < (S.length : Int) := by have := HER.out; omega
          have HW1 : Hid (wrap64 ((j : Int) + 1) = ((j + 1 : Nat) : Int)) := Lib.hid (nat_wrap (by have := HLR.out; omega))
          have HJ := Lib.hid hlt
          have HD : Hid (R.getD j [] ≠ S.getD j [] → decide (R = S) = false) := Lib.hid (fun h => decide_eq_false (fun e => h (by rw [e])))
          have HST : Hid (R.getD j [] = S.getD j [] → ∀ t, t < j + 1 → R.getD t [] = S.getD t []) := Lib.hid (fun h t ht => by
            rcases Nat.lt_or_ge t j with h1 | h1
            · exact HI.out t h1
            · have : t = j := by omega
              subst this; exact h)
          have hbd := (Below.refl wr.heap.size wr).drew
          have HEQ := Lib.hid (rsame_any x1 x2 k1 k2 (R.getD j []) (S.getD j []) wr.drew (hn1.kept hbd) (hn2.kept hbd) (HLL.out _ (getD_mem hlt)))
          clear hlt hn1 hn2 ha1 ha2 hbd HI
          generalize R.getD j [] = yl at *
          generalize S.getD j [] = zl at *
          have HQ := Lib.hid (And.intro (World.block_lt_of_cell? _ _ c1) (And.intro (World.block_lt_of_cell? _ _ e1) (And.intro (World.block_lt_of_cell? _ _ hc1) (World.block_lt_of_cell? _ _ hc2))))
          go_upto_region 6 with fail
          refine region_mix [(false, 0), (false, 1), (false, 2), (false, 3), (false, 4), (false, 5), (false, 6), (false, 7), (false, 8), (false, 9)] (fun w' => Below wr.heap.size wr w') (by kernel_rfl) (by kernel_rfl) ((Below.refl _ _).drew) ?_
          simp only [planOps, List.map_cons, List.map_nil, List.getD_cons_zero, List.getD_cons_succ, List.length_cons, List.length_nil, List.drop_succ_cons, List.drop_zero]
          refine mix_seg (seg := [_, _, _, _, _, _, _, _, _, _]) (rest := []) rfl ((Below.refl _ _).drew) ?_
          intro ι hι F2 hF
          have f1 := fun n => ((hF n).cell (p := ⟨s, 1, none⟩) HQ.out.1).trans c1
          have f2 := fun n => ((hF n).cell (p := ⟨s + 1, 1, none⟩) HQ.out.2.1).trans e1
          have f3 := fun n => ((hF n).cell (p := ⟨b1, o1 + j, none⟩) HQ.out.2.2.1).trans hc1
          have f4 := fun n => ((hF n).cell (p := ⟨b2, o2 + j, none⟩) HQ.out.2.2.2).trans hc2
          iterate 10 (go_big_quiet_step (fail))
          refine wpQuiet_nil ?_
          clear f1 f2 f3 f4 hF hι F2
          show wpList _ _ _ _ _ _
          by_cases hyz : yl = zl
          · rw [decide_eq_true hyz] at HEQ
            have HS2 := Lib.hid (HST.out hyz)
            clear hyz
            go_wp2_with (go_at_call 26; refine HEQ.out.mono ?_; rintro e w3 ⟨rfl, q, rfl⟩)
            have HBA : Hid (∀ k, Below w1.heap.size w1 (wr.drewN k)) := Lib.hid (fun k => HB.out.trans ((below_drewN (Below.refl wr.heap.size wr) k).mono HB.out.size))
            refine NoPanic.normal ?_
            go_wp2_with fail
            go_roundw
            case rel => exact ⟨j + 1, by rw [HW1.out], HJ.out, Lib.hid (HBA.out _), HS2⟩
            case measure => rw [HW1.out]; exact meas9 HJ.out
          · rw [decide_eq_false hyz] at HEQ
            have HRE := Lib.hid (HD.out hyz)
            clear hyz
            go_wp2_with (go_at_call 26; refine HEQ.out.mono ?_; rintro e w3 ⟨rfl, q, rfl⟩)
            have HBA : Hid (∀ k, Below w1.heap.size w1 (wr.drewN k)) := Lib.hid (fun k => HB.out.trans ((below_drewN (Below.refl wr.heap.size wr) k).mono HB.out.size))
            refine NoPanic.normal ?_
            go_wp2_with fail
            go_ret
            exact ⟨by rw [HRE.out]; rfl, HEND.out _ (HK1.out.stay (HBA.out _)).bel⟩
        · have hdd : decide ((j : Int) < (R.length : Int)) = false := decide_eq_false (by omega)
          have hd2 : decide (j < R.length) = false := decide_eq_false hlt
          have HRE : Hid (decide (R = S) = true) := Lib.hid (decide_eq_true (HX.out HER.out (fun i hi => HI.out i (by omega))))
          clear hlt
          go_upto_region 9 with fail
          clear hdd hd2 c1 e1
          go_loopw [6] (fun i wr2 => ∃ t n : Nat, i = .int .i64 t ∧ t ≤ F.length ∧ wr2 = wr.drewN n ∧ Hid (∀ q, q < t → F.getD q false = G.getD q false)) (fun i _ => ((F.length : Int) - intOf i).toNat)
          case atStart => exact ⟨0, 0, rfl, Nat.zero_le _, by rw [World.drewN_zero], Lib.hid (fun t ht => by omega)⟩
          case round =>
            obtain ⟨t, n, rfl, ht, rfl, HI2⟩ := hrel
            have HK3 : Hid (Kp s w [(s + 1, .cells (rvC y S G) 34 (0, 0)), (s, .cells (rvC x R F) 34 (0, 0))] [] (wr.drewN n)) := Lib.hid (HK2.out.stay (below_drewN (Below.refl _ _) n))
            have c2 : wr.cell? ⟨s, 2, none⟩ = some (.slice x.b F.length x.bc) := Kp.cell HK2.out (.tail _ (.head _)) 2
            have e2 : wr.cell? ⟨s + 1, 2, none⟩ = some (.slice y.b G.length y.bc) := Kp.cell HK2.out (.head _) 2
            by_cases hlt : t < F.length
            · have hdd : decide ((t : Int) < (F.length : Int)) = true := decide_eq_true (by omega)
              have hd2 : decide (t < F.length) = true := decide_eq_true hlt
              obtain ⟨b1, o1, ha1, hc1⟩ := (HIN.out wr HK2.out.bel).2.2.1 t hlt
              obtain ⟨b2, o2, ha2, hc2⟩ := (HIN.out wr HK2.out.bel).2.2.2 t (by rw [← HEF.out]; exact hlt)
              rw [ha1] at c2
              rw [ha2] at e2
              have hj1 : (t : Int) < (F.length : Int) := by omega
              have hj2 : (t : Int) < (G.length : Int) := by have := HEF.out; omega
              have HW1 : Hid (wrap64 ((t : Int) + 1) = ((t + 1 : Nat) : Int)) := Lib.hid (nat_wrap (by have := HLF.out; omega))
              have HJ := Lib.hid hlt
              have HD : Hid (F.getD t false ≠ G.getD t false → decide (F = G) = false) := Lib.hid (fun h => decide_eq_false (fun e => h (by rw [e])))
              have HST : Hid (F.getD t false = G.getD t false → ∀ q, q < t + 1 → F.getD q false = G.getD q false) := Lib.hid (fun h q hq => by
                rcases Nat.lt_or_ge q t with h1 | h1
                · exact HI2.out q h1
                · have : q = t := by omega
                  subst this; exact h)
              clear hlt ha1 ha2
              generalize F.getD t false = yb at *
              generalize G.getD t false = zb at *
              by_cases hyz : yb = zb
              · have hb : (yb == zb) = true := by rw [hyz]; simp
                have HS2 := Lib.hid (HST.out hyz)
                clear hyz
                go_wp2_with fail
                go_quiet (fail)
                go_wp2_with fail
                go_roundw
                case rel => exact ⟨t + 1, _, by rw [HW1.out], HJ.out, by first | rfl | rw [World.drewN_drewN], HS2⟩
                case measure => rw [HW1.out]; exact meas9 HJ.out
              · have hb : (yb == zb) = false := by rw [beq_eq_false_iff_ne]; exact hyz
                have HR2 := Lib.hid (HD.out hyz)
                clear hyz
                go_wp2_with fail
                go_quiet (fail)
                go_wp2_with fail
                go_ret
                refine ⟨by rw [HR2.out, Bool.and_false]; rfl, ?_⟩
                try rw [World.drewN_drewN]
                exact HEND.out _ (HK2.out.stay (below_drewN (Below.refl _ _) _)).bel
            · have hdd : decide ((t : Int) < (F.length : Int)) = false := decide_eq_false (by omega)
              have hd2 : decide (t < F.length) = false := decide_eq_false hlt
              have HR2 : Hid (decide (F = G) = true) := Lib.hid (decide_eq_true (HY.out HEF.out (fun i hi => HI2.out i (by omega))))
              clear hlt
              go_wp2_with fail
              go_ret
              exact ⟨by rw [HRE.out, HR2.out]; rfl, HEND.out _ HK3.out.bel⟩
    · have hd1 : (((F.length : Nat) : Int) != ((G.length : Nat) : Int)) = true := by rw [bne_iff_ne]; omega
      have HRE : Hid (decide (F = G) = false) := Lib.hid (decide_eq_false (fun e => hlf (by rw [e])))
      clear hlf
      go_wp2_with fail
      go_ret
      exact ⟨by rw [HRE.out, Bool.and_false]; rfl, HEND.out _ HK1.out.bel⟩
  · have hd0 : (((R.length : Nat) : Int) != ((S.length : Nat) : Int)) = true := by rw [bne_iff_ne]; omega
    have HRE : Hid (decide (R = S) = false) := Lib.hid (decide_eq_false (fun e => hlr (by rw [e])))
    clear hlr
    go_wp2_with fail
    go_ret
    exact ⟨by rw [HRE.out]; rfl, HEND.out _ HK1.out.bel⟩
end Mi
end Go.Proofs.YtplkhgmjcljjhaaDoor
namespace Go.Proofs.YtplkhgmjcljjhaaDoor
open Go.RowKit Sets Nf Df Cls
namespace Mi
def bigD (d : Dm) : Bool := (decide (24 < d.R.length) || decide (24 < d.F.length)) || d.R.any (fun l => decide (40 < l.length))
set_option maxHeartbeats 6400000 in
set_option maxRecDepth 100000 in
theorem great12_any (x : Dx) (d : Dm) (w : World) (h : ListsIn w x.a d.R) :
    Calls Tryd.prog 7 #[.agg (dvC x d)] w fun e w' => e = .returned (.bool (bigD d)) ∧ Below w.heap.size w w' := by
  have HM := Lib.hid h
  clear h
  go_enter Tryd.func7, Tryd.ntmps7
  go_upto_region 1 with fail
  have HX := Lib.hid (BoxD.new w x d)
  have HB := Lib.hid ((Below.refl w.heap.size w).alloc (Nat.le_refl _) (.cells (dvC x d) 28))
  have HM1 : Hid (ListsIn (w.alloc (.cells (dvC x d) 28)) x.a d.R) := Lib.hid (HM.out.kept HB.out)
  have c1 := HX.out.c257
  have c2 := HX.out.c258
  generalize w.alloc (.cells (dvC x d) 28) = w1 at *
  have HG : Hid (bigD d = ((decide (24 < d.R.length) || decide (24 < d.F.length)) || d.R.any (fun l => decide (40 < l.length)))) := Lib.hid rfl
  by_cases h1 : 24 < d.R.length
  · have d1 : decide ((24 : Int) < (d.R.length : Int)) = true := decide_eq_true (by omega)
    have HR : Hid (bigD d = true) := Lib.hid (by rw [HG.out, decide_eq_true h1]; rfl)
    clear h1
    go_wp2_with fail
    go_ret
    exact ⟨by rw [HR.out]; rfl, HB.out⟩
  · have d1 : decide ((24 : Int) < (d.R.length : Int)) = false := decide_eq_false (by omega)
    by_cases h2 : 24 < d.F.length
    · have d2 : decide ((24 : Int) < (d.F.length : Int)) = true := decide_eq_true (by omega)
      have HR : Hid (bigD d = true) := Lib.hid (by rw [HG.out, decide_eq_true h2]; simp)
      clear h1 h2
      go_wp2_with fail
      go_ret
      exact ⟨by rw [HR.out]; rfl, HB.out⟩
    · have d2 : decide ((24 : Int) < (d.F.length : Int)) = false := decide_eq_false (by omega)
      have HG2 : Hid (bigD d = d.R.any (fun l => decide (40 < l.length))) := Lib.hid (by rw [HG.out, decide_eq_false h1, decide_eq_false h2]; simp)
      have HL2 : Hid (d.R.length ≤ 24) := Lib.hid (by omega)
      clear h1 h2 HG
      go_wp2_with fail
      go_loopw [3] (fun i wr => ∃ j : Nat, i = .int .i64 j ∧ j ≤ d.R.length ∧ wr = w1 ∧ Hid ((d.R.take j).any (fun l => decide (40 < l.length)) = false)) (fun i _ => ((d.R.length : Int) - intOf i).toNat)
      case atStart => exact ⟨0, rfl, Nat.zero_le _, rfl, Lib.hid (by simp)⟩
      case round =>
        obtain ⟨j, rfl, hj, rfl, HA⟩ := hrel
        by_cases hlt : j < d.R.length
        · have hdd : decide ((j : Int) < (d.R.length : Int)) = true := decide_eq_true (by omega)
          have hd2 : decide (j < d.R.length) = true := decide_eq_true hlt
          obtain ⟨b, o, a, cap, hoa, hc, -⟩ := HM1.out j hlt
          rw [hoa] at c1
          have HS := Lib.hid (Df.any_snoc (fun l => decide (40 < l.length)) d.R [] j hlt)
          have HW1 : Hid (wrap64 ((j : Int) + 1) = ((j + 1 : Nat) : Int)) := Lib.hid (nat_wrap (by have := HL2.out; omega))
          have HT : Hid (40 < (d.R.getD j []).length → bigD d = true) := Lib.hid (fun h => by
            rw [HG2.out, List.any_eq_true]
            exact ⟨_, getD_mem hlt, decide_eq_true h⟩)
          have HJ := Lib.hid hlt
          have hjm : (j : Int) < (d.R.length : Int) := by omega
          clear hlt hoa
          generalize d.R.getD j [] = l at *
          by_cases h5 : 40 < l.length
          · have d5 : decide ((40 : Int) < (l.length : Int)) = true := decide_eq_true (by omega)
            have d5' : decide (40 < l.length) = true := decide_eq_true h5
            have HR := Lib.hid (HT.out h5)
            clear h5
            go_wp2_with fail
            go_ret
            exact ⟨by rw [HR.out]; rfl, HB.out⟩
          · have d5 : decide ((40 : Int) < (l.length : Int)) = false := decide_eq_false (by omega)
            have d5' : decide (40 < l.length) = false := decide_eq_false h5
            have HA2 : Hid ((d.R.take (j + 1)).any (fun l => decide (40 < l.length)) = false) := Lib.hid (by rw [HS.out, HA.out, d5']; rfl)
            clear h5
            go_wp2_with fail
            go_roundw
            case rel => exact ⟨j + 1, by rw [HW1.out], HJ.out, by first | rfl | trivial, HA2⟩
            case measure => rw [HW1.out]; exact meas9 HJ.out
        · have hdd : decide ((j : Int) < (d.R.length : Int)) = false := decide_eq_false (by omega)
          have hd2 : decide (j < d.R.length) = false := decide_eq_false hlt
          have HR : Hid (bigD d = false) := Lib.hid (by rw [HG2.out, ← HA.out, List.take_of_length_le (by omega)])
          clear hlt
          go_wp2_with fail
          go_ret
          exact ⟨by rw [HR.out]; rfl, HB.out⟩
theorem zeroR (w : World) : (zeroValue 34).run Tryd.prog w = .ok (.agg #[.slice none 0 0, .slice none 0 0, .slice none 0 0]) w := by kernel_rfl
theorem buildR (a b : Option Addr) (n m c d : Nat) (w : World) : (Instr.build 34 #[(1, .slice a n c), (2, .slice b m d)]).run Tryd.prog w = .ok (.agg #[.slice none 0 0, .slice a n c, .slice b m d]) w := by kernel_rfl
theorem oneR (x : Dx) (R : List (List Int)) (F : List Bool) : (rvC x R F).all (·.oneCell') = true := by
  rw [Array.all_eq_true_iff_forall_mem]
  intro v hv
  simp [rvC] at hv
  rcases hv with rfl | rfl | rfl <;> rfl
theorem sizeR (x : Dx) (R : List (List Int)) (F : List Bool) : (Tryd.prog.info? 34).map (·.size) = some (rvC x R F).size := by kernel_rfl
set_option maxHeartbeats 6400000 in
set_option maxRecDepth 100000 in
theorem given_any (x : Dx) (d : Dm) (w : World) :
    Calls Tryd.prog 11 #[.agg (dvC x d)] w fun e w' => e = .returned (.agg (rvC x d.R d.F)) ∧ Below w.heap.size w w' := by
  have hz := zeroR
  have hbu := buildR
  go_enter Tryd.func11, Tryd.ntmps11
  go_upto_region 1 with fail
  obtain ⟨s, hs⟩ : ∃ s, Hid (w.heap.size = s) := ⟨_, Lib.hid rfl⟩
  have HX := Lib.hid (BoxD.new w x d)
  have hal := (Below.refl _ (w.alloc (.cells (dvC x d) 28))).alloc (Nat.le_refl _) (.cells #[.slice none 0 0, .slice none 0 0, .slice none 0 0] 34)
  have HX1 := Lib.hid (HX.out.stay hal)
  have HR1 : Hid (((w.alloc (.cells (dvC x d) 28)).alloc (.cells #[.slice none 0 0, .slice none 0 0, .slice none 0 0] 34)).heap[w.heap.size + 1]? = some (.cells #[.slice none 0 0, .slice none 0 0, .slice none 0 0] 34 (0, 0))) := Lib.hid (DfR.new1 _ _ (by simp))
  have HB1 : Hid (Below w.heap.size w ((w.alloc (.cells (dvC x d) 28)).alloc (.cells #[.slice none 0 0, .slice none 0 0, .slice none 0 0] 34))) := Lib.hid (((Below.refl _ _).alloc (Nat.le_refl _) _).alloc (by simp) _)
  have c1 := HX1.out.c257
  have c2 := HX1.out.c258
  rw [hs.out] at c1 c2 HR1 HB1 ⊢
  clear HX HX1 hal
  generalize (w.alloc (.cells (dvC x d) 28)).alloc (.cells #[.slice none 0 0, .slice none 0 0, .slice none 0 0] 34) = w1 at *
  go_wp2_with (refine wpList_store_row rfl 34 (.tmp 2) (.tmp 7) rfl (s + 1) (rvC x d.R d.F) rfl rfl 34 _ HR1.out (sizeR x d.R d.F) rfl (oneR x d.R d.F) ?_)
  refine bodyPost_ret (v := .agg (rvC x d.R d.F)) (results_cell_row (p := 2) Tryd.results11 _ _ (s + 1) 34 _ (0, 0) _ rfl (setRow_heap w1 _ _ _ _ _ HR1.out) Tryd.underlying34 rfl (sizeR x d.R d.F)) rfl ⟨rfl, ?_⟩
  rw [hs.out]
  exact But.below HB1.out (But.setRow _ _ _) (by omega) (by have h1 := HB1.out.size; rw [hs.out] at h1; exact h1)
end Mi
end Go.Proofs.YtplkhgmjcljjhaaDoor
namespace Go.Proofs.YtplkhgmjcljjhaaDoor
open Go.RowKit Sets Nf Df Cls
namespace Mi
theorem forIn_some {σ : Type} {P : Program} {w : World} (f : Nat → σ → Sem (ForInStep σ)) : ∀ (l : List Nat) (b : σ), (∀ i ∈ l, ∀ b, ∃ s, (f i b).run P w = .ok s w) → ∃ c, (forIn l b f).run P w = .ok c w
  | [], b, _ => ⟨b, rfl⟩
  | x :: l, b, h => by
    obtain ⟨s, hs⟩ := h x (by simp) b
    rw [List.forIn_cons, Sem.run_bind, hs]
    cases s with
    | done c => exact ⟨c, rfl⟩
    | yield c => exact forIn_some f l c (fun i hi => h i (by simp [hi]))
theorem run_forIn {σ : Type} {P : Program} {w : World} (f : Nat → σ → Sem (ForInStep σ)) (l : List Nat) (b : σ) (k : σ → Sem Bool) (h : ∀ i ∈ l, ∀ b, ∃ s, (f i b).run P w = .ok s w) (hk : ∀ c, ∃ r, (k c).run P w = .ok r w) :
    ∃ r, (((forIn l b f).run P w).andThen fun a w' => (k a).run P w') = .ok r w := by
  obtain ⟨c, hc⟩ := forIn_some f l b h
  rw [hc]
  exact hk c
theorem eqAny (of of' : Nat → Nat) (d : Nat) (w : World) : ∃ r, (Op.equalIn (d + 2) 22 (.agg (ofL of).toArray) (.agg (ofL of').toArray)).run Tryd.prog w = .ok r w := by
  have u3 := Tryd.underlying5
  have a3 : (isAgg 5).run Tryd.prog w = .ok false w := by kernel_rfl
  have z3 : (sizeOf 5).run Tryd.prog w = .ok 1 w := by kernel_rfl
  rw [Op.equalIn]
  simp only [Sem.run_bind, run_underlying Tryd.underlying22, Result.andThen_ok, z3]
  simp only [Std.Legacy.Range.forIn_eq_forIn_range', Std.Legacy.Range.size, Nat.sub_zero, Nat.add_sub_cancel, Nat.div_one]
  refine run_forIn _ _ _ _ ?_ (fun c => ?_)
  · intro i hi b
    simp at hi
    have hp : ∀ of : Nat → Nat, (part 5 (ofL of).toArray (i * 1)).run Tryd.prog w = .ok (.int .u8 (of i)) w := fun of => by
      unfold part
      simp only [Sem.run_bind, a3, Result.andThen_ok, Nat.mul_one, List.getElem?_toArray, ofL_get of i hi]
      rfl
    simp only [Sem.run_bind, hp, Result.andThen_ok, run_equalIn_int w (d) 5 .u8 .u8 _ _ u3]
    split <;> exact ⟨_, rfl⟩
  · obtain ⟨c1, c2⟩ := c
    cases c1 with
    | none => exact ⟨_, rfl⟩
    | some b => exact ⟨_, rfl⟩
theorem partNe (of of' : Nat → Nat) (n n' : Int) (hn : n ≠ n') (w : World) : (Op.equalIn 10000 24 (.agg (partC of n)) (.agg (partC of' n'))).run Tryd.prog w = .ok false w := by
  rw [show (10000 : Nat) = 9999 + 1 from rfl, run_equalIn_struct w 9999 24 _ _ (by kernel_rfl) (by kernel_rfl)]
  have hf : (Tryd.prog.fieldsOf 24).toList.map (fun f => (f.name, f.type, f.offset)) = [("Of", 22, 0), ("N", 3, 256)] := by kernel_rfl
  generalize (Tryd.prog.fieldsOf 24).toList = fs at hf ⊢
  obtain ⟨f1, fs1, rfl⟩ : ∃ f1 fs1, fs = f1 :: fs1 := by
    cases fs with
    | nil => simp at hf
    | cons a l => exact ⟨a, l, rfl⟩
  obtain ⟨f2, fs2, rfl⟩ : ∃ f2 fs2, fs1 = f2 :: fs2 := by
    cases fs1 with
    | nil => simp at hf
    | cons a l => exact ⟨a, l, rfl⟩
  obtain rfl : fs2 = [] := by
    cases fs2 with
    | nil => rfl
    | cons a l => simp at hf
  have h := hf
  simp only [List.map_cons, List.map_nil, List.cons.injEq, Prod.mk.injEq, and_true] at h
  obtain ⟨⟨n1, t1, o1⟩, n2, t2, o2⟩ := h
  unfold Op.eqFields
  rw [n1, t1, o1, if_pos (by decide)]
  simp only [Sem.run_bind, partO, Result.andThen_ok]
  obtain ⟨r, hr⟩ := eqAny of of' 9997 w
  rw [show (9999 : Nat) = 9997 + 2 from rfl, hr]
  cases r with
  | false => rfl
  | true =>
    simp only [Result.andThen_ok, Bool.not_true, Bool.false_eq_true, if_false]
    unfold Op.eqFields
    rw [n2, t2, o2, if_pos (by decide)]
    simp only [Sem.run_bind, partN', Result.andThen_ok]
    rw [run_equalIn_int w 9998 3 .i64 .i64 _ _ Tryd.underlying3]
    have hne : (n == n') = false := by rw [beq_eq_false_iff_ne]; exact hn
    simp only [Result.andThen_ok, hne]
    rfl
set_option maxHeartbeats 12800000 in
set_option maxRecDepth 100000 in
theorem msame_apart (x y : Dx) (a b : Dm) (w : World) (hn : a.n ≠ b.n) :
    Calls Tryd.prog 13 #[.agg (dvC x a), .agg (dvC y b)] w fun e w' => e = .returned (.bool false) ∧ Below w.heap.size w w' := by
  have HPE := Lib.hid (partNe a.of b.of a.n b.n hn)
  clear hn
  have hz := zeroD
  go_enter Tryd.func13, Tryd.ntmps13
  go_upto_region 1 with fail
  obtain ⟨s, hs⟩ : ∃ s, Hid (w.heap.size = s) := ⟨_, Lib.hid rfl⟩
  have hal := (Below.refl _ (w.alloc (.cells (dvC x a) 28))).alloc (Nat.le_refl _) (.cells (dvC y b) 28)
  have HX1 : Hid (BoxD ((w.alloc (.cells (dvC x a) 28)).alloc (.cells (dvC y b) 28)) s x a) := Lib.hid (by rw [← hs.out]; exact (BoxD.new w x a).stay hal)
  have HY1 : Hid (BoxD ((w.alloc (.cells (dvC x a) 28)).alloc (.cells (dvC y b) 28)) (s + 1) y b) := Lib.hid ⟨by rw [← hs.out]; exact DfR.new1 _ _ (by simp)⟩
  have HB1 : Hid (Below s w ((w.alloc (.cells (dvC x a) 28)).alloc (.cells (dvC y b) 28))) := Lib.hid (by rw [← hs.out]; exact ((Below.refl _ _).alloc (Nat.le_refl _) _).alloc (by simp) _)
  rw [hs.out]
  clear hal
  generalize (w.alloc (.cells (dvC x a) 28)).alloc (.cells (dvC y b) 28) = w1 at *
  go_wp2_with (first
    | (refine BigFrame.wpList_want rfl (fun K' hK' => ?_); refine wp_load_mid 24 _ rfl s 0 rfl (partC a.of a.n).toList _ (partC_mid _ _ _ _ _ _ HX1.out.row) Tryd.underlying24 rfl (sizePL _ _) ?_; rw [Array.toArray_toList]; refine hK' _ _ ?_; clear hK' K')
    | (refine BigFrame.wpList_want rfl (fun K' hK' => ?_); refine wp_load_mid 24 _ rfl (s + 1) 0 rfl (partC b.of b.n).toList _ (partC_mid _ _ _ _ _ _ HY1.out.row) Tryd.underlying24 rfl (sizePL _ _) ?_; rw [Array.toArray_toList]; refine hK' _ _ ?_; clear hK' K')
    | (refine BigFrame.wpList_want rfl (fun K' hK' => ?_); refine wp_neq_rows 24 _ _ _ rfl (partC a.of a.n) (partC b.of b.n) rfl rfl (by kernel_rfl) false (fun w => HPE.out w) ?_; refine hK' _ _ ?_; clear hK' K'))
  go_ret
  exact ⟨rfl, by rw [hs.out]; exact HB1.out⟩
set_option maxHeartbeats 12800000 in
set_option maxRecDepth 100000 in
theorem msame_wrong (x y : Dx) (a b : Dm) (w : World) (hA : DAt w x a) (hB : DAt w y b) (hfa : DFine a) (hfb : DFine b) (hra : rightD a = false) (hrb : rightD b = false) (hof : a.of = b.of) (hn : a.n = b.n) :
    Calls Tryd.prog 13 #[.agg (dvC x a), .agg (dvC y b)] w fun e w' => e = .returned (.bool false) ∧ Below w.heap.size w w' := by
  have HB := Lib.hid hB
  have HA := Lib.hid hA
  have HFA := Lib.hid hfa
  have HFB := Lib.hid hfb
  have HRA := Lib.hid hra
  have HRB := Lib.hid hrb
  have HPQ : Hid (partC b.of b.n = partC a.of a.n) := Lib.hid (by rw [hof, hn])
  have HPE := Lib.hid (partEq a.of a.n)
  clear hA hB hfa hfb hra hrb hof hn
  have hz := zeroD
  go_enter Tryd.func13, Tryd.ntmps13
  go_upto_region 1 with fail
  obtain ⟨s, hs⟩ : ∃ s, Hid (w.heap.size = s) := ⟨_, Lib.hid rfl⟩
  have hal := (Below.refl _ (w.alloc (.cells (dvC x a) 28))).alloc (Nat.le_refl _) (.cells (dvC y b) 28)
  have HX1 : Hid (BoxD ((w.alloc (.cells (dvC x a) 28)).alloc (.cells (dvC y b) 28)) s x a) := Lib.hid (by rw [← hs.out]; exact (BoxD.new w x a).stay hal)
  have HY1 : Hid (BoxD ((w.alloc (.cells (dvC x a) 28)).alloc (.cells (dvC y b) 28)) (s + 1) y b) := Lib.hid ⟨by rw [← hs.out]; exact DfR.new1 _ _ (by simp)⟩
  have HB1 : Hid (Below s w ((w.alloc (.cells (dvC x a) 28)).alloc (.cells (dvC y b) 28))) := Lib.hid (by rw [← hs.out]; exact ((Below.refl _ _).alloc (Nat.le_refl _) _).alloc (by simp) _)
  rw [hs.out]
  clear hal
  generalize (w.alloc (.cells (dvC x a) 28)).alloc (.cells (dvC y b) 28) = w1 at *
  have HLA := Lib.hid (least_wrong x a w1 (HA.out.kept (hs.out ▸ HB1.out)) HFA.out HRA.out)
  go_upto_region 4 with (first
    | (refine BigFrame.wpList_want rfl (fun K' hK' => ?_); refine wp_load_mid 24 _ rfl s 0 rfl (partC a.of a.n).toList _ (partC_mid _ _ _ _ _ _ HX1.out.row) Tryd.underlying24 rfl (sizePL _ _) ?_; rw [Array.toArray_toList]; refine hK' _ _ ?_; clear hK' K')
    | (refine BigFrame.wpList_want rfl (fun K' hK' => ?_); refine wp_load_mid 24 _ rfl (s + 1) 0 rfl (partC b.of b.n).toList _ (partC_mid _ _ _ _ _ _ HY1.out.row) Tryd.underlying24 rfl (sizePL _ _) ?_; rw [Array.toArray_toList, HPQ.out]; refine hK' _ _ ?_; clear hK' K')
    | (refine BigFrame.wpList_want rfl (fun K' hK' => ?_); refine wp_neq_rows 24 _ _ _ rfl (partC a.of a.n) (partC a.of a.n) rfl rfl (by kernel_rfl) true (fun w => HPE.out w) ?_; refine hK' _ _ ?_; clear hK' K')
    | (refine wpList_load_df rfl _ rfl s x a rfl HX1.out ?_)
    | (go_at_call 9; refine HLA.out.mono ?_; rintro e w2 ⟨rfl, hb2⟩; have HB2 := Lib.hid hb2; clear hb2)
    | (refine wpList_lay_dv rfl (.tmp 5) (.tmp 17) rfl ⟨none, 0, none, 0⟩ ⟨fun _ => 0, 0, [], []⟩ rfl rfl ?_))
  have HY2 := Lib.hid (HY1.out.stay HB2.out)
  have HBB : Hid (Below s w w2) := Lib.hid (HB1.out.trans (HB2.out.mono (Nat.le_of_lt HX1.out.lt)))
  have hal := (Below.refl w2.heap.size w2).alloc (Nat.le_refl _) (.cells (dvC ⟨none, 0, none, 0⟩ ⟨fun _ => 0, 0, [], []⟩) 28)
  have HY3 := Lib.hid (HY2.out.stay hal)
  have HB3 : Hid (Below s w (w2.alloc (.cells (dvC ⟨none, 0, none, 0⟩ ⟨fun _ => 0, 0, [], []⟩) 28))) := Lib.hid (HBB.out.trans (hal.mono (Nat.le_of_lt (Nat.lt_trans (Nat.lt_succ_self _) HY2.out.lt))))
  clear hal HBB HY2 HB2 HLA HX1 HY1 HB1 HPE HPQ
  generalize w2.heap.size = k1 at *
  generalize w2.alloc (.cells (dvC ⟨none, 0, none, 0⟩ ⟨fun _ => 0, 0, [], []⟩) 28) = w3 at *
  clear w1 w2
  have HLB := Lib.hid (least_wrong y b w3 (HB.out.kept (hs.out ▸ HB3.out)) HFB.out HRB.out)
  go_wp2_with (first
    | (refine wpList_load_df rfl _ rfl (s + 1) y b rfl HY3.out ?_)
    | (go_at_call 9; refine HLB.out.mono ?_; rintro e w4 ⟨rfl, hb2⟩; have HB4 := Lib.hid hb2; clear hb2)
    | (refine wpList_lay_dv rfl (.tmp 7) (.tmp 22) rfl ⟨none, 0, none, 0⟩ ⟨fun _ => 0, 0, [], []⟩ rfl rfl ?_))
  go_ret
  refine ⟨rfl, ?_⟩
  rw [hs.out]
  have hsz : s ≤ w3.heap.size := Nat.le_of_lt (Nat.lt_trans (Nat.lt_succ_self _) HY3.out.lt)
  exact (HB3.out.trans (HB4.out.mono hsz)).alloc (Nat.le_trans hsz HB4.out.size) _
/-- The automaton of nothing. -/
def d0 : Dm := ⟨fun _ => 0, 0, [], []⟩
def x0 : Dx := ⟨none, 0, none, 0⟩
theorem d0_at (w : World) : DAt w x0 d0 := ⟨fun _ hi => absurd hi (Nat.not_lt_zero _), fun _ hi => absurd hi (Nat.not_lt_zero _)⟩
theorem d0_fine : DFine d0 := ⟨by decide, by decide, fun l hl => (by cases hl), fun _ _ => (by decide : (0 : Nat) < 256)⟩
theorem d0_wrong : rightD d0 = false := by
  unfold rightD
  rw [show d0.R = [] from rfl]
  simp
theorem build12_any (x : Ma) (m : Mc) (of : Nat → Nat) (nc : Nat) (w : World) (h : MAt w x m) (hf : Fine m) (h8 : m.sp.length ≤ 8) (hp : prightB of nc = true) (hw : Whole m of) (hT : Tab w) :
    Calls Tryd.prog 17 #[.agg (mc x m), .agg (partC of nc), .pointer none] w fun e w' => ∃ z d, e = .returned (.tuple #[.agg (dvC z d), .int .i64 (if rightM m then 0 else 1)]) ∧ DAt w' z d ∧ DFine d ∧ Below w.heap.size w w' ∧ (rightM m = false → z = x0 ∧ d = d0) ∧ (rightM m = true → d.of = of ∧ d.n = (nc : Int) ∧ DRt d ∧ d.R.length ≤ 257) := by
  cases hr : rightM m with
  | false =>
    refine (build_bad x m of nc (.pointer none) w h hf hr).mono ?_
    rintro e w' ⟨rfl, hb⟩
    exact ⟨x0, d0, rfl, d0_at w', d0_fine, hb, fun _ => ⟨rfl, rfl⟩, fun h => by cases h⟩
  | true =>
    have hrt := (right_iff m).1 hr
    refine (build_ok x m of nc none 0 w h hf hrt h8 hp hw hT (fun q hq => by cases hq) (fun q hq => by cases hq) (fun q hq => by cases hq) (by decide) (fun q hq => by cases hq)).mono ?_
    rintro e w' ⟨hb, (⟨L, z, d, rfl, hof, hn, ho, hd, -, -⟩ | ⟨q, L, hq, -⟩)⟩
    · have hl := ok_few h8 L hd.okL.1 (fun s hs => (hd.okL.2 s hs).1)
      refine ⟨z, d, rfl, ho.at, hd.fine (by omega), hb.below, fun h => (by cases h), fun _ => ⟨hof, hn, (dright_iff d).1 hd.right, ?_⟩⟩
      rw [hd.all]; exact hl
    · cases hq
end Mi
end Go.Proofs.YtplkhgmjcljjhaaDoor
namespace Go.Proofs.YtplkhgmjcljjhaaDoor
open Go.RowKit Sets Nf Cls Df DfK DfR
namespace Mi
/-- want's rows lie as they are written. -/
abbrev xW (b : Nat) : Dx := ⟨some ⟨b + 1 + 1 + 1 + 1, 0, none⟩, 4, some ⟨b + 1 + 1 + 1 + 1 + 1, 0, none⟩, 4⟩
abbrev wantW (b : Nat) (w : World) : World := (((((((w.alloc (.cells #[.int .i64 1, .int .i64 2, .int .i64 1, .int .i64 1] 3)).alloc (.cells #[.int .i64 1, .int .i64 1, .int .i64 1, .int .i64 1] 3)).alloc (.cells #[.int .i64 1, .int .i64 1, .int .i64 3, .int .i64 1] 3)).alloc (.cells #[.int .i64 1, .int .i64 1, .int .i64 1, .int .i64 1] 3)).alloc (.cells #[.slice (some ⟨b, 0, none⟩) 4 4, .slice (some ⟨b + 1, 0, none⟩) 4 4, .slice (some ⟨b + 1 + 1, 0, none⟩) 4 4, .slice (some ⟨b + 1 + 1 + 1, 0, none⟩) 4 4] 31)).alloc (.cells #[.bool true, .bool false, .bool false, .bool true] 4)).alloc (.cells #[.slice none 0 0, .slice (some ⟨b + 1 + 1 + 1 + 1, 0, none⟩) 4 4, .slice (some ⟨b + 1 + 1 + 1 + 1 + 1, 0, none⟩) 4 4] 34))
theorem want_made (b : Nat) (w : World) (hb : w.heap.size = b) : DAt (wantW b w) (xW b) K4 ∧ (wantW b w).heap[b + 1 + 1 + 1 + 1 + 1 + 1]? = some (.cells (rvC (xW b) K4.R K4.F) 34 (0, 0)) ∧ Below w.heap.size w (wantW b w) := by
  subst hb
  have g0 : (wantW w.heap.size w).heap[w.heap.size]? = some (.cells #[.int .i64 1, .int .i64 2, .int .i64 1, .int .i64 1] 3 (0, 0)) := DfR.keep1 (DfR.keep1 (DfR.keep1 (DfR.keep1 (DfR.keep1 (DfR.keep1 (DfR.new1 _ _ (by simp)) _) _) _) _) _) _
  have g1 : (wantW w.heap.size w).heap[w.heap.size + 1]? = some (.cells #[.int .i64 1, .int .i64 1, .int .i64 1, .int .i64 1] 3 (0, 0)) := DfR.keep1 (DfR.keep1 (DfR.keep1 (DfR.keep1 (DfR.keep1 (DfR.new1 _ _ (by simp)) _) _) _) _) _
  have g2 : (wantW w.heap.size w).heap[w.heap.size + 1 + 1]? = some (.cells #[.int .i64 1, .int .i64 1, .int .i64 3, .int .i64 1] 3 (0, 0)) := DfR.keep1 (DfR.keep1 (DfR.keep1 (DfR.keep1 (DfR.new1 _ _ (by simp)) _) _) _) _
  have g3 : (wantW w.heap.size w).heap[w.heap.size + 1 + 1 + 1]? = some (.cells #[.int .i64 1, .int .i64 1, .int .i64 1, .int .i64 1] 3 (0, 0)) := DfR.keep1 (DfR.keep1 (DfR.keep1 (DfR.new1 _ _ (by simp)) _) _) _
  have g4 : (wantW w.heap.size w).heap[w.heap.size + 1 + 1 + 1 + 1]? = some (.cells #[.slice (some ⟨w.heap.size, 0, none⟩) 4 4, .slice (some ⟨w.heap.size + 1, 0, none⟩) 4 4, .slice (some ⟨w.heap.size + 1 + 1, 0, none⟩) 4 4, .slice (some ⟨w.heap.size + 1 + 1 + 1, 0, none⟩) 4 4] 31 (0, 0)) := DfR.keep1 (DfR.keep1 (DfR.new1 _ _ (by simp)) _) _
  have g5 : (wantW w.heap.size w).heap[w.heap.size + 1 + 1 + 1 + 1 + 1]? = some (.cells #[.bool true, .bool false, .bool false, .bool true] 4 (0, 0)) := DfR.keep1 (DfR.new1 _ _ (by simp)) _
  have key : ∀ (k : Nat) (a b c d : Int) (l : List Int), (wantW w.heap.size w).heap[k]? = some (.cells #[.int .i64 a, .int .i64 b, .int .i64 c, .int .i64 d] 3 (0, 0)) → l = [a, b, c, d] → NumsIn (wantW w.heap.size w) (some ⟨k, 0, none⟩) l := fun k a b c d l hk hl j hj => by
    subst hl
    refine ⟨k, 0, rfl, ?_⟩
    rw [cell_of_row _ k _ _ _ _ hk]
    have hj4 : j < 4 := hj
    have : j = 0 ∨ j = 1 ∨ j = 2 ∨ j = 3 := by omega
    rcases this with rfl | rfl | rfl | rfl <;> rfl
  refine ⟨⟨fun i hi => ?_, fun i hi => ?_⟩, DfR.new1 _ _ (by simp), ?_⟩
  · have hi4 : i < 4 := hi
    have : i = 0 ∨ i = 1 ∨ i = 2 ∨ i = 3 := by omega
    rcases this with rfl | rfl | rfl | rfl
    · exact ⟨w.heap.size + 1 + 1 + 1 + 1, 0, some ⟨w.heap.size, 0, none⟩, 4, rfl, (cell_of_row _ _ _ _ _ _ g4).trans rfl, key _ _ _ _ _ _ g0 rfl⟩
    · exact ⟨w.heap.size + 1 + 1 + 1 + 1, 0, some ⟨w.heap.size + 1, 0, none⟩, 4, rfl, (cell_of_row _ _ _ _ _ _ g4).trans rfl, key _ _ _ _ _ _ g1 rfl⟩
    · exact ⟨w.heap.size + 1 + 1 + 1 + 1, 0, some ⟨w.heap.size + 1 + 1, 0, none⟩, 4, rfl, (cell_of_row _ _ _ _ _ _ g4).trans rfl, key _ _ _ _ _ _ g2 rfl⟩
    · exact ⟨w.heap.size + 1 + 1 + 1 + 1, 0, some ⟨w.heap.size + 1 + 1 + 1, 0, none⟩, 4, rfl, (cell_of_row _ _ _ _ _ _ g4).trans rfl, key _ _ _ _ _ _ g3 rfl⟩
  · have hi4 : i < 4 := hi
    have : i = 0 ∨ i = 1 ∨ i = 2 ∨ i = 3 := by omega
    rcases this with rfl | rfl | rfl | rfl <;> exact ⟨w.heap.size + 1 + 1 + 1 + 1 + 1, 0, rfl, (cell_of_row _ _ _ _ _ _ g5).trans rfl⟩
  · exact (((((((Below.refl _ _).alloc (Nat.le_refl _) _).alloc (by simp) _).alloc (by simp; omega) _).alloc (by simp; omega) _).alloc (by simp; omega) _).alloc (by simp; omega) _).alloc (by simp; omega) _
def nilMa : Ma := ⟨none, 0, none, 0, none, 0, none, 0⟩
def nilMc : Mc := ⟨[], [], [], [], false⟩
theorem nil_at (w : World) : MAt w nilMa nilMc := ⟨fun _ hi => absurd hi (Nat.not_lt_zero _), fun _ hi => absurd hi (Nat.not_lt_zero _), fun _ hi => absurd hi (Nat.not_lt_zero _), fun _ hi => absurd hi (Nat.not_lt_zero _)⟩
theorem nil_fine : Fine nilMc := ⟨by simp [nilMc], by simp [nilMc], by simp [nilMc], by simp [nilMc], fun l h => (by cases h), fun k h => (by cases h), fun s h => (by cases h)⟩
theorem buildM (w : World) : (Instr.build 46 #[]).run Tryd.prog w = .ok (.agg (mc nilMa nilMc)) w := by kernel_rfl
theorem sets_nil (w : World) : SetsIn w (.slice none 0 0) [] := ⟨by simp [maxLen], none, 0, rfl, by simp, fun i hi => (by cases hi)⟩
theorem nil_n : nh (same []) 256 = 1 := by decide +kernel
theorem nil_right : rightM nilMc = true := by decide +kernel
theorem quiet_eqlR {C : World → Prop} {a : Act} {K : Act → Prop} {o : Oper} (ty t : TypeId) (x y : Operand) (ho : o.op = .binOp .eql ty x y t) (xs ys : Array Value) (hx : a.eval x = .agg xs) (hy : a.eval y = .agg ys) (hg : Tryd.prog.eqGuardType Tryd.prog.depth ty = false)
    (r : Bool) (hr : ∀ w, (Op.equalIn 10000 ty (.agg xs) (.agg ys)).run Tryd.prog w = .ok r w) (h : K (a.put o.dst (.bool r))) : o.quiet Tryd.prog a C K := by
  refine ⟨.bool r, fun w hw => ?_, h⟩
  unfold Oper.quietAt execOp
  simp only [ho, hx, hy, Sem.run_bind, run_eqGuard_agg w .eql ty x y _ _ hg, run_eql_struct, hr, Result.andThen_ok, Sem.run_pure]
  exact ⟨rfl, rfl⟩
theorem quiet_build_z {C : World → Prop} {a : Act} {K : Act → Prop} {o : Oper} (ho : o.op = .build 28 #[]) (h : K (a.put o.dst (.agg (dvC x0 d0)))) : o.quiet Tryd.prog a C K := by
  refine ⟨.agg (dvC x0 d0), fun w hw => ?_, h⟩
  unfold Oper.quietAt execOp
  have := buildZ w
  simp only [ho, List.map_toArray, List.map_nil, this, Sem.run_bind, Sem.run_pure, Result.andThen_ok]
  exact ⟨rfl, rfl⟩
set_option maxHeartbeats 25600000 in
set_option maxRecDepth 100000 in
theorem mknown_any (w : World) (hT : Tab w) :
    Calls Tryd.prog 4 #[] w fun e w' => e = .returned (.bool true) ∧ Below w.heap.size w w' := by
  have HG : Hid (0 < w.heap.size) := Lib.hid (World.block_lt_of_cell? _ _ (hT 0 (by decide)))
  have HT := Lib.hid hT
  clear hT
  have hz := zeroD
  have hzr := zeroR
  have hbu := buildR
  go_enter Tryd.func4, Tryd.ntmps4
  obtain ⟨s, hs⟩ : ∃ s, Hid (w.heap.size = s) := ⟨_, Lib.hid rfl⟩
  have HK0 : Hid (Kp s w [] [] w) := Lib.hid ⟨(fun p hp => by cases hp), (fun p hp => by cases hp), Below.refl _ _, Nat.le_of_eq hs.out.symm⟩
  have HTB : Hid (∀ W, Below s w W → Tab W) := Lib.hid (fun W hb => HT.out.below (hs.out ▸ hb) HG.out)
  have HEND : Hid (∀ W, Below s w W → Below w.heap.size w W) := Lib.hid (fun W hb => hs.out ▸ hb)
  go_upto_region 2 with (first
    | (go_at_call 15; refine (some12_any w HT.out).mono ?_; rintro e w1 ⟨zd, d, rfl, h1, h2, hb⟩; have HK1 := Lib.hid ((HK0.out.stay hb).addD h1); have HS5 := Lib.hid h2; clear h1 h2 hb)
    | (refine wpList_lay_dv rfl (.tmp 1) (.tmp 16) rfl zd d rfl rfl ?_))
  have HK2 := Lib.hid (HK1.out.push (.cells (dvC zd d) 28))
  clear HK0 HK1 HG HT
  obtain ⟨kd, hkd⟩ : ∃ kd, Hid (w1.heap.size = kd) := ⟨_, Lib.hid rfl⟩
  rw [hkd.out] at HK2 ⊢
  generalize w1.alloc (.cells (dvC zd d) 28) = w2 at *
  clear hkd w1
  have HSM : Hid (d.R.length ≤ 1000 ∧ (d.R.length : Int) * d.n ≤ 100000) := Lib.hid (by rw [HS5.out.five, HS5.out.n]; decide)
  have HLA := Lib.hid (least_any zd d w2 (HK2.out.das (zd, d) (.head _)) HS5.out.fine HS5.out.rt HSM.out.1 HSM.out.2)
  go_upto_region 3 with (first
    | (refine wpList_load_df rfl _ rfl kd zd d rfl ⟨HK2.out.rows _ (.head _)⟩ ?_)
    | (go_at_call 9; refine HLA.out.mono ?_; rintro e w4 ⟨zl, l, rfl, h1, h2, hb2⟩; have HL2 := Lib.hid h1; have HK4 := Lib.hid ((HK2.out.stay hb2).addD h2.at); clear h1 h2 hb2)
    | (refine wpList_lay_dv rfl (.tmp 3) (.tmp 21) rfl zl l rfl rfl ?_))
  have HK5 := Lib.hid (HK4.out.push (.cells (dvC zl l) 28))
  clear HK2 HK4 HLA
  obtain ⟨kl, hkl⟩ : ∃ kl, Hid (w4.heap.size = kl) := ⟨_, Lib.hid rfl⟩
  rw [hkl.out] at HK5 ⊢
  generalize w4.alloc (.cells (dvC zl l) 28) = w5 at *
  clear hkl w4 w2
  obtain ⟨b, hb⟩ : ∃ b, Hid (w5.heap.size = b) := ⟨_, Lib.hid rfl⟩
  go_upto_region 4 with fail
  rw [hb.out]
  obtain ⟨hw1, hw2, hw3⟩ := want_made b w5 hb.out
  have HK6 : Hid (Kp s w [(b + 1 + 1 + 1 + 1 + 1 + 1, .cells (rvC (xW b) K4.R K4.F) 34 (0, 0)), (kl, .cells (dvC zl l) 28 (0, 0)), (kd, .cells (dvC zd d) 28 (0, 0))] [(xW b, K4), (zl, l), (zd, d)] (wantW b w5)) := Lib.hid (by
    have h1 := (HK5.out.stay hw3).addD hw1
    refine ⟨fun p hp => ?_, h1.das, h1.bel, h1.size⟩
    rcases List.mem_cons.1 hp with rfl | hp
    · exact hw2
    · exact h1.rows p hp)
  clear hw1 hw2 hw3 HK5
  change Code.wp _ _ _ _ (wantW b w5)
  generalize wantW b w5 = w6 at *
  generalize xW b = xw at *
  clear hb w5
  obtain ⟨kw, hkw⟩ : ∃ kw, Hid (b + 1 + 1 + 1 + 1 + 1 + 1 = kw) := ⟨_, Lib.hid rfl⟩
  rw [hkw.out] at HK6 ⊢
  clear hkw
  generalize b + 1 + 1 + 1 + 1 + 1 = b5
  generalize b + 1 + 1 + 1 + 1 = b4
  generalize b + 1 + 1 + 1 = b3
  generalize b + 1 + 1 = b2
  generalize b + 1 = b1
  have hbm := buildM
  have HNO := Lib.hid (dnot_any zd d w6 (HK6.out.das (zd, d) (.tail _ (.tail _ (.head _)))) HS5.out.fine HS5.out.rt)
  go_upto_region 5 with (first
    | (refine wpList_load_df rfl _ rfl kd zd d rfl ⟨HK6.out.rows _ (.tail _ (.tail _ (.head _)))⟩ ?_)
    | (go_at_call 16; refine HNO.out.mono ?_; rintro e w7 ⟨zn, rfl, hon, hb7⟩; have HK7 := Lib.hid ((HK6.out.stay hb7).addD hon.at); clear hb7 hon)
    | (refine wpList_lay_dv rfl (.tmp 6) (.tmp 33) rfl zn (notD d) rfl rfl ?_))
  have HK8 := Lib.hid (HK7.out.push (.cells (dvC zn (notD d)) 28))
  clear HK6 HK7 HNO
  obtain ⟨kn, hkn⟩ : ∃ kn, Hid (w7.heap.size = kn) := ⟨_, Lib.hid rfl⟩
  rw [hkn.out] at HK8 ⊢
  generalize w7.alloc (.cells (dvC zn (notD d)) 28) = w8 at *
  clear hkn w6 w7
  have HNO := Lib.hid (dnot_any zn (notD d) w8 (HK8.out.das (zn, notD d) (.head _)) (not_fine HS5.out.fine) (not_right HS5.out.rt))
  go_upto_region 6 with (first
    | (refine wpList_load_df rfl _ rfl kn zn (notD d) rfl ⟨HK8.out.rows _ (.head _)⟩ ?_)
    | (go_at_call 16; refine HNO.out.mono ?_; rintro e w9 ⟨zm, rfl, hon, hb9⟩; have HK9 := Lib.hid ((HK8.out.stay hb9).addD hon.at); clear hb9 hon)
    | (refine wpList_lay_dv rfl (.tmp 8) (.tmp 38) rfl zm (notD (notD d)) rfl rfl ?_))
  have HKA := Lib.hid (HK9.out.push (.cells (dvC zm (notD (notD d))) 28))
  clear HK8 HK9 HNO
  obtain ⟨km, hkm⟩ : ∃ km, Hid (w9.heap.size = km) := ⟨_, Lib.hid rfl⟩
  rw [hkm.out] at HKA ⊢
  generalize w9.alloc (.cells (dvC zm (notD (notD d))) 28) = wA at *
  clear hkm w8 w9
  have HLW := Lib.hid (least_wrong x0 d0 wA (d0_at wA) d0_fine d0_wrong)
  go_upto_region 7 with (first
    | (refine wpList_build_z rfl rfl ?_)
    | (go_at_call 9; refine HLW.out.mono ?_; rintro e wB ⟨rfl, hbB⟩; have HKB := Lib.hid (HKA.out.stay hbB); clear hbB)
    | (refine wpList_lay_dv rfl (.tmp 10) (.tmp 43) rfl x0 d0 rfl rfl ?_))
  have HKC := Lib.hid (HKB.out.push (.cells (dvC x0 d0) 28))
  clear HKA HKB HLW
  obtain ⟨kz, hkz⟩ : ∃ kz, Hid (wB.heap.size = kz) := ⟨_, Lib.hid rfl⟩
  rw [hkz.out] at HKC ⊢
  generalize wB.alloc (.cells (dvC x0 d0) 28) = wC at *
  clear hkz wA wB
  have HRF := Lib.hid (Refine_any (.slice none 0 0) [] wC (sets_nil wC) (by decide))
  rw [nil_n] at HRF
  have HPR : Hid (prightB (cls (same [])) (1 : Nat) = true) := Lib.hid (by have := psame_right []; rwa [nil_n] at this)
  have HWN : Hid (Whole nilMc (cls (same []))) := Lib.hid (psame_whole (fun S hS => hS))
  obtain ⟨of0, hof0⟩ : ∃ of0, Hid (cls (same []) = of0) := ⟨_, Lib.hid rfl⟩
  rw [hof0.out] at HRF HPR HWN
  clear hof0
  have HBN : Hid (∀ W, Below s w W → Calls Tryd.prog 17 #[.agg (mc nilMa nilMc), .agg (partC of0 (1 : Nat)), .pointer none] W fun e w' => ∃ z d, e = .returned (.tuple #[.agg (dvC z d), .int .i64 0]) ∧ DAt w' z d ∧ Below W.heap.size W w' ∧ d.n = (1 : Nat)) := Lib.hid (fun W hb => by
    refine (build12_any nilMa nilMc of0 1 W (nil_at W) nil_fine (by decide) HPR.out HWN.out (HTB.out W hb)).mono ?_
    rintro e w' ⟨z, d, rfl, h1, -, h3, -, h5⟩
    exact ⟨z, d, by rw [nil_right, if_pos rfl], h1, h3, (h5 nil_right).2.1⟩)
  go_upto_region 8 with (first
    | (go_at_call 18; refine HRF.out.mono ?_; rintro e wD ⟨rfl, hbD⟩; have HKD := Lib.hid (HKC.out.stay hbD); clear hbD)
    | (go_at_call 17; refine (HBN.out wD HKD.out.bel).mono ?_; rintro e wE ⟨zo, o, rfl, hd1, hd3, hd4⟩; have HKE := Lib.hid ((HKD.out.stay hd3).addD hd1); have HON := Lib.hid hd4; clear hd1 hd3 hd4)
    | (refine wpList_lay_dv rfl (.tmp 12) (.tmp 49) rfl zo o rfl rfl ?_))
  have HKF := Lib.hid (HKE.out.push (.cells (dvC zo o) 28))
  clear HKC HKD HKE HRF HBN
  obtain ⟨ko, hko⟩ : ∃ ko, Hid (wE.heap.size = ko) := ⟨_, Lib.hid rfl⟩
  rw [hko.out] at HKF ⊢
  generalize wE.alloc (.cells (dvC zo o) 28) = wF at *
  clear hko wC wD wE
  have HB0 : Hid (Below wF.heap.size wF wF.drew) := Lib.hid ((Below.refl _ _).drew)
  have HPL : Hid (partC l.of l.n = partC d.of d.n) := Lib.hid (by rw [HL2.out.part.1, HL2.out.part.2])
  have HK4 := Lib.hid (lst_k4 HS5.out.rt HS5.out.n HL2.out HS5.out.xa)
  have hn4 : d.n = (4 : Nat) := HS5.out.n
  have hfl : 0 < d.F.length := by rw [HS5.out.rt.fl]; exact HS5.out.rt.pos
  have HC1 : Hid (∀ W, Kp s w [(ko, .cells (dvC zo o) 28 (0, 0)), (kz, .cells (dvC x0 d0) 28 (0, 0)), (km, .cells (dvC zm (notD (notD d))) 28 (0, 0)), (kn, .cells (dvC zn (notD d)) 28 (0, 0)), (kw, .cells (rvC xw K4.R K4.F) 34 (0, 0)), (kl, .cells (dvC zl l) 28 (0, 0)), (kd, .cells (dvC zd d) 28 (0, 0))] [(zo, o), (zm, notD (notD d)), (zn, notD d), (xw, K4), (zl, l), (zd, d)] W → Calls Tryd.prog 10 #[.agg (rvC zl l.R l.F), .agg (rvC xw K4.R K4.F)] W fun e w' => e = .returned (.bool true) ∧ Below W.heap.size W w') := Lib.hid (fun W hk => by
    have h1 := hk.das (zl, l) (.tail _ (.tail _ (.tail _ (.tail _ (.head _)))))
    have h2 := hk.das (xw, K4) (.tail _ (.tail _ (.tail _ (.head _))))
    refine (rSame_any zl xw l.R K4.R l.F K4.F W h1.nx h2.nx h1.fl h2.fl (by rw [HK4.out.1]; decide) (by rw [HK4.out.1]; decide) (by rw [HK4.out.2]; decide)).mono ?_
    rintro e w' ⟨rfl, hb⟩
    exact ⟨by rw [decide_eq_true HK4.out.1, decide_eq_true HK4.out.2]; rfl, hb⟩)
  have HC2 : Hid (∀ W, Kp s w [(ko, .cells (dvC zo o) 28 (0, 0)), (kz, .cells (dvC x0 d0) 28 (0, 0)), (km, .cells (dvC zm (notD (notD d))) 28 (0, 0)), (kn, .cells (dvC zn (notD d)) 28 (0, 0)), (kw, .cells (rvC xw K4.R K4.F) 34 (0, 0)), (kl, .cells (dvC zl l) 28 (0, 0)), (kd, .cells (dvC zd d) 28 (0, 0))] [(zo, o), (zm, notD (notD d)), (zn, notD d), (xw, K4), (zl, l), (zd, d)] W → Calls Tryd.prog 13 #[.agg (dvC zd d), .agg (dvC zn (notD d))] W fun e w' => e = .returned (.bool false) ∧ Below W.heap.size W w') := Lib.hid (fun W hk => by
    have h1 := hk.das (zd, d) (.tail _ (.tail _ (.tail _ (.tail _ (.tail _ (.head _))))))
    have h2 := hk.das (zn, notD d) (.tail _ (.tail _ (.head _)))
    refine (msame_any zd zn d (notD d) 4 W h1 h2 HS5.out.fine (not_fine HS5.out.fine) HS5.out.rt (not_right HS5.out.rt) rfl rfl hn4 HSM.out.1 HSM.out.2 HSM.out.1 HSM.out.2).mono ?_
    rintro e w' ⟨r, rfl, hr, hb⟩
    refine ⟨?_, hb⟩
    cases r with
    | false => rfl
    | true =>
      exfalso
      have h3 := hr.1 rfl [] (fun _ h => (by cases h))
      have h4 : (notD d).F.getD 0 false = !(d.F.getD 0 false) := by
        show (d.F.map (!·)).getD 0 false = _
        rw [List.getD_eq_getElem?_getD, List.getElem?_map, List.getD_eq_getElem?_getD, List.getElem?_eq_getElem hfl]; rfl
      rw [show ([] : List Nat).foldl (goR d.R) 0 = 0 from rfl, show ([] : List Nat).foldl (goR (notD d).R) 0 = 0 from rfl, h4] at h3
      cases h5 : d.F.getD 0 false <;> rw [h5] at h3 <;> cases h3)
  have HC3 : Hid (∀ W, Kp s w [(ko, .cells (dvC zo o) 28 (0, 0)), (kz, .cells (dvC x0 d0) 28 (0, 0)), (km, .cells (dvC zm (notD (notD d))) 28 (0, 0)), (kn, .cells (dvC zn (notD d)) 28 (0, 0)), (kw, .cells (rvC xw K4.R K4.F) 34 (0, 0)), (kl, .cells (dvC zl l) 28 (0, 0)), (kd, .cells (dvC zd d) 28 (0, 0))] [(zo, o), (zm, notD (notD d)), (zn, notD d), (xw, K4), (zl, l), (zd, d)] W → Calls Tryd.prog 13 #[.agg (dvC zd d), .agg (dvC zm (notD (notD d)))] W fun e w' => e = .returned (.bool true) ∧ Below W.heap.size W w') := Lib.hid (fun W hk => by
    have h1 := hk.das (zd, d) (.tail _ (.tail _ (.tail _ (.tail _ (.tail _ (.head _))))))
    have h2 := hk.das (zm, notD (notD d)) (.tail _ (.head _))
    refine (msame_any zd zm d (notD (notD d)) 4 W h1 h2 HS5.out.fine (not_fine (not_fine HS5.out.fine)) HS5.out.rt (not_right (not_right HS5.out.rt)) rfl rfl hn4 HSM.out.1 HSM.out.2 HSM.out.1 HSM.out.2).mono ?_
    rintro e w' ⟨r, rfl, hr, hb⟩
    have h3 : (notD (notD d)).F = d.F := by
      show (d.F.map (!·)).map (!·) = d.F
      rw [List.map_map, show ((fun x : Bool => !x) ∘ fun x => !x) = id from by funext x; cases x <;> rfl, List.map_id]
    have h4 : r = true := hr.2 (fun l hl => by rw [h3]; rfl)
    exact ⟨by rw [h4], hb⟩)
  have HC4 : Hid (∀ W, Kp s w [(ko, .cells (dvC zo o) 28 (0, 0)), (kz, .cells (dvC x0 d0) 28 (0, 0)), (km, .cells (dvC zm (notD (notD d))) 28 (0, 0)), (kn, .cells (dvC zn (notD d)) 28 (0, 0)), (kw, .cells (rvC xw K4.R K4.F) 34 (0, 0)), (kl, .cells (dvC zl l) 28 (0, 0)), (kd, .cells (dvC zd d) 28 (0, 0))] [(zo, o), (zm, notD (notD d)), (zn, notD d), (xw, K4), (zl, l), (zd, d)] W → Calls Tryd.prog 13 #[.agg (dvC zd d), .agg (dvC zo o)] W fun e w' => e = .returned (.bool false) ∧ Below W.heap.size W w') := Lib.hid (fun W _ => msame_apart zd zo d o W (by rw [hn4, HON.out]; decide))
  have HC5 : Hid (∀ W, Calls Tryd.prog 13 #[.agg (dvC x0 d0), .agg (dvC x0 d0)] W fun e w' => e = .returned (.bool false) ∧ Below W.heap.size W w') := Lib.hid (fun W => msame_wrong x0 x0 d0 d0 W (d0_at W) (d0_at W) d0_fine d0_fine d0_wrong d0_wrong rfl rfl)
  have HC6 : Hid (∀ W, Kp s w [(ko, .cells (dvC zo o) 28 (0, 0)), (kz, .cells (dvC x0 d0) 28 (0, 0)), (km, .cells (dvC zm (notD (notD d))) 28 (0, 0)), (kn, .cells (dvC zn (notD d)) 28 (0, 0)), (kw, .cells (rvC xw K4.R K4.F) 34 (0, 0)), (kl, .cells (dvC zl l) 28 (0, 0)), (kd, .cells (dvC zd d) 28 (0, 0))] [(zo, o), (zm, notD (notD d)), (zn, notD d), (xw, K4), (zl, l), (zd, d)] W → Calls Tryd.prog 8 #[] W fun e w' => e = .returned (.bool true) ∧ Below W.heap.size W w') := Lib.hid (fun W hk => awake12_any W (HTB.out W hk.bel))
  clear hn4 hfl HPR HWN HL2 HSM HK4 HS5 HTB hz hzr hbu hbm HON
  refine region_mix [(false, 0), (false, 1), (false, 2), (false, 3), (false, 4), (false, 5), (false, 6), (false, 7), (false, 9), (true, 8), (true, 10), (false, 11), (false, 12), (false, 13), (false, 14), (false, 15), (false, 16), (false, 17), (false, 18), (false, 19), (false, 20), (false, 21), (false, 22), (false, 23), (false, 24), (false, 25), (false, 26), (false, 27), (false, 28), (false, 29), (true, 30), (false, 31), (false, 32), (false, 33), (false, 34), (false, 35), (true, 36), (false, 37), (false, 38), (false, 39), (false, 40), (false, 41), (false, 42), (false, 43), (false, 44), (false, 45), (false, 46), (false, 47), (false, 48), (true, 49), (false, 50), (false, 51), (false, 52), (false, 53), (false, 54), (true, 55), (false, 56), (false, 57), (false, 58), (true, 59), (false, 60)] (fun w' => Below wF.heap.size wF w') (by kernel_rfl) (by kernel_rfl) HB0.out ?_
  simp only [planOps, List.map_cons, List.map_nil, List.getD_cons_zero, List.getD_cons_succ, List.length_cons, List.length_nil, List.drop_succ_cons, List.drop_zero]
  refine mix_seg (seg := [_, _, _, _, _, _, _, _, _]) rfl HB0.out ?_
  intro ι hι F hF
  have kF := fun n => HKF.out.stay (hF n)
  go_big_quiet_step (fail)
  go_big_quiet_step (fail)
  go_big_quiet_step (fail)
  go_big_quiet_step (fail)
  go_big_quiet_step (fail)
  go_big_quiet_step (fail)
  go_big_quiet_step (fail)
  refine BigFrame.wpQuiet_want rfl (fun K hK => ?_); refine quiet_load_row 28 _ rfl kl rfl 28 (dvC zl l) (0, 0) _ (fun w' hw' => by obtain ⟨n, rfl⟩ := hw'; exact (kF n).rows _ (.tail _ (.tail _ (.tail _ (.tail _ (.tail _ (.head _))))))) Tryd.underlying28 rfl (sizeDf _ _ _ _) ?_; refine hK _ ?_; clear hK K; simp only [Act.put, List.setIfInBounds_toArray, List.set_cons_zero, List.set_cons_succ]
  refine BigFrame.wpQuiet_want rfl (fun K hK => ?_); refine quiet_load_row 34 _ rfl kw rfl 34 (rvC xw K4.R K4.F) (0, 0) _ (fun w' hw' => by obtain ⟨n, rfl⟩ := hw'; exact (kF n).rows _ (.tail _ (.tail _ (.tail _ (.tail _ (.head _)))))) Tryd.underlying34 rfl (sizeR xw K4.R K4.F) ?_; refine hK _ ?_; clear hK K; simp only [Act.put, List.setIfInBounds_toArray, List.set_cons_zero, List.set_cons_succ]
  refine wpQuiet_nil ?_
  clear kF hF hι F
  refine mix_eff (fun K hK => ?_)
  go_wp2_with (go_at_call 11; refine (given_any zl l _).mono ?_; rintro e wx ⟨rfl, hbx⟩; have HB1 := Lib.hid (HB0.out.trans (hbx.mono HB0.out.size)); clear hbx)
  refine mix_on hK HB1.out ?_
  clear hK K
  generalize wx = wx1 at *
  refine mix_eff (fun K hK => ?_)
  go_wp2_with (go_at_call 10; refine (HC1.out _ (HKF.out.stay HB1.out)).mono ?_; rintro e wx ⟨rfl, hbx⟩; have HB2 := Lib.hid (HB1.out.trans (hbx.mono HB1.out.size)); clear hbx)
  refine mix_on hK HB2.out ?_
  clear hK K
  generalize wx = wx2 at *
  refine mix_seg (seg := [_, _, _, _, _, _, _, _, _, _, _, _, _, _, _, _, _, _, _]) rfl HB2.out ?_
  intro ι hι F hF
  have kF := fun n => HKF.out.stay (hF n)
  go_big_quiet_step (fail)
  go_big_quiet_step (fail)
  go_big_quiet_step (fail)
  refine BigFrame.wpQuiet_want rfl (fun K hK => ?_); refine quiet_load_mid 24 _ rfl kl 0 rfl (partC l.of l.n).toList _ (fun w' hw' => by obtain ⟨n, rfl⟩ := hw'; exact partC_mid _ _ _ _ _ _ ((kF n).rows _ (.tail _ (.tail _ (.tail _ (.tail _ (.tail _ (.head _)))))))) Tryd.underlying24 rfl (sizePL _ _) ?_; rw [Array.toArray_toList, HPL.out]; refine hK _ ?_; clear hK K; simp only [Act.put, List.setIfInBounds_toArray, List.set_cons_zero, List.set_cons_succ]
  go_big_quiet_step (fail)
  refine BigFrame.wpQuiet_want rfl (fun K hK => ?_); refine quiet_load_mid 24 _ rfl kd 0 rfl (partC d.of d.n).toList _ (fun w' hw' => by obtain ⟨n, rfl⟩ := hw'; exact partC_mid _ _ _ _ _ _ ((kF n).rows _ (.tail _ (.tail _ (.tail _ (.tail _ (.tail _ (.tail _ (.head _))))))))) Tryd.underlying24 rfl (sizePL _ _) ?_; rw [Array.toArray_toList]; refine hK _ ?_; clear hK K; simp only [Act.put, List.setIfInBounds_toArray, List.set_cons_zero, List.set_cons_succ]
  refine BigFrame.wpQuiet_want rfl (fun K hK => ?_); refine quiet_eqlR 24 _ _ _ rfl (partC d.of d.n) (partC d.of d.n) rfl rfl (by kernel_rfl) true (fun w => partEq d.of d.n w) ?_; refine hK _ ?_; clear hK K; simp only [Act.put, List.setIfInBounds_toArray, List.set_cons_zero, List.set_cons_succ]
  go_big_quiet_step (fail)
  go_big_quiet_step (fail)
  go_big_quiet_step (fail)
  go_big_quiet_step (fail)
  go_big_quiet_step (fail)
  go_big_quiet_step (fail)
  go_big_quiet_step (fail)
  go_big_quiet_step (fail)
  go_big_quiet_step (fail)
  go_big_quiet_step (fail)
  refine BigFrame.wpQuiet_want rfl (fun K hK => ?_); refine quiet_load_row 28 _ rfl kd rfl 28 (dvC zd d) (0, 0) _ (fun w' hw' => by obtain ⟨n, rfl⟩ := hw'; exact (kF n).rows _ (.tail _ (.tail _ (.tail _ (.tail _ (.tail _ (.tail _ (.head _)))))))) Tryd.underlying28 rfl (sizeDf _ _ _ _) ?_; refine hK _ ?_; clear hK K; simp only [Act.put, List.setIfInBounds_toArray, List.set_cons_zero, List.set_cons_succ]
  refine BigFrame.wpQuiet_want rfl (fun K hK => ?_); refine quiet_load_row 28 _ rfl kn rfl 28 (dvC zn (notD d)) (0, 0) _ (fun w' hw' => by obtain ⟨n, rfl⟩ := hw'; exact (kF n).rows _ (.tail _ (.tail _ (.tail _ (.head _))))) Tryd.underlying28 rfl (sizeDf _ _ _ _) ?_; refine hK _ ?_; clear hK K; simp only [Act.put, List.setIfInBounds_toArray, List.set_cons_zero, List.set_cons_succ]
  refine wpQuiet_nil ?_
  clear kF hF hι F
  refine mix_eff (fun K hK => ?_)
  go_wp2_with (go_at_call 13; refine (HC2.out _ (HKF.out.stay HB2.out)).mono ?_; rintro e wx ⟨rfl, hbx⟩; have HB3 := Lib.hid (HB2.out.trans (hbx.mono HB2.out.size)); clear hbx)
  refine mix_on hK HB3.out ?_
  clear hK K
  generalize wx = wx3 at *
  refine mix_seg (seg := [_, _, _, _, _]) rfl HB3.out ?_
  intro ι hι F hF
  have kF := fun n => HKF.out.stay (hF n)
  go_big_quiet_step (fail)
  go_big_quiet_step (fail)
  go_big_quiet_step (fail)
  refine BigFrame.wpQuiet_want rfl (fun K hK => ?_); refine quiet_load_row 28 _ rfl kd rfl 28 (dvC zd d) (0, 0) _ (fun w' hw' => by obtain ⟨n, rfl⟩ := hw'; exact (kF n).rows _ (.tail _ (.tail _ (.tail _ (.tail _ (.tail _ (.tail _ (.head _)))))))) Tryd.underlying28 rfl (sizeDf _ _ _ _) ?_; refine hK _ ?_; clear hK K; simp only [Act.put, List.setIfInBounds_toArray, List.set_cons_zero, List.set_cons_succ]
  refine BigFrame.wpQuiet_want rfl (fun K hK => ?_); refine quiet_load_row 28 _ rfl km rfl 28 (dvC zm (notD (notD d))) (0, 0) _ (fun w' hw' => by obtain ⟨n, rfl⟩ := hw'; exact (kF n).rows _ (.tail _ (.tail _ (.head _)))) Tryd.underlying28 rfl (sizeDf _ _ _ _) ?_; refine hK _ ?_; clear hK K; simp only [Act.put, List.setIfInBounds_toArray, List.set_cons_zero, List.set_cons_succ]
  refine wpQuiet_nil ?_
  clear kF hF hι F
  refine mix_eff (fun K hK => ?_)
  go_wp2_with (go_at_call 13; refine (HC3.out _ (HKF.out.stay HB3.out)).mono ?_; rintro e wx ⟨rfl, hbx⟩; have HB4 := Lib.hid (HB3.out.trans (hbx.mono HB3.out.size)); clear hbx)
  refine mix_on hK HB4.out ?_
  clear hK K
  generalize wx = wx4 at *
  refine mix_seg (seg := [_, _, _, _, _, _, _, _, _, _, _, _]) rfl HB4.out ?_
  intro ι hι F hF
  have kF := fun n => HKF.out.stay (hF n)
  go_big_quiet_step (fail)
  go_big_quiet_step (fail)
  go_big_quiet_step (fail)
  go_big_quiet_step (fail)
  go_big_quiet_step (fail)
  go_big_quiet_step (fail)
  go_big_quiet_step (fail)
  go_big_quiet_step (fail)
  go_big_quiet_step (fail)
  go_big_quiet_step (fail)
  refine BigFrame.wpQuiet_want rfl (fun K hK => ?_); refine quiet_load_row 28 _ rfl kd rfl 28 (dvC zd d) (0, 0) _ (fun w' hw' => by obtain ⟨n, rfl⟩ := hw'; exact (kF n).rows _ (.tail _ (.tail _ (.tail _ (.tail _ (.tail _ (.tail _ (.head _)))))))) Tryd.underlying28 rfl (sizeDf _ _ _ _) ?_; refine hK _ ?_; clear hK K; simp only [Act.put, List.setIfInBounds_toArray, List.set_cons_zero, List.set_cons_succ]
  refine BigFrame.wpQuiet_want rfl (fun K hK => ?_); refine quiet_load_row 28 _ rfl ko rfl 28 (dvC zo o) (0, 0) _ (fun w' hw' => by obtain ⟨n, rfl⟩ := hw'; exact (kF n).rows _ (.head _)) Tryd.underlying28 rfl (sizeDf _ _ _ _) ?_; refine hK _ ?_; clear hK K; simp only [Act.put, List.setIfInBounds_toArray, List.set_cons_zero, List.set_cons_succ]
  refine wpQuiet_nil ?_
  clear kF hF hι F
  refine mix_eff (fun K hK => ?_)
  go_wp2_with (go_at_call 13; refine (HC4.out _ (HKF.out.stay HB4.out)).mono ?_; rintro e wx ⟨rfl, hbx⟩; have HB5 := Lib.hid (HB4.out.trans (hbx.mono HB4.out.size)); clear hbx)
  refine mix_on hK HB5.out ?_
  clear hK K
  generalize wx = wx5 at *
  refine mix_seg (seg := [_, _, _, _, _]) rfl HB5.out ?_
  intro ι hι F hF
  have kF := fun n => HKF.out.stay (hF n)
  go_big_quiet_step (fail)
  go_big_quiet_step (fail)
  go_big_quiet_step (fail)
  refine BigFrame.wpQuiet_want rfl (fun K hK => ?_); refine quiet_build_z rfl ?_; refine hK _ ?_; clear hK K; simp only [Act.put, List.setIfInBounds_toArray, List.set_cons_zero, List.set_cons_succ]
  refine BigFrame.wpQuiet_want rfl (fun K hK => ?_); refine quiet_build_z rfl ?_; refine hK _ ?_; clear hK K; simp only [Act.put, List.setIfInBounds_toArray, List.set_cons_zero, List.set_cons_succ]
  refine wpQuiet_nil ?_
  clear kF hF hι F
  refine mix_eff (fun K hK => ?_)
  go_wp2_with (go_at_call 13; refine (HC5.out _).mono ?_; rintro e wx ⟨rfl, hbx⟩; have HB6 := Lib.hid (HB5.out.trans (hbx.mono HB5.out.size)); clear hbx)
  refine mix_on hK HB6.out ?_
  clear hK K
  generalize wx = wx6 at *
  refine mix_seg (seg := [_, _, _]) rfl HB6.out ?_
  intro ι hι F hF
  have kF := fun n => HKF.out.stay (hF n)
  go_big_quiet_step (fail)
  go_big_quiet_step (fail)
  go_big_quiet_step (fail)
  refine wpQuiet_nil ?_
  clear kF hF hι F
  refine mix_eff (fun K hK => ?_)
  go_wp2_with (go_at_call 8; refine (HC6.out _ (HKF.out.stay HB6.out)).mono ?_; rintro e wx ⟨rfl, hbx⟩; have HB7 := Lib.hid (HB6.out.trans (hbx.mono HB6.out.size)); clear hbx)
  refine mix_on hK HB7.out ?_
  clear hK K
  generalize wx = wx7 at *
  refine mix_seg (seg := [_]) (rest := []) rfl HB7.out ?_
  intro ι hι F hF
  have kF := fun n => HKF.out.stay (hF n)
  go_big_quiet_step (fail)
  refine wpQuiet_nil ?_
  clear kF hF hι F
  show wpList _ _ _ _ _ _
  go_wp2_with fail
  refine NoPanic.normal ?_
  go_wp2_with fail
  go_ret
  exact ⟨rfl, HEND.out _ (HKF.out.stay HB7.out).bel⟩
end Mi
end Go.Proofs.YtplkhgmjcljjhaaDoor
