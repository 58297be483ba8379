/- tree.Depth. -/
import Derived.Test.YtpchahlnnbgpkaaDoorTreL
namespace Go.Proofs.YtpchahlnnbgpkaaDoor
open Go.RowKit Sets Tr
theorem infoInt : (Tryd.prog.info? 3).map (fun i => (i.zero, i.size, i.bytes)) = some (some (.int .i64 0), 1, 8) := by kernel_rfl
/-- the greatest of some kids' -/
def kidMax (h : Nat → Nat) (K : List Int) : Nat := maxL (K.map fun c => h c.toNat)
theorem kidMax_snoc (h : Nat → Nat) (K : List Int) (q : Nat) (hq : q < K.length) : kidMax h (K.take (q + 1)) = max (kidMax h (K.take q)) (h (K.getD q 0).toNat) := by
  unfold kidMax
  rw [List.take_add_one, List.getElem?_eq_getElem hq, List.getD_eq_getElem?_getD, List.getElem?_eq_getElem hq]
  simp only [Option.toList_some, List.map_append, List.map_cons, List.map_nil, Option.getD_some]
  rw [maxL_append]
  simp [maxL]
set_option maxHeartbeats 3200000 in
set_option maxRecDepth 100000 in
theorem max_any (u n cap : Nat) (f : Nat → Nat) (w : World) (hR : RowI 3 w u n (fun j => f j)) (hn : n ≤ 1000) (h1 : 1 ≤ n) :
    Calls Tryd.prog 23 #[.slice (some ⟨u, 0, none⟩) n cap] w fun e w' => e = .returned (.int .i64 (maxL ((List.range n).map f))) ∧ w = w' := by
  have hc0 := hR.cell (i := 0) (by omega)
  have hd1 : decide ((n : Int) < 1) = false := decide_eq_false (by omega)
  have HR := Lib.hid hR
  clear hR
  go_enter Tryd.func23, Tryd.ntmps23
  go_wp2_with fail
  go_loopw [4, 3] (fun x y wr => ∃ m : Nat, x = .int .i64 m ∧ y = .int .i64 (maxL ((List.range m).map f) : Nat) ∧ 1 ≤ m ∧ m ≤ n ∧ w = wr) (fun x _ _ => (n - intOf x).toNat)
  case atStart => exact ⟨1, rfl, by simp [maxL], Nat.le_refl _, h1, rfl⟩
  case round =>
    obtain ⟨m, rfl, rfl, hm1, hm, rfl⟩ := hrel
    by_cases hml : m < n
    · have hdm : decide ((m : Int) < (n : Int)) = true := decide_eq_true (by omega)
      have hcm := HR.out.cell hml
      have hS : maxL ((List.range (m + 1)).map f) = max (maxL ((List.range m).map f)) (f m) := by
        rw [List.range_succ, List.map_append, maxL_append]
        simp [maxL]
      have HS := Lib.hid hS
      clear hS hd1 hc0
      generalize maxL ((List.range m).map f) = M at *
      generalize f m = P at *
      by_cases hMP : M < P
      · have hd : decide (M < P) = true := decide_eq_true hMP
        have hd2 : decide (P < M) = false := decide_eq_false (by omega)
        have hd3 : decide (M ≤ P) = true := decide_eq_true (by omega)
        have hd4 : decide (P ≤ M) = false := decide_eq_false (by omega)
        go_wp2_with fail
        go_roundw
        case rel => exact ⟨m + 1, by go_num, by rw [HS.out, Nat.max_eq_right (by omega)], by omega, hml, by first | rfl | trivial⟩
        case measure => simp only [intOf]; omega
      · have hd : decide (M < P) = false := decide_eq_false hMP
        have hd4 : decide (P ≤ M) = true := decide_eq_true (by omega)
        go_wp2_with fail
        all_goals
          go_roundw
          case rel => exact ⟨m + 1, by go_num, by rw [HS.out]; first | rw [Nat.max_eq_left (by omega)] | (rw [Nat.max_eq_right (by omega)]), by omega, hml, by first | rfl | trivial⟩
          case measure => simp only [intOf]; omega
    · have : m = n := by omega
      subst this
      have hdm : decide ((m : Int) < (m : Int)) = false := decide_eq_false (by omega)
      clear hm hml
      go_wp2_with fail
      go_ret
      exact ⟨rfl, rfl⟩
noncomputable def dpOf (N : List Nd) (R : List (Int × Bool)) : Nat := if rightB N R then depth N R else 0
set_option maxHeartbeats 6400000 in
set_option maxRecDepth 100000 in
theorem depth_any (nv pv : Value) (N : List Nd) (R : List (Int × Bool)) (w : World) (hN : NodesAt w nv N) (hP : PartsAt w pv R) :
    Calls Tryd.prog 10 #[.agg #[nv, pv]] w fun e w' => e = .returned (.int .i64 (dpOf N R)) ∧ Below w.heap.size w w' := by
  have HRt := fun w hN hP => right_any nv pv N R w hN hP
  have HN := Lib.hid hN
  have HP := Lib.hid hP
  obtain ⟨na, nc, rfl⟩ : ∃ a c, nv = .slice a N.length c := by obtain ⟨-, -, a, c, e, -⟩ := hN; exact ⟨a, c, e⟩
  obtain ⟨pa, pc, rfl⟩ : ∃ a c, pv = .slice a R.length c := by obtain ⟨-, -, a, c, e, -⟩ := hP; exact ⟨a, c, e⟩
  clear hN hP
  have hb0 := (Below.refl w.heap.size w).alloc (Nat.le_refl _) (.cells #[.slice na N.length nc, .slice pa R.length pc] 33)
  have HB0 := Lib.hid hb0
  have HRt := Lib.hid (HRt _ (HN.out.kept hb0) (HP.out.kept hb0))
  clear hb0
  go_enter Tryd.func10, Tryd.ntmps10
  by_cases hr : Right N R
  case neg =>
    have hrb := rightB_false hr
    have hpl : dpOf N R = 0 := by unfold dpOf; rw [hrb]; rfl
    rw [hpl]
    rw [hrb] at HRt
    clear hr hrb hpl
    go_wp2_with (go_at_call 11; refine HRt.out.mono ?_; rintro e w2 ⟨rfl, hB2⟩; have HB2 := Lib.hid (HB0.out.trans (hB2.mono (by simp))); clear hB2)
    go_ret
    exact ⟨rfl, HB2.out⟩
  case pos =>
    have hrb := rightB_true hr
    have hpl : dpOf N R = depth N R := by unfold dpOf; rw [hrb]; rfl
    rw [hpl]
    rw [hrb] at HRt
    have HR := Lib.hid hr
    have HF := Lib.hid hr.few
    have hn6 : N.length ≤ 600 := hr.few.2.2
    clear hr hrb hpl
    have hmk := run_make_row' (P := Tryd.prog) 45 3 (.int .i64 0) 8 Tryd.underlying45 infoInt rfl .i64 .i64 N.length (by omega) (by omega)
    go_wp2_with (go_at_call 11; refine HRt.out.mono ?_; rintro e w2 ⟨rfl, hB2⟩; have HB2 := Lib.hid (HB0.out.trans (hB2.mono (by simp))); have hs0 : w.heap.size < w2.heap.size := (by have := hB2.size; simp at this; omega); have ht0 : w2.cell? ⟨w.heap.size, 0, none⟩ = some (.slice na N.length nc) := ((hB2.cell (by simp)).trans (by simp)); have ht1 : w2.cell? ⟨w.heap.size, 1, none⟩ = some (.slice pa R.length pc) := ((hB2.cell (by simp)).trans (by simp)); have ht2 := (((Below.refl w2.heap.size w2).alloc (Nat.le_refl _) (.cells (madeCells #[.int .i64 0] N.length) 3)).cell (p := ⟨w.heap.size, 0, none⟩) hs0).trans ht0; have HT1 := Lib.hid ((((Below.refl w2.heap.size w2).alloc (Nat.le_refl _) (.cells (madeCells #[.int .i64 0] N.length) 3)).cell (p := ⟨w.heap.size, 1, none⟩) hs0).trans ht1); have HS0 := Lib.hid hs0; clear hB2 hs0 ht1)
    have hA1 : RowI 3 (w2.alloc (.cells (madeCells #[.int .i64 0] N.length) 3)) w2.heap.size N.length (rowF (fun i => (tr N i).dep) 0 0) :=
      (World.rowIs_made w2 (.int .i64 0) N.length 3).congr (fun j _ => by rw [rowF_zero])
    have HB1 := Lib.hid (HB2.out.alloc (by have := HS0.out; omega) (.cells (madeCells #[.int .i64 0] N.length) 3))
    have HS1 : Hid ((w2.alloc (.cells (madeCells #[.int .i64 0] N.length) 3)).heap.size = w2.heap.size + 1) := Lib.hid (by simp)
    generalize (w2.alloc (.cells (madeCells #[.int .i64 0] N.length) 3)) = W1 at *
    generalize w2.heap.size = u at *
    clear ht0 ht2 HB2 hmk HRt HB0
    go_loopw [18] (fun x wr => ∃ m : Nat, x = .int .i64 m ∧ m ≤ N.length ∧ Hid (RowI 3 wr u N.length (rowF (fun i => (tr N i).dep) m 0)) ∧ Hid (But u W1 wr)) (fun x _ => (N.length - intOf x).toNat)
    case atStart => exact ⟨0, rfl, Nat.zero_le _, Lib.hid hA1, Lib.hid (But.refl _ _)⟩
    case round =>
      obtain ⟨m, rfl, hm, HA, HW⟩ := hrel
      clear hA1
      generalize hwr : wr = w1 at *
      clear hwr wr
      by_cases hml : m < N.length
      · have hdm : decide ((m : Int) < (N.length : Int)) = true := decide_eq_true (by omega)
        obtain ⟨b, o, rfl, hr0, hok⟩ := HN.out.at hml
        have hBw := But.below HB1.out HW.out (by have := HS0.out; omega) (by have := HS0.out; rw [HS1.out]; omega)
        have hr1 := range_kept hr0 hBw
        have HPN := Lib.hid (dep_node HR.out.low m hml)
        have HLow := Lib.hid (HR.out.low m hml)
        have HSnd := Lib.hid (HR.out.snd m hml)
        obtain ⟨X, hX⟩ : ∃ X, X = N.getD m default := ⟨_, rfl⟩
        rw [← hX] at hr1 hok HPN HLow HSnd
        clear hX
        have huw : u < w1.heap.size := HA.out.lt
        have HR1 := Lib.hid hr1
        have HBx := Lib.hid (BoxAt.new w1 X)
        have HW2 := Lib.hid (HW.out.trans (But.alloc u w1 (.cells (nd9 X).toArray 27)))
        have HA3 := Lib.hid (HA.out.alloc (.cells (nd9 X).toArray 27))
        have HG : Hid (w1.heap.size ≠ u) := Lib.hid (by omega)
        have HL : Hid (∀ i, i < N.length → (tr N i).dep ≤ 600) := Lib.hid (fun i hi => by
          obtain ⟨t, ht, rfl⟩ := is_of_low HR.out.low i hi
          rw [tr_of ht]
          have := dep_le N t ht
          omega)
        have hBx0 := BoxAt.new w1 X
        have HBr4 := Lib.hid hBx0.range
        clear hr0 hr1 hok hBw huw HA HW HRt hBx0
        go_wp2_with (first
          | (refine wpList_load_node rfl _ rfl b (o + m * 9) X rfl HR1.out ?_)
          | (refine wpList_store_node rfl _ _ rfl X rfl rfl ?_)
          | (refine wpList_load_node rfl _ rfl w1.heap.size 0 X rfl HBr4.out ?_)
          | (go_at_call 21; refine (below_any X _).mono ?_; rintro e w5 ⟨v, rfl, hI, hB5⟩; have HI := Lib.hid hI; have HB5 := Lib.hid hB5; obtain ⟨ka, kc, rfl⟩ : ∃ a c, v = .slice a (kids X).length c := (by obtain ⟨a, c, e, -⟩ := hI; exact ⟨a, c, e⟩); clear hI hB5))
        generalize (w1.alloc (.cells (nd9 X).toArray 27)) = w4 at *
        generalize w1.heap.size = g at *
        have HA5 : Hid (RowI 3 w5 u N.length (rowF (fun i => (tr N i).dep) m 0)) := Lib.hid (HA3.out.kept (HB5.out.block u HA3.out.lt))
        have HU4 : Hid (u < w4.heap.size) := Lib.hid HA3.out.lt
        have hkl : (kids X).length ≤ 2 := by
          rcases kids_len X with h | ⟨_, h⟩ | ⟨_, _, h⟩ <;> rw [h] <;> simp
        have HKL := Lib.hid hkl
        have HK : Hid (∀ i, i < (kids X).length → 0 ≤ (kids X).getD i 0 ∧ (kids X).getD i 0 < m) := Lib.hid (fun i hi => HLow.out _ (by rw [List.getD_eq_getElem?_getD, List.getElem?_eq_getElem hi]; exact List.getElem_mem hi))
        have HSum : Hid (∀ q, kidMax (fun i => (tr N i).dep) ((kids X).take q) ≤ 600) := Lib.hid (fun q => by
          refine maxL_le (fun x hx => ?_)
          obtain ⟨c, hc, rfl⟩ := List.mem_map.1 hx
          have := HLow.out c (List.mem_of_mem_take hc)
          exact HL.out _ (by omega))
        clear hkl
        generalize hKK : kids X = K at *
        have HKK := Lib.hid hKK
        clear hKK
        go_loopw [26] (fun x wr => ∃ q : Nat, x = .int .i64 q ∧ q ≤ K.length ∧ Hid (RowI 3 wr u N.length (rowF (fun i => (tr N i).dep) m (kidMax (fun i => (tr N i).dep) (K.take q)))) ∧ Hid (But u w5 wr)) (fun x _ => (K.length - intOf x).toNat)
        case atStart => exact ⟨0, rfl, Nat.zero_le _, HA5, Lib.hid (But.refl _ _)⟩
        case round =>
          obtain ⟨q, rfl, hq, HA6, HW6⟩ := hrel
          generalize hwr : wr = w6 at *
          clear hwr wr
          by_cases hql : q < K.length
          · have hdq : decide ((q : Int) < (K.length : Int)) = true := decide_eq_true (by omega)
            obtain ⟨a, c, e, hx⟩ := HI.out
            obtain ⟨kb, hkb, e2, hx0⟩ := hx q hql
            cases e
            subst e2
            have hx := HW6.out.cell hx0 (by show kb ≠ u; have := HU4.out; omega)
            have hk := HK.out q hql
            have hks := kidMax_snoc (fun i => (tr N i).dep) K q hql
            have hkl2 := HKL.out
            obtain ⟨k, hkk⟩ : ∃ k : Nat, K.getD q 0 = (k : Int) := ⟨(K.getD q 0).toNat, by omega⟩
            rw [hkk] at hk hx hks
            rw [Int.toNat_natCast] at hks
            obtain ⟨S, hS⟩ : ∃ S, S = kidMax (fun i => (tr N i).dep) (K.take q) := ⟨_, rfl⟩
            rw [← hS] at hks HA6
            have hkm : k < m := by omega
            have hcm := HA6.out.cell hml
            have hck := HA6.out.cell (i := k) (by omega)
            have hfm := HA6.out.frozen m
            rw [rowF_at] at hcm
            rw [rowF_lt _ _ _ hkm] at hck
            have hU6 := HA6.out.lt
            have HKS := Lib.hid hks
            generalize hP2 : (tr N k).dep = P at *
            clear hx0 hks hkk hP2 hS hk hkb
            go_wp2_with fail
            refine region_mix [(false, 0), (false, 1), (false, 2), (false, 3), (false, 4), (false, 5), (false, 6), (false, 7), (false, 8), (false, 9), (false, 10), (false, 11)] (fun w' => Below w6.heap.size w6 w') (by kernel_rfl) (by kernel_rfl) ((Below.refl _ _).drew) ?_
            simp only [planOps, List.map_cons, List.map_nil, List.getD_cons_zero, List.getD_cons_succ, List.length_cons, List.length_nil, List.drop_succ_cons, List.drop_zero]
            refine mix_seg (seg := [_, _, _, _, _, _, _, _, _, _, _, _]) (rest := []) rfl ((Below.refl _ _).drew) ?_
            intro ι hι F hF
            have f0 := fun n => ((hF n).cell (p := ⟨u, m, none⟩) hU6).trans hcm
            have f1 := fun n => ((hF n).cell (p := ⟨u, k, none⟩) hU6).trans hck
            have f3 : k < N.length := by omega
            repeat (go_big_quiet_step (fail))
            refine wpQuiet_nil ?_
            clear f0 f1 f3 hF hι F
            show wpList _ _ _ _ _ _
            go_wp2
            all_goals
              have HMin := Lib.hid h
              clear h
              refine NoPanic.normal ?_
              go_wp2
              go_roundw
              case rel =>
                refine ⟨q + 1, by go_num, hql, Lib.hid ?_, Lib.hid ((HW6.out.drew).trans (But.set _ _ _ _))⟩
                rw [HKS.out]
                have h1 := HMin.out
                first
                  | (rw [show max S P = S from by omega]; exact (HA6.out.drew'.set m (S : Int)).congr (fun j _ => rowF_set _ _ _ _ j))
                  | (rw [show max S P = P from by omega]; exact (HA6.out.drew'.set m (P : Int)).congr (fun j _ => rowF_set _ _ _ _ j))
              case measure => simp only [intOf]; omega
          · have : q = K.length := by omega
            subst this
            have hdq : decide (K.length < K.length) = false := decide_eq_false (by omega)
            rw [List.take_length] at HA6
            have hS6 := HSum.out K.length
            rw [List.take_length] at hS6
            have HDE : Hid ((tr N m).dep = kidMax (fun i => (tr N i).dep) K + 1) := Lib.hid HPN.out
            generalize kidMax (fun i => (tr N i).dep) K = S at *
            have hcm := HA6.out.cell hml
            have hfm := HA6.out.frozen m
            rw [rowF_at] at hcm
            clear hq hql
            go_wp2_with fail
            go_roundw
            case rel =>
              refine ⟨m + 1, by go_num, hml, Lib.hid ?_, Lib.hid (HW2.out.trans (((But.of_below HB5.out).trans HW6.out).trans (But.set _ _ _ _)))⟩
              have hv : (S : Int) + 1 = (((tr N m).dep : Nat) : Int) := by rw [HDE.out]; omega
              rw [hv]
              exact (HA6.out.set m _).congr (fun j _ => by rw [rowF_set, rowF_next (fun i => (tr N i).dep) m j])
            case measure => simp only [intOf]; omega
      · have : m = N.length := by omega
        subst this
        have hdm : decide (N.length < N.length) = false := decide_eq_false (by omega)
        have hn1 : 1 ≤ N.length := by
          have h1 := HF.out.1
          obtain ⟨p, hp⟩ : ∃ p, p ∈ R := by
            cases R with
            | nil => simp at h1
            | cons p _ => exact ⟨p, by simp⟩
          have := HR.out.rts p.1 (List.mem_map.2 ⟨p, hp, rfl⟩)
          omega
        have HA7 : Hid (RowI 3 w1 u N.length (fun j => ((tr N j).dep : Nat))) := Lib.hid (HA.out.congr (fun j hj => by rw [rowF_lt _ _ _ hj]))
        have HMax := Lib.hid (max_any u N.length N.length (fun j => (tr N j).dep) w1 HA7.out (by omega) hn1)
        rw [depth_all HR.out] at HMax
        have HB6 := Lib.hid (But.below HB1.out HW.out (by have := HS0.out; omega) (by have := HS0.out; rw [HS1.out]; omega))
        clear hm hml HRt hn1
        go_wp2_with (go_at_call 23; refine HMax.out.mono ?_; rintro e w7 ⟨rfl, rfl⟩)
        go_ret
        exact ⟨rfl, HB6.out⟩
end Go.Proofs.YtpchahlnnbgpkaaDoor
