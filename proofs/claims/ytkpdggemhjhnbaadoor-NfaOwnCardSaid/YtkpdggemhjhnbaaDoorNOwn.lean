/- NfaOwn: the law's walk. -/
import Derived.Test.YtkpdggemhjhnbaaDoorNfV
import Derived.Test.YtkpdggemhjhnbaaDoorOpenM
namespace Go.Proofs.YtkpdggemhjhnbaaDoor
open Go.RowKit Sets Nf
namespace Nf
structure Tidy (m : Mc) : Prop where
  fo : m.fo.length ≤ 1000
  fi : m.fi.length ≤ 1000
  sp : m.sp.length = m.fo.length
  la : m.la.length = m.fo.length
  each : ∀ l ∈ m.fo, l.length ≤ 1000
theorem left_len (U : Nat) (l : List Int) : (leftL U l).length ≤ l.length := by
  unfold leftL
  rw [List.length_map]
  exact List.length_filter_le _ _
theorem trim_tidy {m : Mc} (hf : Fine m) (U : Nat) : Tidy (trimM m U) := by
  have hk : (kept U m.sp.length).length ≤ m.sp.length := by
    unfold kept
    refine Nat.le_trans (List.length_filter_le _ _) ?_
    rw [List.length_range]; exact Nat.le_refl _
  have h1 := hf.sp
  have h2 := hf.fi
  refine ⟨by unfold trimM; simp; omega, by unfold trimM; have := left_len U m.fi; simp; omega, by unfold trimM; simp, by unfold trimM; simp, ?_⟩
  intro l hl
  unfold trimM at hl
  obtain ⟨k, -, rfl⟩ := List.mem_map.1 hl
  refine Nat.le_trans (left_len U _) ?_
  rcases Nat.lt_or_ge k m.fo.length with h3 | h3
  · exact (hf.each _ (getD_mem h3)).1
  · rw [getD_ge h3]; exact Nat.zero_le _
theorem trim_some (x : Ma) (m : Mc) (w : World) (h : MAt w x m) (hf : Fine m) (hT : Tab w) :
    Calls Tryd.prog 16 #[.agg (mc x m)] w fun e w' => ∃ y t k, e = .returned (.tuple #[.agg (mc y t), .int .i64 k]) ∧ OwnM w.heap.size w' y t ∧ Tidy t ∧ Below w.heap.size w w' := by
  cases hr : rightM m with
  | true =>
    refine (trim_any x m w h hf ((right_iff m).1 hr) hT).mono ?_
    rintro e w' ⟨y, rfl, ho, hb⟩
    exact ⟨y, _, 0, rfl, ho, trim_tidy hf _, hb⟩
  | false =>
    refine (trim_wrong x m w h hf hr).mono ?_
    rintro e w' ⟨rfl, hb⟩
    refine ⟨⟨none, 0, none, 0, none, 0, none, 0⟩, ⟨[], [], [], [], false⟩, 1, rfl, ⟨World.ownsRow_nil _ _ _ _, World.ownsRow_nil _ _ _ _, ⟨[], rfl, World.ownsRow_nil _ _ _ _, fun i hi => ?_⟩, World.ownsRow_nil _ _ _ _⟩, ⟨Nat.zero_le _, Nat.zero_le _, rfl, rfl, fun l hl => ?_⟩, hb⟩
    · cases hi
    · cases hl
theorem same_self (m : Mc) : sameB m m = true := decide_eq_true ⟨rfl, rfl, rfl, rfl, rfl⟩
set_option maxHeartbeats 12800000 in
set_option maxRecDepth 100000 in
theorem nown_any (x : Ma) (m : Mc) (w : World) (h : UnM w x m) (hT : Tab w) :
    Calls Tryd.prog 8 #[.agg (mc x m)] w fun e w' => e = .returned (.bool true) ∧ Below w.heap.size w w' := by
  have HG : Hid (0 < w.heap.size) := Lib.hid (World.block_lt_of_cell? _ _ (hT 0 (by decide)))
  have HU := Lib.hid h
  have HT := Lib.hid hT
  clear h hT
  go_enter Tryd.func8, Tryd.ntmps8
  go_upto_region 1 with fail
  have HX := Lib.hid (BoxM.new w x m)
  have HB := Lib.hid ((Below.refl w.heap.size w).alloc (Nat.le_refl _) (.cells (mc x m) 27))
  generalize w.alloc (.cells (mc x m) 27) = w1 at *
  have HM1 := Lib.hid (HU.out.1.kept HB.out)
  have HR := Lib.hid (ngreat_any x m w1 HM1.out.fo)
  have HAW := Lib.hid (fun w' (h : Below w.heap.size w w') => awake10_any w' (HT.out.below h HG.out))
  have HTB := Lib.hid (fun w' (h : Below w.heap.size w w') => HT.out.below (w' := w') h HG.out)
  have HMB := Lib.hid (fun w' (h : Below w.heap.size w w') => HU.out.1.kept (w' := w') h)
  generalize hBq : w.heap.size = B at *
  have HBq := Lib.hid hBq
  clear hBq
  have HBX := Lib.hid HX.out.lt
  have HSZ : Hid (∀ w', Below B w w' → B ≤ w'.heap.size) := Lib.hid (fun w' h => by rw [← HBq.out]; exact h.size)
  cases hgr : greatM m with
  | true =>
    rw [hgr] at HR
    clear hgr
    go_wp2_with (first
      | (refine wpList_load_mach rfl (.tmp 1) rfl B x m rfl HX.out ?_)
      | (go_at_call 9; refine HR.out.mono ?_; rintro e w2 ⟨rfl, hb2⟩; have HB2 := Lib.hid (HB.out.trans (hb2.mono (Nat.le_of_lt HBX.out))); clear hb2; have HA2 := Lib.hid (HAW.out w2 HB2.out))
      | (go_at_call 10; refine HA2.out.mono ?_; rintro e w3 ⟨rfl, hb3⟩; have HB3 := Lib.hid (HB2.out.trans (hb3.mono (HSZ.out _ HB2.out))); clear hb3))
    go_ret
    exact ⟨rfl, by rw [HBq.out]; exact HB3.out⟩
  | false =>
    rw [hgr] at HR
    have HF := Lib.hid (HU.out.2 hgr)
    clear hgr
    go_upto_region 3 with (first
      | (refine wpList_load_mach rfl (.tmp 1) rfl B x m rfl HX.out ?_)
      | (go_at_call 9; refine HR.out.mono ?_; rintro e w2 ⟨rfl, hb2⟩; have HX2 := Lib.hid (HX.out.kept hb2 HBX.out); have HB2 := Lib.hid (HB.out.trans (hb2.mono (Nat.le_of_lt HBX.out))); clear hb2))
    have HC1 := Lib.hid (copy_any x m w2 (HMB.out _ HB2.out) HF.out)
    go_upto_region 4 with (first
      | (refine wpList_load_mach rfl (.tmp 1) rfl B x m rfl HX2.out ?_)
      | (go_at_call 15; refine HC1.out.mono ?_; rintro e w3 ⟨y, rfl, ho, hb⟩; have HOC := Lib.hid ho; have HB3 := Lib.hid hb; clear ho hb)
      | (refine wpList_lay_mach rfl (.tmp 3) (.tmp 16) rfl y m _ rfl rfl rfl ?_))
    rw [show ∀ a : Act, a.put none undef = a from fun _ => rfl]
    have hal := (Below.refl w3.heap.size w3).alloc (Nat.le_refl _) (.cells (mc y m) 27)
    have h24 := HB3.out.trans (hal.mono HB3.out.size)
    have HX4 := Lib.hid (HX2.out.kept h24 HX2.out.lt)
    have HC4 := Lib.hid (BoxM.new w3 y m)
    have HMC4 := Lib.hid (HOC.out.stay hal).mat
    have HB4 := Lib.hid (HB2.out.trans (h24.mono (HSZ.out _ HB2.out)))
    obtain ⟨b3, hb3⟩ : ∃ b, Hid (w3.heap.size = b) := ⟨_, Lib.hid rfl⟩
    rw [hb3.out] at HC4 ⊢
    clear hal h24 HOC HB3 HC1 HX2 HX HM1 HR HB
    generalize w3.alloc (.cells (mc y m) 27) = w4 at *
    clear hb3 HBX
    have HC2 := Lib.hid (copy_any y m w4 HMC4.out HF.out)
    go_upto_region 5 with (first
      | (refine wpList_load_mach rfl (.tmp 3) rfl b3 y m rfl HC4.out ?_)
      | (go_at_call 15; refine HC2.out.mono ?_; rintro e w5 ⟨z, rfl, ho, hb⟩; have HOD := Lib.hid ho; have HB5 := Lib.hid hb; clear ho hb)
      | (refine wpList_lay_mach rfl (.tmp 4) (.tmp 18) rfl z m _ rfl rfl rfl ?_))
    rw [show ∀ a : Act, a.put none undef = a from fun _ => rfl]
    have hal := (Below.refl w5.heap.size w5).alloc (Nat.le_refl _) (.cells (mc z m) 27)
    have HB46 := Lib.hid (HB5.out.trans (hal.mono HB5.out.size))
    have HD6 := Lib.hid (BoxM.new w5 z m)
    have HOD6 := Lib.hid (HOD.out.stay hal)
    have HB6 := Lib.hid (HB4.out.trans (HB46.out.mono (HSZ.out _ HB4.out)))
    obtain ⟨b5, hb5⟩ : ∃ b, Hid (w5.heap.size = b) := ⟨_, Lib.hid rfl⟩
    rw [hb5.out] at HD6 ⊢
    clear hal HOD HB5 HC2
    generalize w5.alloc (.cells (mc z m) 27) = w6 at *
    clear hb5
    have HTR := Lib.hid (trim_some y m w6 (HMC4.out.kept HB46.out) HF.out (HTB.out _ HB6.out))
    have HC6 := Lib.hid (HC4.out.kept HB46.out HC4.out.lt)
    go_upto_region 6 with (first
      | (refine wpList_load_mach rfl (.tmp 3) rfl b3 y m rfl HC6.out ?_)
      | (go_at_call 16; refine HTR.out.mono ?_; rintro e w7 ⟨u, t, k, rfl, ho, ht, hb⟩; have HOT := Lib.hid ho; have HTI := Lib.hid ht; have HB7 := Lib.hid hb; clear ho ht hb)
      | (refine wpList_lay_mach rfl (.tmp 5) (.tmp 22) rfl u t _ rfl rfl rfl ?_))
    have hal := (Below.refl w7.heap.size w7).alloc (Nat.le_refl _) (.cells (mc u t) 27)
    have h68 := HB7.out.trans (hal.mono HB7.out.size)
    have HT8 := Lib.hid (BoxM.new w7 u t)
    have HOT8 := Lib.hid (HOT.out.stay hal)
    have HOD8 := Lib.hid (HOD6.out.stay h68)
    have HD8 := Lib.hid (HD6.out.kept h68 HD6.out.lt)
    have HB48 := Lib.hid (HB46.out.trans (h68.mono HB46.out.size))
    have HS46 := Lib.hid HB46.out.size
    obtain ⟨b7, hb7⟩ : ∃ b, Hid (w7.heap.size = b) := ⟨_, Lib.hid rfl⟩
    rw [hb7.out] at HT8 ⊢
    clear hal h68 HOT HB7 HTR HD6 HOD6 HC6 HB46 HB6
    generalize w7.alloc (.cells (mc u t) 27) = w8 at *
    clear hb7
    have HI := Lib.hid (OvI.mk (W0 := w8) (Sim.refl w8) HB48.out)
    obtain ⟨D, hD⟩ : ∃ D, Hid (w4.heap.size = D) := ⟨_, Lib.hid rfl⟩
    rw [hD.out] at HI HOD8 HS46
    clear HB48
    go_wp2_with fail
    go_loopw [7] (fun i wr => ∃ j : Nat, i = .int .i64 j ∧ j ≤ t.fi.length ∧ Hid (OvI w8 w4 D wr)) (fun i _ => ((t.fi.length : Int) - intOf i).toNat)
    case atStart => exact ⟨0, rfl, Nat.zero_le _, HI⟩
    case round =>
      clear HI
      obtain ⟨j, rfl, hj, HI⟩ := hrel
      generalize hwr : wr = w9 at *
      clear hwr wr
      obtain ⟨-, c1, -, -⟩ := HI.out.box HT8.out
      by_cases hlt : j < t.fi.length
      · have hdd : decide ((j : Int) < (t.fi.length : Int)) = true := decide_eq_true (by omega)
        have hd2 : decide (j < t.fi.length) = true := decide_eq_true hlt
        obtain ⟨g, v, hg, hc, hfz, hnx⟩ := HI.out.num HOT8.out.fi HS46.out hlt
        rw [hg] at c1
        have HNX := Lib.hid hnx
        have HW1 : Hid (wrap64 ((j : Int) + 1) = ((j + 1 : Nat) : Int)) := Lib.hid (nat_wrap (by have := HTI.out.fi; omega))
        have HJ := Lib.hid hlt
        have hjl : (j : Int) < (t.fi.length : Int) := by omega
        clear hlt hg hnx
        go_wp2_with fail
        go_roundw
        case rel => exact ⟨j + 1, by rw [HW1.out], HJ.out, Lib.hid (HNX.out _)⟩
        case measure => rw [HW1.out]; exact meas8 HJ.out
      · have hdd : decide ((j : Int) < (t.fi.length : Int)) = false := decide_eq_false (by omega)
        have hd2 : decide (j < t.fi.length) = false := decide_eq_false hlt
        clear hlt
        go_wp2_with fail
        clear c1 hdd hd2 hj
        go_loopw [8, 9] (fun i _ wr => ∃ j : Nat, i = .int .i64 j ∧ j ≤ t.fo.length ∧ Hid (OvI w8 w4 D wr)) (fun i _ _ => ((t.fo.length : Int) - intOf i).toNat)
        case atStart => exact ⟨0, rfl, Nat.zero_le _, HI⟩
        case round =>
          clear HI
          obtain ⟨j2, rfl, hj2, HI⟩ := hrel
          generalize hwr : wr = w10 at *
          clear hwr wr
          obtain ⟨c0, -, c2, c3⟩ := HI.out.box HT8.out
          by_cases hlt : j2 < t.fo.length
          · have hdd : decide ((j2 : Int) < (t.fo.length : Int)) = true := decide_eq_true (by omega)
            have hd2 : decide (j2 < t.fo.length) = true := decide_eq_true hlt
            obtain ⟨g0, v0, hg0, hc0, hfz0, hnx0⟩ := HI.out.tag HOT8.out.sp HS46.out (j := j2) (by have := HTI.out.sp; omega)
            rw [hg0] at c0
            have HNX0 := Lib.hid hnx0
            have HW1 : Hid (wrap64 ((j2 : Int) + 1) = ((j2 + 1 : Nat) : Int)) := Lib.hid (nat_wrap (by have := HTI.out.fo; omega))
            have HJ2 := Lib.hid hlt
            have hjl : (j2 : Int) < (t.fo.length : Int) := by omega
            have hjs : (j2 : Int) < (t.sp.length : Int) := by have := HTI.out.sp; omega
            have hja : (j2 : Int) < (t.la.length : Int) := by have := HTI.out.la; omega
            clear hlt hg0 hnx0
            go_upto_region 14 with fail
            have HI2 := Lib.hid (HNX0.out ((v0 + 1) % 256))
            generalize w10.setCell ⟨g0, j2 * 5 + 4, none⟩ (.int .u8 ((v0 + 1) % 256)) = w11 at *
            clear HNX0 HI c0 c2 c3 hc0 hfz0
            have HBL7 := Lib.hid HI2.out.sim
            obtain ⟨-, -, -, c3⟩ := HI2.out.box HT8.out
            obtain ⟨g1, v1, hg1, hc1, hfz1, hnx1⟩ := HI2.out.flag HOT8.out.la HS46.out (j := j2) (by have := HTI.out.la; have := HJ2.out; omega)
            rw [hg1] at c3
            have HNX1 := Lib.hid (fun n => ((HI2.out.drew n).flag HOT8.out.la HS46.out (j := j2) (by have := HTI.out.la; have := HJ2.out; omega)))
            have HNX1' : Hid (∀ n v2, OvI w8 w4 D ((w11.drewN n).setCell ⟨g1, j2, none⟩ (.bool v2))) := Lib.hid (fun n v2 => by
              obtain ⟨g, v, e, -, -, h⟩ := HNX1.out n
              rw [hg1] at e
              injection e with e
              injection e with e
              rw [e]; exact h v2)
            have HBX7 := Lib.hid (World.block_lt_of_cell? _ _ c3)
            have HBX1 := Lib.hid (World.block_lt_of_cell? _ _ hc1)
            clear hg1 hnx1 HNX1 HBL7
            refine region_mix [(false, 0), (false, 1), (false, 2), (false, 3), (false, 4), (false, 5), (false, 6), (false, 7), (false, 8), (false, 9)] (fun w' => w' = w11.drew) (by kernel_rfl) (by kernel_rfl) rfl ?_
            simp only [planOps, List.map_cons, List.map_nil, List.getD_cons_zero, List.getD_cons_succ, List.length_cons, List.length_nil, List.drop_succ_cons, List.drop_zero]
            refine mix_seg (seg := [_, _, _, _, _, _, _, _, _, _]) (rest := []) rfl rfl ?_
            intro ι hι F hF
            have f1 := fun n => (show (F n).cell? ⟨b7, 3, none⟩ = some (.slice (some ⟨g1, 0, none⟩) t.la.length u.lc) by rw [hF n]; exact c3)
            have f2 := fun n => (show (F n).cell? ⟨g1, j2, none⟩ = some (.bool v1) by rw [hF n]; exact hc1)
            iterate 10 (go_big_quiet_step (fail))
            refine wpQuiet_nil ?_
            clear f1 f2 hF hι F
            show wpList _ _ _ _ _ _
            have HI3 : Hid (OvI w8 w4 D (w11.drew.setCell ⟨g1, j2, none⟩ (.bool (!v1)))) := Lib.hid (HNX1'.out 1 (!v1))
            have hc1' : w11.drew.cell? ⟨g1, j2, none⟩ = some (.bool v1) := hc1
            have hfz1' : w11.drew.frozen? ⟨g1, j2, none⟩ = false := hfz1
            clear HNX1' hc1 hfz1 c3 HI2
            generalize hw12 : w11.drew = w12 at *
            clear hw12
            go_wp2_with fail
            refine NoPanic.normal ?_
            generalize w12.setCell ⟨g1, j2, none⟩ (.bool (!v1)) = w13 at *
            go_wp2_with fail
            have HLS := Lib.hid (fun W (h : OvI w8 w4 D W) => h.list HOT8.out HJ2.out)
            have HLL := Lib.hid (HTI.out.each _ (getD_mem (d := []) HJ2.out))
            generalize t.fo.getD j2 [] = l at *
            clear hc1' hfz1' ι
            go_loopw [9] (fun i wr => ∃ n : Nat, i = .int .i64 n ∧ n ≤ l.length ∧ Hid (OvI w8 w4 D wr)) (fun i _ => ((l.length : Int) - intOf i).toNat)
            case atStart => exact ⟨0, rfl, Nat.zero_le _, HI3⟩
            case round =>
              clear HI3
              obtain ⟨n, rfl, hn, HI⟩ := hrel
              generalize hwr : wr = w14 at *
              clear hwr wr
              obtain ⟨-, -, c2, -⟩ := HI.out.box HT8.out
              obtain ⟨g2, a2, k2, e2, hc2, ho2⟩ := HLS.out _ HI.out
              rw [e2] at c2
              have HO2 := Lib.hid ho2
              clear e2 ho2
              by_cases hlt : n < l.length
              · have hd3 : decide ((n : Int) < (l.length : Int)) = true := decide_eq_true (by omega)
                have hd4 : decide (n < l.length) = true := decide_eq_true hlt
                obtain ⟨g3, v3, e3, hc3, hfz3, hnx3⟩ := HI.out.num HO2.out HS46.out hlt
                rw [e3] at hc2
                have HNX3 := Lib.hid hnx3
                have HW2 : Hid (wrap64 ((n : Int) + 1) = ((n + 1 : Nat) : Int)) := Lib.hid (nat_wrap (by have := HLL.out; omega))
                have HN := Lib.hid hlt
                have hnl : (n : Int) < (l.length : Int) := by omega
                clear hlt e3 hnx3
                go_wp2_with fail
                go_roundw
                case rel => exact ⟨n + 1, by rw [HW2.out], HN.out, Lib.hid (HNX3.out _)⟩
                case measure => rw [HW2.out]; exact meas8 HN.out
              · have hd3 : decide ((n : Int) < (l.length : Int)) = false := decide_eq_false (by omega)
                have hd4 : decide (n < l.length) = false := decide_eq_false hlt
                clear hlt
                go_wp2_with fail
                go_roundw
                case rel => exact ⟨j2 + 1, by rw [HW1.out], HJ2.out, HI⟩
                case measure => rw [HW1.out]; exact meas8 HJ2.out
          · have hdd : decide ((j2 : Int) < (t.fo.length : Int)) = false := decide_eq_false (by omega)
            have hd2 : decide (j2 < t.fo.length) = false := decide_eq_false hlt
            clear hlt
            go_wp2_with fail
            clear c0 c2 c3 hdd hd2 hj2
            go_loopw [10, 11] (fun i _ wr => ∃ j : Nat, i = .int .i64 j ∧ j ≤ m.fo.length ∧ Hid (OvI w8 w4 D wr)) (fun i _ _ => ((m.fo.length : Int) - intOf i).toNat)
            case atStart => exact ⟨0, rfl, Nat.zero_le _, HI⟩
            case round =>
              clear HI
              obtain ⟨j3, rfl, hj3, HI⟩ := hrel
              generalize hwr : wr = w15 at *
              clear hwr wr
              obtain ⟨-, -, c2, -⟩ := HI.out.box HD8.out
              by_cases hlt : j3 < m.fo.length
              · have hdd : decide ((j3 : Int) < (m.fo.length : Int)) = true := decide_eq_true (by omega)
                have hd2 : decide (j3 < m.fo.length) = true := decide_eq_true hlt
                have HW1 : Hid (wrap64 ((j3 : Int) + 1) = ((j3 + 1 : Nat) : Int)) := Lib.hid (nat_wrap (by have := HF.out.fo; omega))
                have HJ3 := Lib.hid hlt
                have hjl : (j3 : Int) < (m.fo.length : Int) := by omega
                have HLS := Lib.hid (fun W (h : OvI w8 w4 D W) => h.list HOD8.out HJ3.out)
                have HLL := Lib.hid (HF.out.each _ (getD_mem (d := []) hlt)).1
                clear hlt
                generalize m.fo.getD j3 [] = l at *
                go_wp2_with fail
                clear c2
                go_loopw [11] (fun i wr => ∃ n : Nat, i = .int .i64 n ∧ n ≤ l.length ∧ Hid (OvI w8 w4 D wr)) (fun i _ => ((l.length : Int) - intOf i).toNat)
                case atStart => exact ⟨0, rfl, Nat.zero_le _, HI⟩
                case round =>
                  clear HI
                  obtain ⟨n, rfl, hn, HI⟩ := hrel
                  generalize hwr : wr = w16 at *
                  clear hwr wr
                  obtain ⟨-, -, c2, -⟩ := HI.out.box HD8.out
                  obtain ⟨g2, a2, k2, e2, hc2, ho2⟩ := HLS.out _ HI.out
                  rw [e2] at c2
                  have HO2 := Lib.hid ho2
                  clear e2 ho2
                  by_cases hlt : n < l.length
                  · have hd3 : decide ((n : Int) < (l.length : Int)) = true := decide_eq_true (by omega)
                    have hd4 : decide (n < l.length) = true := decide_eq_true hlt
                    obtain ⟨g3, v3, e3, hc3, hfz3, hnx3⟩ := HI.out.num HO2.out (Nat.le_refl D) hlt
                    rw [e3] at hc2
                    have HNX3 := Lib.hid hnx3
                    have HW2 : Hid (wrap64 ((n : Int) + 1) = ((n + 1 : Nat) : Int)) := Lib.hid (nat_wrap (by have := HLL.out; omega))
                    have HN := Lib.hid hlt
                    have hnl : (n : Int) < (l.length : Int) := by omega
                    clear hlt e3 hnx3
                    go_wp2_with fail
                    go_roundw
                    case rel => exact ⟨n + 1, by rw [HW2.out], HN.out, Lib.hid (HNX3.out _)⟩
                    case measure => rw [HW2.out]; exact meas8 HN.out
                  · have hd3 : decide ((n : Int) < (l.length : Int)) = false := decide_eq_false (by omega)
                    have hd4 : decide (n < l.length) = false := decide_eq_false hlt
                    clear hlt
                    go_wp2_with fail
                    go_roundw
                    case rel => exact ⟨j3 + 1, by rw [HW1.out], HJ3.out, HI⟩
                    case measure => rw [HW1.out]; exact meas8 HJ3.out
              · have hdd : decide ((j3 : Int) < (m.fo.length : Int)) = false := decide_eq_false (by omega)
                have hd2 : decide (j3 < m.fo.length) = false := decide_eq_false hlt
                clear hlt
                have HLW : Hid (Below w4.heap.size w4 w15) := Lib.hid (by rw [hD.out]; exact HI.out.low)
                have HXF := Lib.hid (HX4.out.kept HLW.out HX4.out.lt)
                have HCF := Lib.hid (HC4.out.kept HLW.out HC4.out.lt)
                have HBF := Lib.hid (HB4.out.trans (HLW.out.mono (HSZ.out _ HB4.out)))
                have HSM := Lib.hid (rsame_any y x m m w15 (HMC4.out.kept HLW.out) (HMB.out _ HBF.out) HF.out HF.out)
                rw [same_self] at HSM
                go_wp2_with (first
                  | (refine wpList_load_mach rfl (.tmp 3) rfl b3 y m rfl HCF.out ?_)
                  | (refine wpList_load_mach rfl (.tmp 1) rfl B x m rfl HXF.out ?_)
                  | (go_at_call 17; refine HSM.out.mono ?_; rintro e w17 ⟨rfl, hb⟩; have HBG := Lib.hid (HBF.out.trans (hb.mono (HSZ.out _ HBF.out))); clear hb; have HAG := Lib.hid (HAW.out w17 HBG.out))
                  | (go_at_call 10; refine HAG.out.mono ?_; rintro e w18 ⟨rfl, hb⟩; have HBH := Lib.hid (HBG.out.trans (hb.mono (HSZ.out _ HBG.out))); clear hb))
                go_ret
                exact ⟨rfl, by rw [HBq.out]; exact HBH.out⟩
end Nf
end Go.Proofs.YtkpdggemhjhnbaaDoor
