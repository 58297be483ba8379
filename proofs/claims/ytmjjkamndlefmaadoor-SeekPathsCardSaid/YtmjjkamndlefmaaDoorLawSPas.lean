/- SeekPaths holds: of any machine the call answers true. No condition. -/
import Derived.Test.YtmjjkamndlefmaaDoorPqS6
import Derived.Test.YtmjjkamndlefmaaDoorPq43
import Derived.Test.YtmjjkamndlefmaaDoorPqS9
import Derived.Test.YtmjjkamndlefmaaDoorPqS7
import Derived.Test.YtmjjkamndlefmaaDoorTie
import Derived.Test.YtmjjkamndlefmaaDoorCards
import Derived.SevenTiedAt
import Derived.Lay
import Derived.MakeChecks
import Derived.WalkKit
import Derived.ProofKit
import Derived.OpenShut
import Derived.ShutString
namespace Go.Proofs.YtmjjkamndlefmaaDoor
open Go.RowKit Sets Nf Df Cls
namespace Sk
set_option maxHeartbeats 12800000 in
set_option maxRecDepth 100000 in
theorem spath_any (x : Ma) (m : Mc) (a : ByteArray) (w : World) (u : UnM w x m) (hT : Tab w) : Calls Tryd.prog 7 #[.agg (mc x m), .string a] w fun e w' => e = .returned (.bool true) ∧ Below w.heap.size w w' := by
  have HG : Hid (0 < w.heap.size) := Lib.hid (World.block_lt_of_cell? _ _ (hT 0 (by decide)))
  have HU := Lib.hid u
  have HT := Lib.hid hT
  clear u hT
  go_enter Tryd.func7, Tryd.ntmps7
  go_upto_region 1 with fail
  have HX := Lib.hid (BoxM.new w x m)
  have HB := Lib.hid ((Below.refl w.heap.size w).alloc (Nat.le_refl _) (.cells (mc x m) 43))
  obtain ⟨s, hs⟩ : ∃ s, Hid (w.heap.size = s) := ⟨_, Lib.hid rfl⟩
  rw [hs.out] at HX ⊢
  generalize w.alloc (.cells (mc x m) 43) = w1 at *
  have HK : Hid (∀ W, Below w1.heap.size w1 W → BoxM W s x m ∧ MAt W x m ∧ Tab W ∧ Below w.heap.size w W) := Lib.hid (fun W hW => by
    have h1 := HB.out.trans (hW.mono HB.out.size)
    exact ⟨HX.out.kept hW HX.out.lt, HU.out.1.kept h1, HT.out.below h1 HG.out, h1⟩)
  have HAW := Lib.hid (fun W (hW : Below w1.heap.size w1 W) => awake13_any W (HK.out W hW).2.2.1)
  have HGR := Lib.hid (ngreat_any x m w1 (HK.out _ (Below.refl _ _)).2.1.fo)
  have HBG : Hid (greatM m = false → Fine m ∧ m.sp.length ≤ 60) := Lib.hid (fun h => ⟨HU.out.2 h, by
    unfold greatM at h
    rw [Bool.or_eq_false_iff, Bool.or_eq_false_iff, decide_eq_false_iff_not] at h
    omega⟩)
  clear HU HT
  cases hb : greatM m with
  | true =>
    rw [hb] at HGR
    clear hb HBG
    go_wp2_with (first
      | (refine wpList_load_mach rfl _ rfl s x m rfl HX.out ?_)
      | (go_at_call 27; refine HGR.out.mono ?_; rintro e w2 ⟨rfl, hb2⟩; have HB2 := Lib.hid hb2; clear hb2)
      | (go_at_call 10; refine (HAW.out _ HB2.out).mono ?_; rintro e w3 ⟨rfl, hb3⟩; have HB3 := Lib.hid (HB2.out.trans (hb3.mono HB2.out.size)); clear hb3))
    go_ret
    exact ⟨rfl, (HK.out _ HB3.out).2.2.2⟩
  | false =>
    obtain ⟨hf, h60⟩ := HBG.out hb
    have HF := Lib.hid hf
    have H60 := Lib.hid h60
    rw [hb] at HGR
    clear hb HBG hf h60
    by_cases hl : 100 < a.size
    · have d1 : decide ((100 : Int) < (a.size : Int)) = true := decide_eq_true (by omega)
      have e1 : decide (100 < a.size) = true := decide_eq_true hl
      clear hl
      go_wp2_with (first
        | (refine wpList_load_mach rfl _ rfl s x m rfl HX.out ?_)
        | (go_at_call 27; refine HGR.out.mono ?_; rintro e w2 ⟨rfl, hb2⟩; have HB2 := Lib.hid hb2; clear hb2)
        | (go_at_call 10; refine (HAW.out _ HB2.out).mono ?_; rintro e w3 ⟨rfl, hb3⟩; have HB3 := Lib.hid (HB2.out.trans (hb3.mono HB2.out.size)); clear hb3))
      go_ret
      exact ⟨rfl, (HK.out _ HB3.out).2.2.2⟩
    · have d1 : decide ((100 : Int) < (a.size : Int)) = false := decide_eq_false (by omega)
      have e1 : decide (100 < a.size) = false := decide_eq_false hl
      have HL := Lib.hid hl
      clear hl
      have HPA := Lib.hid (fun W (hW : Below w1.heap.size w1 W) => path_any x m W (HK.out W hW).2.1 HF.out (HK.out W hW).2.2.1)
      go_upto_region 4 with (first
        | (refine wpList_load_mach rfl _ rfl s x m rfl HX.out ?_)
        | (go_at_call 27; refine HGR.out.mono ?_; rintro e w3 ⟨rfl, hb3⟩; have HB3 := Lib.hid hb3; clear hb3)
        | (refine wpList_load_mach rfl _ rfl s x m rfl (HK.out _ HB3.out).1 ?_)
        | (go_at_call 19; refine (HPA.out _ HB3.out).mono ?_; rintro e w4 ⟨⟨v, ok, rfl, hw⟩, hb4⟩; have HWI := Lib.hid hw; have HB4 := Lib.hid (HB3.out.trans (hb4.mono HB3.out.size)); clear hw hb4))
      have HRU := Lib.hid (fun W (hW : Below w1.heap.size w1 W) => nrun_any x m a W (HK.out W hW).2.1 HF.out (by have := HL.out; omega) (HK.out W hW).2.2.1)
      clear d1 e1 HPA HGR
      rcases HWI.out with ⟨rfl, htv, hlen, hbest⟩ | ⟨rfl, rfl, hno⟩
      · have hlen' : v.size ≤ m.sp.length := by rw [Nf.bs_len] at hlen; exact hlen
        have HRV := Lib.hid (fun W (hW : Below w1.heap.size w1 W) => nrun_any x m v W (HK.out W hW).2.1 HF.out (by have := H60.out; omega) (HK.out W hW).2.2.1)
        rw [htv] at HRV
        have d2 : decide ((v.size : Int) ≤ (m.sp.length : Int)) = true := decide_eq_true (by omega)
        have e2 : decide (v.size ≤ m.sp.length) = true := decide_eq_true hlen'
        have HLS := Lib.hid (fun W => less_any a v W)
        have HC := Lib.hid (fun W (hW : Below w1.heap.size w1 W) => (HK.out W hW).1.c0)
        have HTL : Hid (takesM m (Nf.bs a) = true → ls (Nf.bs a) (Nf.bs v) = false) := Lib.hid (fun ht => hbest _ ht)
        clear hbest hlen htv hlen'
        cases hta : takesM m (Nf.bs a) with
        | true =>
          rw [hta] at HRU
          have hlv := HTL.out hta
          rw [hlv] at HLS
          clear hta hlv HTL
          go_wp2_with (first
            | (refine wpList_load_mach rfl _ rfl s x m rfl (HK.out _ HB4.out).1 ?_)
            | (go_at_call 28; with_reducible refine (HRV.out _ HB4.out).mono ?_; rintro e w5 ⟨rfl, hb5⟩; have HB5 := Lib.hid (HB4.out.trans (hb5.mono HB4.out.size)); have c0 := HC.out _ HB5.out; clear hb5)
            | (refine BigFrame.wpList_want rfl (fun K' hK' => ?_); refine wp_load_mach _ rfl s x m rfl (HK.out _ HB5.out).1 ?_; refine hK' _ _ ?_; clear hK' K')
            | (go_at_call 28; with_reducible refine (HRU.out _ HB5.out).mono ?_; rintro e w6 ⟨rfl, hb6⟩; have HB6 := Lib.hid (HB5.out.trans (hb6.mono HB5.out.size)); clear hb6)
            | (go_at_call 11; refine (HLS.out _).mono ?_; rintro e w7 ⟨rfl, rfl⟩)
            | (go_at_call 10; refine (HAW.out _ HB6.out).mono ?_; rintro e w8 ⟨rfl, hb8⟩; have HB8 := Lib.hid (HB6.out.trans (hb8.mono HB6.out.size)); clear hb8))
          go_ret
          exact ⟨rfl, (HK.out _ HB8.out).2.2.2⟩
        | false =>
          rw [hta] at HRU
          clear hta HTL HLS
          go_wp2_with (first
            | (refine wpList_load_mach rfl _ rfl s x m rfl (HK.out _ HB4.out).1 ?_)
            | (go_at_call 28; with_reducible refine (HRV.out _ HB4.out).mono ?_; rintro e w5 ⟨rfl, hb5⟩; have HB5 := Lib.hid (HB4.out.trans (hb5.mono HB4.out.size)); have c0 := HC.out _ HB5.out; clear hb5)
            | (refine BigFrame.wpList_want rfl (fun K' hK' => ?_); refine wp_load_mach _ rfl s x m rfl (HK.out _ HB5.out).1 ?_; refine hK' _ _ ?_; clear hK' K')
            | (go_at_call 28; with_reducible refine (HRU.out _ HB5.out).mono ?_; rintro e w6 ⟨rfl, hb6⟩; have HB6 := Lib.hid (HB5.out.trans (hb6.mono HB5.out.size)); clear hb6)
            | (go_at_call 10; refine (HAW.out _ HB6.out).mono ?_; rintro e w8 ⟨rfl, hb8⟩; have HB8 := Lib.hid (HB6.out.trans (hb8.mono HB6.out.size)); clear hb8))
          go_ret
          exact ⟨rfl, (HK.out _ HB8.out).2.2.2⟩
      · have hta := hno (Nf.bs a)
        rw [hta] at HRU
        clear hta hno
        go_wp2_with (first
          | (refine BigFrame.wpList_want rfl (fun K' hK' => ?_); refine wp_load_mach _ rfl s x m rfl (HK.out _ HB4.out).1 ?_; refine hK' _ _ ?_; clear hK' K')
          | (go_at_call 28; refine (HRU.out _ HB4.out).mono ?_; rintro e w6 ⟨rfl, hb6⟩; have HB6 := Lib.hid (HB4.out.trans (hb6.mono HB4.out.size)); clear hb6)
          | (go_at_call 10; refine (HAW.out _ HB6.out).mono ?_; rintro e w8 ⟨rfl, hb8⟩; have HB8 := Lib.hid (HB6.out.trans (hb8.mono HB6.out.size)); clear hb8))
        go_ret
        exact ⟨rfl, (HK.out _ HB8.out).2.2.2⟩
end Sk
end Go.Proofs.YtmjjkamndlefmaaDoor
namespace Go.Proofs.YtmjjkamndlefmaaDoor
open Go.RowKit Sets Nf Df Cls DfK DfR
namespace Sk
def RPas : Nat → Nat
  | 0 => 19
  | 1 => 20
  | 2 => 21
  | 3 => 22
  | 4 => 23
  | 5 => 18
  | 6 => 24
  | 7 => 25
  | 8 => 5
  | _ => 1000
set_option maxHeartbeats 12800000 in
set_option maxRecDepth 100000 in
theorem spaths_any (x : Ma) (m : Mc) (w : World) (u : UnM w x m) (hT : Tab w) : Calls Tryd.prog 4 #[.agg (mc x m)] w fun e w' => e = .returned (.bool true) ∧ Below w.heap.size w w' := by
  have HG : Hid (0 < w.heap.size) := Lib.hid (World.block_lt_of_cell? _ _ (hT 0 (by decide)))
  have HU := Lib.hid u
  have HT := Lib.hid hT
  clear u hT
  go_enter Tryd.func4, Tryd.ntmps4
  go_upto_region 1 with fail
  have HX := Lib.hid (BoxM.new w x m)
  have HB := Lib.hid ((Below.refl w.heap.size w).alloc (Nat.le_refl _) (.cells (mc x m) 43))
  obtain ⟨s, hs⟩ : ∃ s, Hid (w.heap.size = s) := ⟨_, Lib.hid rfl⟩
  rw [hs.out] at HX ⊢
  generalize w.alloc (.cells (mc x m) 43) = w1 at *
  have HK : Hid (∀ W, Below w1.heap.size w1 W → BoxM W s x m ∧ MAt W x m ∧ Tab W ∧ Below w.heap.size w W ∧ 0 < W.heap.size) := Lib.hid (fun W hW => by
    have h1 := HB.out.trans (hW.mono HB.out.size)
    exact ⟨HX.out.kept hW HX.out.lt, HU.out.1.kept h1, HT.out.below h1 HG.out, h1, Nat.lt_of_lt_of_le HG.out h1.size⟩)
  have HAW := Lib.hid (fun W (hW : Below w1.heap.size w1 W) => awake13_any W (HK.out W hW).2.2.1)
  have HGR := Lib.hid (small_any x m w1 (HK.out _ (Below.refl _ _)).2.1.fo)
  have HBG : Hid (bigM m = false → Fine m ∧ m.sp.length ≤ 8) := Lib.hid (fun h => small_fine HU.out h)
  clear HU HT
  cases hb : bigM m with
  | true =>
    rw [hb] at HGR
    clear hb HBG
    go_wp2_with (first
      | (refine wpList_load_mach rfl _ rfl s x m rfl HX.out ?_)
      | (go_at_call 18; refine HGR.out.mono ?_; rintro e w2 ⟨rfl, hb2⟩; have HB2 := Lib.hid hb2; clear hb2)
      | (go_at_call 10; refine (HAW.out _ HB2.out).mono ?_; rintro e w3 ⟨rfl, hb3⟩; have HB3 := Lib.hid (HB2.out.trans (hb3.mono HB2.out.size)); clear hb3))
    go_ret
    exact ⟨rfl, (HK.out _ HB3.out).2.2.2.1⟩
  | false =>
    obtain ⟨hf, h8⟩ := HBG.out hb
    have HF := Lib.hid hf
    have H8 := Lib.hid h8
    rw [hb] at HGR
    clear hb HBG hf h8
    have HPA := Lib.hid (fun W (hW : Below w1.heap.size w1 W) => path_any x m W (HK.out W hW).2.1 HF.out (HK.out W hW).2.2.1)
    have HRU := Lib.hid (fun W (hW : Below w1.heap.size w1 W) => nright_any x m W (HK.out W hW).2.1 HF.out)
    go_upto_region 4 with (first
      | (refine wpList_load_mach rfl _ rfl s x m rfl HX.out ?_)
      | (go_at_call 18; refine HGR.out.mono ?_; rintro e w3 ⟨rfl, hb3⟩; have HB3 := Lib.hid hb3; clear hb3)
      | (refine wpList_load_mach rfl _ rfl s x m rfl (HK.out _ HB3.out).1 ?_)
      | (go_at_call 19; refine (HPA.out _ HB3.out).mono ?_; rintro e w4 ⟨⟨v, ok, rfl, hw⟩, hb4⟩; have HWI := Lib.hid hw; have HB4 := Lib.hid (HB3.out.trans (hb4.mono HB3.out.size)); clear hw hb4))
    clear HPA HGR
    have hvv : (v.toList == v.toList) = true := beq_self_eq_true _
    have HKB : Hid (∀ W, Below w4.heap.size w4 W → Below w1.heap.size w1 W) := Lib.hid (fun W hW => HB4.out.trans (hW.mono HB4.out.size))
    have HXB : Hid (∀ W, Below w4.heap.size w4 W → BoxM W s x m ∧ MAt W x m ∧ Tab W ∧ 0 < W.heap.size) := Lib.hid (fun W hW => by
      obtain ⟨h1, h2, h3, -, h5⟩ := HK.out W (HKB.out W hW)
      exact ⟨h1, h2, h3, h5⟩)
    refine Rinv.region_inv4 (IB w4 x m) 10 RPas (by kernel_rfl) (by kernel_rfl) ?_ ?_ ?_ ?_
    · intro j hj
      have : j = 0 ∨ j = 1 ∨ j = 2 ∨ j = 3 ∨ j = 4 ∨ j = 5 ∨ j = 6 ∨ j = 7 ∨ j = 8 ∨ j = 9 := by omega
      rcases this with rfl | rfl | rfl | rfl | rfl | rfl | rfl | rfl | rfl | rfl
      iterate 9 exact .inl rfl
      exact .inr (Nat.le_of_ble_eq_true rfl)
    · intro L X hL
      exact IB.zero w4 x m L X (fun j hj => hL j hj)
    · intro i hi L X w' hLi hdep hI K hK
      have HK := Lib.hid hK
      have HI := Lib.hid hI
      have HLI := Lib.hid hLi
      have HXW := Lib.hid (HXB.out _ hI.bel)
      have hi' : i = 0 ∨ i = 1 ∨ i = 2 ∨ i = 3 ∨ i = 4 ∨ i = 5 ∨ i = 6 ∨ i = 7 ∨ i = 8 ∨ i = 9 := by omega
      clear hK hI hLi
      rcases hi' with rfl | rfl | rfl | rfl | rfl | rfl | rfl | rfl | rfl | rfl
      · simp only [List.getD_cons_zero]
        clear hdep
        simp only [Rinv.putAll, RPas, Act.put, List.setIfInBounds_toArray, List.set_cons_zero, List.set_cons_succ, List.set_nil]
        go_wp2_with (refine wpList_load_mach rfl _ rfl s x m rfl HXW.out.1 ?_)
        exact HK.out _ _ (.agg (mc x m)) (by simp only [Rinv.putAll, RPas, Act.put, List.setIfInBounds_toArray, List.set_cons_zero, List.set_cons_succ, List.set_nil]) (HI.out.s0)
      · simp only [List.getD_cons_zero, List.getD_cons_succ]
        clear hdep
        simp only [Rinv.putAll, RPas, Act.put, List.setIfInBounds_toArray, List.set_cons_zero, List.set_cons_succ, List.set_nil]
        go_wp2_with (refine wpList_load_mach rfl _ rfl s x m rfl HXW.out.1 ?_)
        exact HK.out _ _ (.agg (mc x m)) (by simp only [Rinv.putAll, RPas, Act.put, List.setIfInBounds_toArray, List.set_cons_zero, List.set_cons_succ, List.set_nil]) (HI.out.s1)
      · simp only [List.getD_cons_zero, List.getD_cons_succ]
        have e1 := HI.out.b (hdep 1 (by decide) (by unfold Rinv.waits; kernel_rfl))
        have HSE := Lib.hid (nsets_any x m w' HXW.out.2.1 HF.out)
        clear hdep
        simp only [Rinv.putAll, RPas, Act.put, List.setIfInBounds_toArray, List.set_cons_zero, List.set_cons_succ, List.set_nil, e1]
        go_wp2_with (go_at_call 22; refine HSE.out.mono ?_; rintro e w4 ⟨a4, c4, rfl, ho4, hb4⟩; have HO4 := Lib.hid ho4; have HB4 := Lib.hid hb4; clear ho4 hb4)
        exact HK.out _ _ (.slice a4 (stTo m m.sp.length).length c4) (by simp only [Rinv.putAll, RPas, Act.put, List.setIfInBounds_toArray, List.set_cons_zero, List.set_cons_succ, List.set_nil, e1]) (HI.out.s2 HLI.out HB4.out (owns_setsIn HO4.out (by have := stTo_len m m.sp.length; have := H8.out; unfold maxLen; omega)))
      · simp only [List.getD_cons_zero, List.getD_cons_succ]
        have h2 := hdep 2 (by decide) (by unfold Rinv.waits; kernel_rfl)
        have H2 := Lib.hid h2
        have HSI := Lib.hid (HI.out.c h2 HLI.out)
        clear h2
        generalize hv2 : X 2 = v2 at HSI
        have HRE := Lib.hid (Refine_any v2 _ w' HSI.out (by have := stTo_len m m.sp.length; have := H8.out; omega))
        clear hdep
        simp only [Rinv.putAll, RPas, Act.put, List.setIfInBounds_toArray, List.set_cons_zero, List.set_cons_succ, List.set_nil, hv2]
        go_wp2_with (go_at_call 21; refine HRE.out.mono ?_; rintro e w4 ⟨rfl, hb4⟩; have HB4 := Lib.hid hb4; clear hb4)
        exact HK.out _ _ (.agg (partC (clM m) (ncM m : Nat))) (by simp only [Rinv.putAll, RPas, Act.put, List.setIfInBounds_toArray, List.set_cons_zero, List.set_cons_succ, List.set_nil, hv2]) (HI.out.s3 H2.out HLI.out HB4.out)
      · simp only [List.getD_cons_zero, List.getD_cons_succ]
        have e0 := HI.out.a (hdep 0 (by decide) (by unfold Rinv.waits; kernel_rfl))
        have h3 := hdep 3 (by decide) (by unfold Rinv.waits; kernel_rfl)
        have H3 := Lib.hid h3
        have e3 := HI.out.d h3
        clear h3
        have HBU := Lib.hid (mbuild_any x m w' HXW.out.2.1 HF.out (H8.out) HXW.out.2.2.1)
        clear hdep
        simp only [Rinv.putAll, RPas, Act.put, List.setIfInBounds_toArray, List.set_cons_zero, List.set_cons_succ, List.set_nil, e0, e3]
        go_wp2_with (go_at_call 20; refine HBU.out.mono ?_; rintro e w4 ⟨z, dd, rfl, hb4, hm4, hd4, hq4⟩; have HB4 := Lib.hid hb4; have HM4 := Lib.hid hm4; have HD4 := Lib.hid hd4; have HQ4 := Lib.hid hq4; clear hb4 hm4 hd4 hq4)
        exact HK.out _ _ (.tuple #[.agg (dvC z dd), .int .i64 (erM m)]) (by simp only [Rinv.putAll, RPas, Act.put, List.setIfInBounds_toArray, List.set_cons_zero, List.set_cons_succ, List.set_nil, e0, e3]) (HI.out.s4 H3.out HLI.out HB4.out HD4.out HM4.out HQ4.out)
      · simp only [List.getD_cons_zero, List.getD_cons_succ]
        have h4 := hdep 4 (by decide) (by unfold Rinv.waits; kernel_rfl)
        obtain ⟨z, dd, e4, -⟩ := HI.out.e h4
        have H4 := Lib.hid h4
        have E4 := Lib.hid e4
        clear h4
        clear hdep
        simp only [Rinv.putAll, RPas, Act.put, List.setIfInBounds_toArray, List.set_cons_zero, List.set_cons_succ, List.set_nil, e4]
        go_wp2_with fail
        exact HK.out _ _ (.tuple #[.agg (dvC z dd), .int .i64 (erM m)]) (by simp only [Rinv.putAll, RPas, Act.put, List.setIfInBounds_toArray, List.set_cons_zero, List.set_cons_succ, List.set_nil, e4]) (HI.out.s5 H4.out E4.out)
      · simp only [List.getD_cons_zero, List.getD_cons_succ]
        have h5 := hdep 5 (by decide) (by unfold Rinv.waits; kernel_rfl)
        have h4 := HI.out.c5 h5
        obtain ⟨z, dd, e4, -, -, e5, -⟩ := HI.out.e h4
        replace e5 := e5 h5
        have H4 := Lib.hid h4
        have E4 := Lib.hid e4
        clear h4 h5 e4
        clear hdep
        simp only [Rinv.putAll, RPas, Act.put, List.setIfInBounds_toArray, List.set_cons_zero, List.set_cons_succ, List.set_nil, e5]
        go_wp2_with fail
        exact HK.out _ _ (.agg (dvC z dd)) (by simp only [Rinv.putAll, RPas, Act.put, List.setIfInBounds_toArray, List.set_cons_zero, List.set_cons_succ, List.set_nil, e5]) (HI.out.s6 H4.out E4.out)
      · simp only [List.getD_cons_zero, List.getD_cons_succ]
        have h5 := hdep 5 (by decide) (by unfold Rinv.waits; kernel_rfl)
        have h4 := HI.out.c5 h5
        obtain ⟨z, dd, e4, -, -, e5, -⟩ := HI.out.e h4
        replace e5 := e5 h5
        have H4 := Lib.hid h4
        clear h4 h5 e4
        clear hdep
        simp only [Rinv.putAll, RPas, Act.put, List.setIfInBounds_toArray, List.set_cons_zero, List.set_cons_succ, List.set_nil, e5]
        go_wp2_with fail
        exact HK.out _ _ (.int .i64 (erM m)) (by simp only [Rinv.putAll, RPas, Act.put, List.setIfInBounds_toArray, List.set_cons_zero, List.set_cons_succ, List.set_nil, e5]) (HI.out.s7 H4.out)
      · simp only [List.getD_cons_zero, List.getD_cons_succ]
        have hz := zeroD
        clear hdep
        simp only [Rinv.putAll, RPas, Act.put, List.setIfInBounds_toArray, List.set_cons_zero, List.set_cons_succ, List.set_nil]
        go_wp2_with fail
        exact HK.out _ _ (.pointer (some ⟨w'.heap.size, 0, none⟩)) (by simp only [Rinv.putAll, RPas, Act.put, List.setIfInBounds_toArray, List.set_cons_zero, List.set_cons_succ, List.set_nil]) (HI.out.s8 HLI.out)
      · simp only [List.getD_cons_zero, List.getD_cons_succ]
        have h4 := hdep 4 (by decide) (by unfold Rinv.waits; kernel_rfl)
        have h6 := hdep 6 (by decide) (by unfold Rinv.waits; kernel_rfl)
        have h8 := hdep 8 (by decide) (by unfold Rinv.waits; kernel_rfl)
        obtain ⟨z, dd, e4, -, -, -, e6, -⟩ := HI.out.e h4
        replace e6 := e6 h6
        obtain ⟨q, e8, -, -, hr8⟩ := HI.out.f h8
        have HR8 := Lib.hid (hr8 HLI.out)
        have H4 := Lib.hid h4
        have H8 := Lib.hid h8
        have E4 := Lib.hid e4
        have E8 := Lib.hid e8
        clear h4 h6 h8 e4 hr8
        clear hdep
        simp only [Rinv.putAll, RPas, Act.put, List.setIfInBounds_toArray, List.set_cons_zero, List.set_cons_succ, List.set_nil, e6, e8]
        go_wp2_with (refine wpList_store_row rfl 28 (.tmp 5) (.tmp 24) rfl q (dvC z dd) rfl rfl 28 _ HR8.out (sizeDf _ _ _ _) (by unfold dvC; rw [dfC_size, dfC_size]) (oneDf _ _ _ _ _ _ _ _) ?_)
        exact HK.out _ _ (undef) (by simp only [Rinv.putAll, RPas, Act.put, List.setIfInBounds_toArray, List.set_cons_zero, List.set_cons_succ, List.set_nil, e6, e8]) (HI.out.s9 H4.out H8.out HLI.out undef E4.out E8.out)
    · intro L X w' hall hI K hK
      have HK := Lib.hid hK
      have HI := Lib.hid hI
      clear hK hI
      obtain ⟨z, dd, e4, hd, hm, e5, e6, e7, h8⟩ := HI.out.e (hall 4 (by decide))
      replace e5 := e5 (hall 5 (by decide))
      replace e6 := e6 (hall 6 (by decide))
      replace e7 := e7 (hall 7 (by decide))
      obtain ⟨q, e8, hq, hqs, -⟩ := HI.out.f (hall 8 (by decide))
      have HDD := Lib.hid hd
      have HBM := Lib.hid hm
      have HDR := Lib.hid ((h8 (hall 8 (by decide)) q e8).2 (hall 9 (by decide)))
      have HQ0 := Lib.hid hq
      have HBW := Lib.hid HI.out.bel
      have e0 := HI.out.a (hall 0 (by decide))
      have e1 := HI.out.b (hall 1 (by decide))
      have e3 := HI.out.d (hall 3 (by decide))
      clear hd hm h8 hq hqs HI hall
      simp only [List.getD_cons_zero, List.getD_cons_succ]
      simp only [Rinv.putAll, RPas, Act.put, List.setIfInBounds_toArray, List.set_cons_zero, List.set_cons_succ, List.set_nil, e0, e1, e3, e4, e5, e6, e7, e8]
      clear e0 e1 e3 e4 e5 e6 e7 e8
      go_wp2_with fail
      refine HK.out _ _ ?_
      clear HK
      generalize X 2 = y2 at *
      clear X
      have HKE : Hid (∀ W, Below w'.heap.size w' W → Below w1.heap.size w1 W ∧ DAt W z dd ∧ W.heap[q]? = some (.cells (dvC z dd) 28 (0, 0))) := Lib.hid (fun W hW => by
        have h1 := HBW.out.trans (hW.mono HBW.out.size)
        exact ⟨HKB.out W h1, HDD.out.kept hW, (hW.block q (Array.getElem?_eq_some_iff.1 HDR.out).1).trans HDR.out⟩)
      clear HXB HX HKB HDR HDD
      have HB0 := Lib.hid (Below.refl w'.heap.size w')
      cases hr : rightM m with
      | false =>
        have her : erM m = 1 := by unfold erM; rw [hr]; rfl
        rw [her]
        rw [hr] at HRU
        have hwi : ok = false ∧ v = ⟨#[]⟩ := by
          rcases HWI.out with ⟨-, h1, -⟩ | ⟨h1, h2, -⟩
          · rw [(right_iff m).2 ((takes_iff m _).1 h1).1] at hr; cases hr
          · exact ⟨h1, h2⟩
        obtain ⟨rfl, rfl⟩ := hwi
        clear hr hvv her HWI
        have hq1 : ((1 : Int) != 0) = true := rfl
        go_wp2_with (first
          | (refine BigFrame.wpList_want rfl (fun K' hK' => ?_); refine wp_load_mach _ rfl s x m rfl (HK.out _ (HKE.out _ HB0.out).1).1 ?_; refine hK' _ _ ?_; clear hK' K')
          | (go_at_call 23; refine (HRU.out _ (HKE.out _ HB0.out).1).mono ?_; rintro e w7 ⟨rfl, hb7⟩; have HB7 := Lib.hid (HB0.out.trans (hb7.mono HB0.out.size)); clear hb7)
          | (go_at_call 10; refine (HAW.out _ (HKE.out _ HB7.out).1).mono ?_; rintro e w9 ⟨rfl, hb9⟩; have HB9 := Lib.hid (HB7.out.trans (hb9.mono HB7.out.size)); clear hb9))
        go_ret
        exact ⟨rfl, (HK.out _ (HKE.out _ HB9.out).1).2.2.2.1⟩
      | true =>
        have her : erM m = 0 := by unfold erM; rw [hr]; rfl
        rw [her]
        have HBD := Lib.hid (HBM.out.yes hr)
        clear hr her HRU HBM
        have hq1 : ((0 : Int) != 0) = false := rfl
        have HGI := Lib.hid (fun W (hW : Below w'.heap.size w' W) => given13_any z dd (ncM m) W HBD.out.right HBD.out.n (HK.out W (HKE.out W hW).1).2.2.1)
        have HRW := Lib.hid (fun va vc W (hW : Below w'.heap.size w' W) (hv : BytesAt W (.slice va (ncM m) vc) (leads dd.of (ncM m))) => rword_any z dd (ncM m) va vc W (HKE.out W hW).2.1 HBD.out.right HBD.out.n hv (by have := HBD.out.few; omega))
        go_upto_region 8 with (first
          | (refine wpList_load_row rfl 28 _ rfl q rfl 28 (dvC z dd) (0, 0) _ (HKE.out _ HB0.out).2.2 Tryd.underlying28 rfl (sizeDf _ _ _ _) ?_)
          | (go_at_call 17; refine (HGI.out _ HB0.out).mono ?_; rintro e w8 ⟨va, vc, rfl, hv, hb8⟩; have HV8 := Lib.hid hv; have HB8 := Lib.hid (HB0.out.trans (hb8.mono HB0.out.size)); clear hv hb8)
          | (go_at_call 16; refine (HRW.out va vc _ HB8.out HV8.out).mono ?_; rintro e w9 ⟨⟨v2, ok2, rfl, hw2⟩, hb9⟩; have HWR := Lib.hid (hw2.word HBD.out.right); have HB9 := Lib.hid (HB8.out.trans (hb9.mono HB8.out.size)); clear hw2 hb9))
        obtain ⟨rfl, rfl⟩ := path_word HF.out HBD.out HWI.out HWR.out
        clear HGI HRW HWR HWI
        have hok : (ok == ok) = true := beq_self_eq_true _
        go_wp2_with (first
          | (go_at_call 10; refine (HAW.out _ (HKE.out _ HB9.out).1).mono ?_; rintro e w11 ⟨rfl, hb11⟩; have HB11 := Lib.hid (HB9.out.trans (hb11.mono HB9.out.size)); clear hb11))
        go_ret
        exact ⟨rfl, (HK.out _ (HKE.out _ HB11.out).1).2.2.2.1⟩
end Sk
end Go.Proofs.YtmjjkamndlefmaaDoor
namespace Go.Proofs.YtmjjkamndlefmaaDoor
open Go.ChangeShapes Go.WideShapes Go.ChangeAt Go.WideMaps Go.WideElems Go.RowKit
open Go.ChangeMaps (open_string shut_string)
namespace LawSPas
set_option maxRecDepth 100000 in
theorem lifted (os : Os) (started : os.Started) (H : Type) (enc : TypeId × Value → H) :
    ReturnsInHanded {} Tryd.checked os 4 .any (fun w args => (Rows.seekPathsSpec.pre enc Tryd.prog Tryd.f4 [] false w args ∧ laidMetH Tryd.prog laidT w) ∧ sizedMet enc Tryd.prog Tryd.f4 (OpenSpec.ofChange Rows.seekPathsSpec) false w args)
      (Rows.seekPathsSpec.post enc Tryd.prog Tryd.f4 false true false false) := by
  refine returnsInHanded_of_change_and (C := Tryd.checked) (X := fun w _ => laidMetH Tryd.prog laidT w) (fun _ _ _ hh h => h.of_heap hh) own started (by kernel_rfl) Tryd.func4
    (ChangeSpec.witness_shaped (enc := enc) (C := Tryd.checked) (os := os) (X := fun w _ => laidMetH Tryd.prog laidT w) false (World.laidAll Tryd.prog os laidT) #[.agg #[.slice none 0 0, .slice none 0 0, .slice none 0 0, .slice none 0 0, .bool false]] 8 (World.laidAll_os _ _ _) (World.shaped_of_ZipB (by kernel_rfl) (by kernel_rfl)) (by kernel_rfl) (by kernel_rfl) (by kernel_rfl)
      (by rw [MakeChecks.laidMetH_plain _ _ _ (by kernel_rfl)]; exact laidMet_laidAll _ (by kernel_rfl) (by kernel_rfl))) ?_
  intro W base args ds gs before hval0 hW _ _ hL _
  have hval : ∀ (j : Nat) t v, Tryd.f4.params[j]? = some t → args[j]? = some v → Value.okWide Tryd.prog W .any base t v := hval0
  have hW' := hW
  obtain ⟨p, q, hA0, hV, rfl, hfz, hnd⟩ := hW
  have hA : DataW.TrodAll enc Tryd.prog W 0 (fun _ => true) true Tryd.f4.params.toList args.toList ds p := hA0
  rw [Tryd.params4] at hA hval
  obtain ⟨v0, vs0, d0, ds0, p0, q0, hargs, rfl, rfl, h0, r0⟩ := trodAll_cons hA
  obtain ⟨rfl, rfl, rfl⟩ := trodAll_nil r0
  obtain rfl : args = #[v0] := by cases args; simp_all
  obtain ⟨rfl, rfl⟩ := trodVars_none hV
  obtain ⟨x0, m0, rfl, u0⟩ := Nf.open_mach (hval 0 _ v0 rfl rfl) h0
  have hT := of_laid hL
  refine (Sk.spaths_any x0 m0 W u0 hT).mono fun e W' ⟨he, hb⟩ => ?_
  subst he
  exact ⟨_, rfl, post_law hW' rfl laidOut (by kernel_rfl) (by kernel_rfl) Tryd.underlying4 rfl hb⟩
theorem law_holds : Rows.SeekPathsSaid :=
  OpenClaim.holds_of_wide 4 Tryd.f4 rfl rfl rfl rfl rfl rfl rfl ⟨rfl, rfl, rfl, rfl, rfl⟩ rfl rfl rfl rfl rfl (by kernel_rfl) Tryd.func4 (by kernel_rfl)
    (of_decide_eq_true (by kernel_rfl)) (by unfold Func.isWrapper; first | (rw [if_pos (by decide +kernel)]; kernel_rfl) | (rw [if_neg (by decide +kernel)]; exact ⟨rfl, rfl⟩))
    (fun os started H enc _ => lifted os started H enc)
theorem card_holds : Rows.SeekPathsCardSaid :=
  Claim7.holds_tied_plain_at .later [] [.data] true (true, "5ae6efb057a676888604708a25ee45a9dc5ee2ee62c2315df0fcae417ffdc528") false
    law_holds (fun _ h => by cases h) (by kernel_rfl) (fun _ h => by cases h) seekPaths_row_tie rfl ⟨rfl, rfl⟩ (by kernel_rfl) rfl
    (fun f fn hf hfn => by
      obtain rfl : f = 4 := Option.some.inj ((show Tryd.prog.funcNamed "shibboleth/shibbolethlaw13.SeekPaths" = some 4 by kernel_rfl).symm.trans hf) |>.symm
      obtain rfl : fn = Tryd.f4 := (Option.some.inj (Tryd.func4.symm.trans hfn)).symm
      exact ⟨by kernel_rfl, fun j t ht => by
        have hm := Array.mem_of_getElem? ht
        have hall : ((Tryd.f4.params).all fun u => !Tryd.prog.wantsStandIn u) = true := by kernel_rfl
        show Tryd.prog.wantsStandIn t = false
        simpa using Array.all_eq_true_iff_forall_mem.1 hall t hm⟩)
    (by kernel_rfl)
#print axioms card_holds
end LawSPas
end Go.Proofs.YtmjjkamndlefmaaDoor
