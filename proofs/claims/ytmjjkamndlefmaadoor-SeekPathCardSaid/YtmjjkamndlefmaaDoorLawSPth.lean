/- SeekPath holds: of any machine and any text the call answers true. No condition. -/
import Derived.Test.YtmjjkamndlefmaaDoorPqS6
import Derived.Test.YtmjjkamndlefmaaDoorPq43
import Derived.Test.YtmjjkamndlefmaaDoorPqS7
import Derived.Test.YtmjjkamndlefmaaDoorTie
import Derived.Test.YtmjjkamndlefmaaDoorCards
import Derived.SevenTiedAt
import Derived.Lay
import Derived.MakeChecks
import Derived.WalkKit
import Derived.ProofKit
import Derived.OpenShut
import Derived.ShutString
namespace Go.Proofs.YtmjjkamndlefmaaDoor
open Go.RowKit Sets Nf Df Cls
namespace Sk
set_option maxHeartbeats 12800000 in
set_option maxRecDepth 100000 in
theorem spath_any (x : Ma) (m : Mc) (a : ByteArray) (w : World) (u : UnM w x m) (hT : Tab w) : Calls Tryd.prog 7 #[.agg (mc x m), .string a] w fun e w' => e = .returned (.bool true) ∧ Below w.heap.size w w' := by
  have HG : Hid (0 < w.heap.size) := Lib.hid (World.block_lt_of_cell? _ _ (hT 0 (by decide)))
  have HU := Lib.hid u
  have HT := Lib.hid hT
  clear u hT
  go_enter Tryd.func7, Tryd.ntmps7
  go_upto_region 1 with fail
  have HX := Lib.hid (BoxM.new w x m)
  have HB := Lib.hid ((Below.refl w.heap.size w).alloc (Nat.le_refl _) (.cells (mc x m) 43))
  obtain ⟨s, hs⟩ : ∃ s, Hid (w.heap.size = s) := ⟨_, Lib.hid rfl⟩
  rw [hs.out] at HX ⊢
  generalize w.alloc (.cells (mc x m) 43) = w1 at *
  have HK : Hid (∀ W, Below w1.heap.size w1 W → BoxM W s x m ∧ MAt W x m ∧ Tab W ∧ Below w.heap.size w W) := Lib.hid (fun W hW => by
    have h1 := HB.out.trans (hW.mono HB.out.size)
    exact ⟨HX.out.kept hW HX.out.lt, HU.out.1.kept h1, HT.out.below h1 HG.out, h1⟩)
  have HAW := Lib.hid (fun W (hW : Below w1.heap.size w1 W) => awake13_any W (HK.out W hW).2.2.1)
  have HGR := Lib.hid (ngreat_any x m w1 (HK.out _ (Below.refl _ _)).2.1.fo)
  have HBG : Hid (greatM m = false → Fine m ∧ m.sp.length ≤ 60) := Lib.hid (fun h => ⟨HU.out.2 h, by
    unfold greatM at h
    rw [Bool.or_eq_false_iff, Bool.or_eq_false_iff, decide_eq_false_iff_not] at h
    omega⟩)
  clear HU HT
  cases hb : greatM m with
  | true =>
    rw [hb] at HGR
    clear hb HBG
    go_wp2_with (first
      | (refine wpList_load_mach rfl _ rfl s x m rfl HX.out ?_)
      | (go_at_call 27; refine HGR.out.mono ?_; rintro e w2 ⟨rfl, hb2⟩; have HB2 := Lib.hid hb2; clear hb2)
      | (go_at_call 10; refine (HAW.out _ HB2.out).mono ?_; rintro e w3 ⟨rfl, hb3⟩; have HB3 := Lib.hid (HB2.out.trans (hb3.mono HB2.out.size)); clear hb3))
    go_ret
    exact ⟨rfl, (HK.out _ HB3.out).2.2.2⟩
  | false =>
    obtain ⟨hf, h60⟩ := HBG.out hb
    have HF := Lib.hid hf
    have H60 := Lib.hid h60
    rw [hb] at HGR
    clear hb HBG hf h60
    by_cases hl : 100 < a.size
    · have d1 : decide ((100 : Int) < (a.size : Int)) = true := decide_eq_true (by omega)
      have e1 : decide (100 < a.size) = true := decide_eq_true hl
      clear hl
      go_wp2_with (first
        | (refine wpList_load_mach rfl _ rfl s x m rfl HX.out ?_)
        | (go_at_call 27; refine HGR.out.mono ?_; rintro e w2 ⟨rfl, hb2⟩; have HB2 := Lib.hid hb2; clear hb2)
        | (go_at_call 10; refine (HAW.out _ HB2.out).mono ?_; rintro e w3 ⟨rfl, hb3⟩; have HB3 := Lib.hid (HB2.out.trans (hb3.mono HB2.out.size)); clear hb3))
      go_ret
      exact ⟨rfl, (HK.out _ HB3.out).2.2.2⟩
    · have d1 : decide ((100 : Int) < (a.size : Int)) = false := decide_eq_false (by omega)
      have e1 : decide (100 < a.size) = false := decide_eq_false hl
      have HL := Lib.hid hl
      clear hl
      have HPA := Lib.hid (fun W (hW : Below w1.heap.size w1 W) => path_any x m W (HK.out W hW).2.1 HF.out (HK.out W hW).2.2.1)
      go_upto_region 4 with (first
        | (refine wpList_load_mach rfl _ rfl s x m rfl HX.out ?_)
        | (go_at_call 27; refine HGR.out.mono ?_; rintro e w3 ⟨rfl, hb3⟩; have HB3 := Lib.hid hb3; clear hb3)
        | (refine wpList_load_mach rfl _ rfl s x m rfl (HK.out _ HB3.out).1 ?_)
        | (go_at_call 19; refine (HPA.out _ HB3.out).mono ?_; rintro e w4 ⟨⟨v, ok, rfl, hw⟩, hb4⟩; have HWI := Lib.hid hw; have HB4 := Lib.hid (HB3.out.trans (hb4.mono HB3.out.size)); clear hw hb4))
      have HRU := Lib.hid (fun W (hW : Below w1.heap.size w1 W) => nrun_any x m a W (HK.out W hW).2.1 HF.out (by have := HL.out; omega) (HK.out W hW).2.2.1)
      clear d1 e1 HPA HGR
      rcases HWI.out with ⟨rfl, htv, hlen, hbest⟩ | ⟨rfl, rfl, hno⟩
      · have hlen' : v.size ≤ m.sp.length := by rw [Nf.bs_len] at hlen; exact hlen
        have HRV := Lib.hid (fun W (hW : Below w1.heap.size w1 W) => nrun_any x m v W (HK.out W hW).2.1 HF.out (by have := H60.out; omega) (HK.out W hW).2.2.1)
        rw [htv] at HRV
        have d2 : decide ((v.size : Int) ≤ (m.sp.length : Int)) = true := decide_eq_true (by omega)
        have e2 : decide (v.size ≤ m.sp.length) = true := decide_eq_true hlen'
        have HLS := Lib.hid (fun W => less_any a v W)
        have HC := Lib.hid (fun W (hW : Below w1.heap.size w1 W) => (HK.out W hW).1.c0)
        have HTL : Hid (takesM m (Nf.bs a) = true → ls (Nf.bs a) (Nf.bs v) = false) := Lib.hid (fun ht => hbest _ ht)
        clear hbest hlen htv hlen'
        cases hta : takesM m (Nf.bs a) with
        | true =>
          rw [hta] at HRU
          have hlv := HTL.out hta
          rw [hlv] at HLS
          clear hta hlv HTL
          go_wp2_with (first
            | (refine wpList_load_mach rfl _ rfl s x m rfl (HK.out _ HB4.out).1 ?_)
            | (go_at_call 28; with_reducible refine (HRV.out _ HB4.out).mono ?_; rintro e w5 ⟨rfl, hb5⟩; have HB5 := Lib.hid (HB4.out.trans (hb5.mono HB4.out.size)); have c0 := HC.out _ HB5.out; clear hb5)
            | (refine BigFrame.wpList_want rfl (fun K' hK' => ?_); refine wp_load_mach _ rfl s x m rfl (HK.out _ HB5.out).1 ?_; refine hK' _ _ ?_; clear hK' K')
            | (go_at_call 28; with_reducible refine (HRU.out _ HB5.out).mono ?_; rintro e w6 ⟨rfl, hb6⟩; have HB6 := Lib.hid (HB5.out.trans (hb6.mono HB5.out.size)); clear hb6)
            | (go_at_call 11; refine (HLS.out _).mono ?_; rintro e w7 ⟨rfl, rfl⟩)
            | (go_at_call 10; refine (HAW.out _ HB6.out).mono ?_; rintro e w8 ⟨rfl, hb8⟩; have HB8 := Lib.hid (HB6.out.trans (hb8.mono HB6.out.size)); clear hb8))
          go_ret
          exact ⟨rfl, (HK.out _ HB8.out).2.2.2⟩
        | false =>
          rw [hta] at HRU
          clear hta HTL HLS
          go_wp2_with (first
            | (refine wpList_load_mach rfl _ rfl s x m rfl (HK.out _ HB4.out).1 ?_)
            | (go_at_call 28; with_reducible refine (HRV.out _ HB4.out).mono ?_; rintro e w5 ⟨rfl, hb5⟩; have HB5 := Lib.hid (HB4.out.trans (hb5.mono HB4.out.size)); have c0 := HC.out _ HB5.out; clear hb5)
            | (refine BigFrame.wpList_want rfl (fun K' hK' => ?_); refine wp_load_mach _ rfl s x m rfl (HK.out _ HB5.out).1 ?_; refine hK' _ _ ?_; clear hK' K')
            | (go_at_call 28; with_reducible refine (HRU.out _ HB5.out).mono ?_; rintro e w6 ⟨rfl, hb6⟩; have HB6 := Lib.hid (HB5.out.trans (hb6.mono HB5.out.size)); clear hb6)
            | (go_at_call 10; refine (HAW.out _ HB6.out).mono ?_; rintro e w8 ⟨rfl, hb8⟩; have HB8 := Lib.hid (HB6.out.trans (hb8.mono HB6.out.size)); clear hb8))
          go_ret
          exact ⟨rfl, (HK.out _ HB8.out).2.2.2⟩
      · have hta := hno (Nf.bs a)
        rw [hta] at HRU
        clear hta hno
        go_wp2_with (first
          | (refine BigFrame.wpList_want rfl (fun K' hK' => ?_); refine wp_load_mach _ rfl s x m rfl (HK.out _ HB4.out).1 ?_; refine hK' _ _ ?_; clear hK' K')
          | (go_at_call 28; refine (HRU.out _ HB4.out).mono ?_; rintro e w6 ⟨rfl, hb6⟩; have HB6 := Lib.hid (HB4.out.trans (hb6.mono HB4.out.size)); clear hb6)
          | (go_at_call 10; refine (HAW.out _ HB6.out).mono ?_; rintro e w8 ⟨rfl, hb8⟩; have HB8 := Lib.hid (HB6.out.trans (hb8.mono HB6.out.size)); clear hb8))
        go_ret
        exact ⟨rfl, (HK.out _ HB8.out).2.2.2⟩
end Sk
end Go.Proofs.YtmjjkamndlefmaaDoor
namespace Go.Proofs.YtmjjkamndlefmaaDoor
open Go.ChangeShapes Go.WideShapes Go.ChangeAt Go.WideMaps Go.WideElems Go.RowKit
open Go.ChangeMaps (open_string shut_string)
namespace LawSPth
set_option maxRecDepth 100000 in
theorem lifted (os : Os) (started : os.Started) (H : Type) (enc : TypeId × Value → H) :
    ReturnsInHanded {} Tryd.checked os 7 .any (fun w args => (Rows.seekPathSpec.pre enc Tryd.prog Tryd.f7 [] false w args ∧ laidMetH Tryd.prog laidT w) ∧ sizedMet enc Tryd.prog Tryd.f7 (OpenSpec.ofChange Rows.seekPathSpec) false w args)
      (Rows.seekPathSpec.post enc Tryd.prog Tryd.f7 false true false false) := by
  refine returnsInHanded_of_change_and (C := Tryd.checked) (X := fun w _ => laidMetH Tryd.prog laidT w) (fun _ _ _ hh h => h.of_heap hh) own started (by kernel_rfl) Tryd.func7
    (ChangeSpec.witness_shaped (enc := enc) (C := Tryd.checked) (os := os) (X := fun w _ => laidMetH Tryd.prog laidT w) false (World.laidAll Tryd.prog os laidT) #[.agg #[.slice none 0 0, .slice none 0 0, .slice none 0 0, .slice none 0 0, .bool false], .string ByteArray.empty] 8 (World.laidAll_os _ _ _) (World.shaped_of_ZipB (by kernel_rfl) (by kernel_rfl)) (by kernel_rfl) (by kernel_rfl) (by kernel_rfl)
      (by rw [MakeChecks.laidMetH_plain _ _ _ (by kernel_rfl)]; exact laidMet_laidAll _ (by kernel_rfl) (by kernel_rfl))) ?_
  intro W base args ds gs before hval0 hW _ _ hL _
  have hval : ∀ (j : Nat) t v, Tryd.f7.params[j]? = some t → args[j]? = some v → Value.okWide Tryd.prog W .any base t v := hval0
  have hW' := hW
  obtain ⟨p, q, hA0, hV, rfl, hfz, hnd⟩ := hW
  have hA : DataW.TrodAll enc Tryd.prog W 0 (fun _ => true) true Tryd.f7.params.toList args.toList ds p := hA0
  rw [Tryd.params7] at hA hval
  obtain ⟨v0, vs0, d0, ds0, p0, q0, hargs, rfl, rfl, h0, r0⟩ := trodAll_cons hA
  obtain ⟨v1, vs1, d1, ds1, p1, q1, rfl, rfl, rfl, h1, r1⟩ := trodAll_cons r0
  obtain ⟨rfl, rfl, rfl⟩ := trodAll_nil r1
  obtain rfl : args = #[v0, v1] := by cases args; simp_all
  obtain ⟨rfl, rfl⟩ := trodVars_none hV
  obtain ⟨x0, m0, rfl, u0⟩ := Nf.open_mach (hval 0 _ v0 rfl rfl) h0
  obtain ⟨s1, rfl, -, -, w1⟩ := open_string Tryd.underlying9 (hval 1 _ v1 rfl rfl) h1
  have hT := of_laid hL
  refine (Sk.spath_any x0 m0 s1 W u0 hT).mono fun e W' ⟨he, hb⟩ => ?_
  subst he
  exact ⟨_, rfl, post_law hW' rfl laidOut (by kernel_rfl) (by kernel_rfl) Tryd.underlying4 rfl hb⟩
theorem law_holds : Rows.SeekPathSaid :=
  OpenClaim.holds_of_wide 7 Tryd.f7 rfl rfl rfl rfl rfl rfl rfl ⟨rfl, rfl, rfl, rfl, rfl⟩ rfl rfl rfl rfl rfl (by kernel_rfl) Tryd.func7 (by kernel_rfl)
    (of_decide_eq_true (by kernel_rfl)) (by unfold Func.isWrapper; first | (rw [if_pos (by decide +kernel)]; kernel_rfl) | (rw [if_neg (by decide +kernel)]; exact ⟨rfl, rfl⟩))
    (fun os started H enc _ => lifted os started H enc)
theorem card_holds : Rows.SeekPathCardSaid :=
  Claim7.holds_tied_plain_at .later [] [.data] true (true, "5ae6efb057a676888604708a25ee45a9dc5ee2ee62c2315df0fcae417ffdc528") false
    law_holds (fun _ h => by cases h) (by kernel_rfl) (fun _ h => by cases h) seekPath_row_tie rfl ⟨rfl, rfl⟩ (by kernel_rfl) rfl
    (fun f fn hf hfn => by
      obtain rfl : f = 7 := Option.some.inj ((show Tryd.prog.funcNamed "shibboleth/shibbolethlaw13.SeekPath" = some 7 by kernel_rfl).symm.trans hf) |>.symm
      obtain rfl : fn = Tryd.f7 := (Option.some.inj (Tryd.func7.symm.trans hfn)).symm
      exact ⟨by kernel_rfl, fun j t ht => by
        have hm := Array.mem_of_getElem? ht
        have hall : ((Tryd.f7.params).all fun u => !Tryd.prog.wantsStandIn u) = true := by kernel_rfl
        show Tryd.prog.wantsStandIn t = false
        simpa using Array.all_eq_true_iff_forall_mem.1 hall t hm⟩)
    (by kernel_rfl)
#print axioms card_holds
end LawSPth
end Go.Proofs.YtmjjkamndlefmaaDoor
