/- goes. -/
import Derived.Test.YtkpdggemhjhnbaaDoorNgB
namespace Go.Proofs.YtkpdggemhjhnbaaDoor
open Go.RowKit Sets Nf
namespace Nf
/-- in a machine all of whose spots are full and go on to a last one: from i a text that ends well -/
theorem caps_of {B : Nat} {w : World} {a : Option Addr} {n c size : Nat} {e : TypeId} {xs : List Value} (h : w.ownsRow B e size (.slice a n c) n xs) : a = none → c = 0 := fun ha => by
  rcases h.2 with ⟨h1, -⟩ | ⟨g, cap, cur, h1, -⟩
  · injection h1
  · injection h1 with h1; rw [ha] at h1; cases h1
/-- each list's slice, where it is nil, has no room -/
def CapsIn (w : World) (a : Option Addr) (L : List (List Int)) : Prop := ∀ i, i < L.length → ∃ b o x c, a = some ⟨b, o, none⟩ ∧ w.cell? ⟨b, o + i, none⟩ = some (.slice x (L.getD i []).length c) ∧ (x = none → c = 0) ∧ NumsIn w x (L.getD i [])
theorem CapsIn.kept {w w' : World} {a : Option Addr} {L : List (List Int)} (h : CapsIn w a L) (hb : Below w.heap.size w w') : CapsIn w' a L := fun i hi => by
  obtain ⟨b, o, x, c, e, hc, hx, hn⟩ := h i hi
  exact ⟨b, o, x, c, e, (hb.cell (World.block_lt_of_cell? _ _ hc)).trans hc, hx, hn.kept hb⟩
theorem OwnM.caps {B : Nat} {w : World} {x : Ma} {m : Mc} (h : OwnM B w x m) : CapsIn w x.oa m.fo := fun i hi => by
  obtain ⟨vs, hl, hv, he⟩ := h.fo
  obtain ⟨g, hg⟩ := own_addr hv (by omega)
  rw [hg] at hv
  have h1 := he i hi
  obtain ⟨a, c, e, hn⟩ := h1.nums
  refine ⟨g, 0, a, c, hg, ?_, ?_, hn⟩
  · rw [Nat.zero_add, World.ownsRow.cellAt hv i (by omega), ← e, List.getD_eq_getElem?_getD, List.getElem?_eq_getElem (by omega)]; rfl
  · rw [e] at h1
    exact caps_of h1
set_option maxHeartbeats 12800000 in
set_option maxRecDepth 100000 in
theorem goes_any (x : Ma) (m : Mc) (w : World) (h : MAt w x m) (hca : CapsIn w x.oa m.fo) (hf : Fine m) (hr : Rt m) (hfull : ∀ k, k < m.sp.length → stN m k ≠ 0) (i : Nat) (hi : i < m.sp.length) (hg : Gg m i) (hT : Tab w) :
    Calls Tryd.prog 24 #[.agg (mc x m), .int .i64 i] w fun e w' => (∃ s, e = .returned (.tuple #[.string s, .bool true]) ∧ Gs m i (bs s) ∧ s.size ≤ m.sp.length) ∧ Below w.heap.size w w' := by
  have HG : Hid (0 < w.heap.size) := Lib.hid (World.block_lt_of_cell? _ _ (hT 0 (by decide)))
  have HF := Lib.hid hf
  have HRT := Lib.hid hr
  have HFU := Lib.hid hfull
  have HIN := Lib.hid hi
  have HGG := Lib.hid (gg_rch hg)
  have HT0 := Lib.hid hT
  have HM0 := Lib.hid h
  have HCA0 := Lib.hid hca
  have hil : (i : Int) < (m.la.length : Int) := by have := hr.lal; omega
  have hif : (i : Int) < (m.fo.length : Int) := by have := hr.fol; omega
  clear h hca hf hr hfull hi hg hT
  go_enter Tryd.func24, Tryd.ntmps24
  go_upto_region 1 with fail
  have HX := Lib.hid (BoxM.new w x m)
  have hb0 := (Below.refl w.heap.size w).alloc (Nat.le_refl _) (.cells (mc x m) 27)
  have HM := Lib.hid (HM0.out.kept hb0)
  have HCA := Lib.hid (HCA0.out.kept hb0)
  obtain ⟨s, hs⟩ : ∃ s, Hid (w.heap.size = s) := ⟨_, Lib.hid rfl⟩
  have HB : Hid (Below s w (w.alloc (.cells (mc x m) 27))) := Lib.hid (by rw [← hs.out]; exact hb0)
  rw [hs.out] at HX HG ⊢
  clear hb0
  generalize w.alloc (.cells (mc x m) 27) = w1 at *
  have HXL := Lib.hid HX.out.lt
  obtain ⟨b, o, hla, hc⟩ := HM.out.la i (by omega)
  have c3 := HX.out.c3
  rw [hla] at c3
  have HLAA := Lib.hid hla
  cases hli : m.la.getD i false with
  | true =>
    rw [hli] at hc
    have HL := Lib.hid hli
    clear hli hla
    go_wp2_with fail
    go_ret2
    exact ⟨⟨⟨#[]⟩, rfl, .done HL.out, Nat.zero_le _⟩, by rw [hs.out]; exact HB.out⟩
  | false =>
    rw [hli] at hc
    have HRC : Hid (∃ j, m.la.getD j false = true ∧ j < m.la.length ∧ Rch m (fun q => (foN m i).testBit q = true) j) := Lib.hid (by
      rcases HGG.out with h | h
      · rw [hli] at h; cases h
      · exact h)
    clear hli hla
    go_wp2_with fail
    clear hc c3
    go_loopw [6, 7, 8] (fun k _ _ wr => ∃ j : Nat, k = .int .i64 j ∧ j ≤ m.sp.length ∧ Hid (Below w1.heap.size w1 wr) ∧ Hid (∀ t, t < j → m.la.getD t false = true → ¬ Rch m (fun q => (foN m i).testBit q = true) t)) (fun k _ _ _ => ((m.sp.length : Int) - intOf k).toNat)
    case atStart => exact ⟨0, rfl, Nat.zero_le _, Lib.hid (Below.refl _ _), Lib.hid (fun t ht => by omega)⟩
    case round =>
      obtain ⟨j, rfl, hj, HBr, HNR⟩ := hrel
      generalize hwr : wr = w2 at *
      clear hwr wr
      have HX2 := Lib.hid (HX.out.kept HBr.out HXL.out)
      have HM2 := Lib.hid (HM.out.kept HBr.out)
      have HCA2 := Lib.hid (HCA.out.kept HBr.out)
      have HX2L := Lib.hid HX2.out.lt
      have c0 := HX2.out.c0
      have c3 := HX2.out.c3
      have HBA : Hid (Below s w w2) := Lib.hid (HB.out.trans (HBr.out.mono (Nat.le_of_lt HXL.out)))
      by_cases hlt : j < m.sp.length
      · have hdd : decide ((j : Int) < (m.sp.length : Int)) = true := decide_eq_true (by omega)
        have hd2 : decide (j < m.sp.length) = true := decide_eq_true hlt
        have HJ := Lib.hid hlt
        have hjl : (j : Int) < (m.la.length : Int) := by have := HRT.out.lal; omega
        have HW1 : Hid (wrap64 ((j : Int) + 1) = ((j + 1 : Nat) : Int)) := Lib.hid (nat_wrap (by have := HF.out.sp; omega))
        obtain ⟨b2, o2, hla2, hc2⟩ := HM2.out.la j (by omega)
        rw [hla2] at c3
        clear hlt hla2
        cases hlj : m.la.getD j false with
        | false =>
          rw [hlj] at hc2
          have HN2 : Hid (∀ t, t < j + 1 → m.la.getD t false = true → ¬ Rch m (fun q => (foN m i).testBit q = true) t) := Lib.hid (fun t ht h => by
            rcases Nat.lt_or_ge t j with h1 | h1
            · exact HNR.out t h1 h
            · rw [show t = j by omega, hlj] at h; cases h)
          clear hlj
          go_wp2_with fail
          go_roundw
          case rel => exact ⟨j + 1, by rw [HW1.out], HJ.out, HBr, HN2⟩
          case measure => rw [HW1.out]; have := HJ.out; simp only [intOf]; omega
        | true =>
          rw [hlj] at hc2
          have HLJ := Lib.hid hlj
          clear hlj
          go_upto_region 7 with fail
          obtain ⟨b3, o3, x3, k3, hoa, hc4, hcap, hn4⟩ := HCA2.out i (by omega)
          have c2 := HX2.out.c2
          rw [hoa] at c2
          have hbd : Below w2.heap.size w2 w2.drew := (Below.refl _ _).drew
          have HWY := Lib.hid (way_any x m w2.drew (HM2.out.kept hbd) HF.out HRT.out HFU.out x3 k3 (m.fo.getD i []) (hn4.kept hbd) hcap (foN_rise HRT.out i) (HF.out.each _ (getD_mem (d := []) (by omega))).1 j HJ.out (tab_drew' (HT0.out.below (hs.out ▸ HBA.out) (by rw [hs.out]; exact HG.out))))
          have hfr : frF (m.fo.getD i []) = fun q => (foN m i).testBit q = true := rfl
          rw [hfr] at HWY
          have HLB := Lib.hid (World.block_lt_of_cell? _ _ hc4)
          clear hfr hbd hoa hcap hn4 c0 c3 hc2
          generalize m.fo.getD i [] = l at *
          refine region_mix [(false, 0), (false, 1), (false, 2), (false, 3), (false, 4), (false, 5), (false, 6), (true, 7), (false, 8), (false, 9), (false, 10), (false, 11)] (fun w' => Below w2.heap.size w2 w') (by kernel_rfl) (by kernel_rfl) ((Below.refl _ _).drew) ?_
          simp only [planOps, List.map_cons, List.map_nil, List.getD_cons_zero, List.getD_cons_succ, List.length_cons, List.length_nil, List.drop_succ_cons, List.drop_zero]
          refine mix_seg (seg := [_, _, _, _, _, _, _]) rfl ((Below.refl _ _).drew) ?_
          intro ι hι F hF
          have f2 := Lib.hid (fun n => HX2.out.kept (hF n) HX2L.out)
          have f3 := fun n => ((hF n).cell (p := ⟨s, 2, none⟩) HX2L.out).trans c2
          have f4 := fun n => ((hF n).cell (p := ⟨b3, o3 + i, none⟩) HLB.out).trans hc4
          refine BigFrame.wpQuiet_want rfl (fun K hK => ?_); refine quiet_load_mach _ rfl s x m rfl (fun w' ⟨n, e⟩ => e ▸ f2.out n) ?_; refine hK _ ?_; clear hK K; simp only [Act.put, List.setIfInBounds_toArray, List.set_cons_zero, List.set_cons_succ]
          iterate 6 (go_big_quiet_step (fail))
          refine wpQuiet_nil ?_
          clear f2 f3 f4 hF hι F
          refine mix_eff (fun K hK => ?_)
          go_wp2_with (go_at_call 23; refine HWY.out.mono ?_; rintro e w7 ⟨⟨t, r, rfl, ht, hr⟩, hb7⟩; have HTR := Lib.hid ht; have HFA := Lib.hid hr; have HB7 := Lib.hid (((Below.refl w2.heap.size w2).drew).trans hb7); clear hb7 ht hr)
          refine mix_on hK HB7.out ?_
          clear hK K HWY
          refine mix_seg (seg := [_, _, _, _]) (rest := []) rfl HB7.out ?_
          intro ι hι F hF
          iterate 4 (go_big_quiet_step (fail))
          refine wpQuiet_nil ?_
          clear hF hι F
          show wpList _ _ _ _ _ _
          clear c2 hc4
          go_wp2_with fail
          refine NoPanic.normal ?_
          cases r with
          | true =>
            have HR := Lib.hid (HTR.out rfl)
            go_wp2_with fail
            go_ret2
            exact ⟨⟨t, rfl, HR.out.1.goes HLJ.out, HR.out.2⟩, by rw [hs.out]; exact HBA.out.trans (HB7.out.mono (Nat.le_of_lt HX2L.out))⟩
          | false =>
            have HN2 : Hid (∀ t, t < j + 1 → m.la.getD t false = true → ¬ Rch m (fun q => (foN m i).testBit q = true) t) := Lib.hid (fun t ht h => by
              rcases Nat.lt_or_ge t j with h1 | h1
              · exact HNR.out t h1 h
              · rw [show t = j by omega]; exact HFA.out rfl)
            go_wp2_with fail
            go_roundw
            case rel => exact ⟨j + 1, by rw [HW1.out], HJ.out, Lib.hid (HBr.out.trans (HB7.out.mono HBr.out.size)), HN2⟩
            case measure => rw [HW1.out]; have := HJ.out; simp only [intOf]; omega
      · exfalso
        obtain ⟨t, h1, h2, h3⟩ := HRC.out
        have := HRT.out.lal
        exact HNR.out t (by omega) h1 h3
end Nf
end Go.Proofs.YtkpdggemhjhnbaaDoor
