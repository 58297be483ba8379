/- way. -/
import Derived.Test.YtkpdggemhjhnbaaDoorNgA
import Derived.Laws.AppendOwnNone
import Derived.Deep.CutRange
import Derived.Deep.CutBlock
namespace Go.Proofs.YtkpdggemhjhnbaaDoor
open Go.RowKit Sets Nf
namespace Nf
theorem infoStr : (Tryd.prog.info? 9).map (fun i => (i.zero, i.size, i.bytes)) = some (some (.string ⟨#[]⟩), 1, 16) := by kernel_rfl
def frF (l : List Int) (k : Nat) : Prop := (grp l).testBit k = true
theorem pre_get {A B : List Nat} {j t : Nat} (h : A.take (j + 1) = B.take (j + 1)) (ht : t ≤ j) : A.getD t 0 = B.getD t 0 := by
  have h1 := congrArg (·[t]?) h
  simp only [List.getElem?_take] at h1
  rw [if_pos (by omega), if_pos (by omega)] at h1
  rw [List.getD_eq_getElem?_getD, List.getD_eq_getElem?_getD, h1]
theorem bf_congr {m : Mc} {F : Nat → Prop} {i : Nat} {L : List Nat} {T T' : Nat → List Nat} (h : Bf m F i L T) (e : ∀ k, T k = T' k) : Bf m F i L T' := by
  rw [show T' = T from funext fun k => (e k).symm]; exact h
theorem no_ovr (a b : ByteArray) (h : a.size + b.size ≤ 9223372036854775807) : ¬ 9223372036854775807 < a.size + b.size := by omega
theorem tab_drew' {w : World} (h : Tab w) : Tab w.drew := fun i hi => h i hi
/-- behind j of the first ones -/
structure W1 (m : Mc) (l : List Int) (L : List Nat) (j : Nat) (T : Nat → ByteArray) (S : Nat → Bool) : Prop where
  seen : ∀ k, k < m.sp.length → (S k = true ↔ k ∈ L.take j)
  text : ∀ k ∈ L.take j, Pt m (frF l) k (bs (T k)) ∧ (T k).size ≤ 1
theorem W1.next {m : Mc} {l : List Int} {L : List Nat} {j : Nat} {T : Nat → ByteArray} {S : Nat → Bool} (h : W1 m l L j T S) (hj : j < L.length) (hF : frF l (L.getD j 0)) {c : Nat} (hc : c < 256) (hb : (stN m (L.getD j 0)).testBit c = true) :
    W1 m l L (j + 1) (fun k => if k = L.getD j 0 then b1 c else T k) (fun k => if k = L.getD j 0 then true else S k) := by
  have hm : ∀ k, k ∈ L.take (j + 1) ↔ k ∈ L.take j ∨ k = L.getD j 0 := fun k => by
    rw [List.take_succ_eq_append_getElem hj, List.mem_append, List.mem_singleton, List.getD_eq_getElem?_getD, List.getElem?_eq_getElem hj]; rfl
  refine ⟨fun k hk => ?_, fun k hk => ?_⟩
  · rw [hm]
    by_cases e : k = L.getD j 0
    · simp [e]
    · rw [if_neg e, h.seen k hk]
      exact ⟨.inl, fun h => h.resolve_right e⟩
  · show Pt m (frF l) k (bs (if k = L.getD j 0 then b1 c else T k)) ∧ (if k = L.getD j 0 then b1 c else T k).size ≤ 1
    by_cases e : k = L.getD j 0
    · rw [if_pos e, e, bs_b1 hc]
      exact ⟨.one hF hb, Nat.le_refl _⟩
    · rw [if_neg e]
      exact h.text k (((hm k).1 hk).resolve_right e)
set_option maxHeartbeats 12800000 in
set_option maxRecDepth 100000 in
theorem way_any (x : Ma) (m : Mc) (w : World) (h : MAt w x m) (hf : Fine m) (hr : Rt m) (hfull : ∀ k, k < m.sp.length → stN m k ≠ 0) (a : Option Addr) (cap : Nat) (l : List Int) (hn : NumsIn w a l) (hcap : a = none → cap = 0) (hl : rise m.sp.length l = true) (hll : l.length ≤ 1000)
    (z : Nat) (hto : z < m.sp.length) (hT : Tab w) :
    Calls Tryd.prog 23 #[.agg (mc x m), .slice a l.length cap, .int .i64 z] w fun e w' => (∃ s b, e = .returned (.tuple #[.string s, .bool b]) ∧ (b = true → Pt m (frF l) z (bs s) ∧ s.size ≤ m.sp.length) ∧ (b = false → ¬ Rch m (frF l) z)) ∧ Below w.heap.size w w' := by
  have HG : Hid (0 < w.heap.size) := Lib.hid (World.block_lt_of_cell? _ _ (hT 0 (by decide)))
  have HF := Lib.hid hf
  have HRT := Lib.hid hr
  have HFU := Lib.hid hfull
  have HN0 := Lib.hid hn
  have HCAP := Lib.hid hcap
  have HL := Lib.hid hl
  have HLL := Lib.hid hll
  have HTO := Lib.hid hto
  have HT0 := Lib.hid hT
  have HM0 := Lib.hid h
  obtain ⟨i0, hi0, hz0⟩ := Option.map_eq_some_iff.1 infoStr
  obtain ⟨i1, hi1, hz1⟩ := Option.map_eq_some_iff.1 infoBool
  obtain ⟨i2, hi2, hz2, hz3, hz4⟩ := info_parts infoInt
  simp only [Prod.mk.injEq] at hz0 hz1
  have HI0 := Lib.hid hi0
  have HZ0 := Lib.hid hz0
  have HI1 := Lib.hid hi1
  have HZ1 := Lib.hid hz1
  have HI2 := Lib.hid hi2
  have HZ2 := Lib.hid (And.intro hz2 (And.intro hz3 hz4))
  clear h hf hr hfull hn hcap hl hll hto hT hi0 hz0 hi1 hz1 hi2 hz2 hz3 hz4
  go_enter Tryd.func23, Tryd.ntmps23
  go_upto_region 1 with fail
  have HX1 := Lib.hid (BoxM.new w x m)
  have HB1 := Lib.hid ((Below.refl w.heap.size w).alloc (Nat.le_refl _) (.cells (mc x m) 27))
  generalize w.alloc (.cells (mc x m) 27) = w1 at *
  obtain ⟨s, hs⟩ : ∃ s, Hid (w.heap.size = s) := ⟨_, Lib.hid rfl⟩
  have HBs : Hid (Below s w w1) := Lib.hid (by rw [← hs.out]; exact HB1.out)
  rw [hs.out] at HX1 HG ⊢
  clear HB1
  have c0 := HX1.out.c0
  go_upto_region 4 with (first
    | (refine wpList_make_row _ rfl (.tmp 24) (.tmp 24) 82 rfl 9 i0 (.string ⟨#[]⟩) Tryd.underlying82 HI0.out HZ0.out.1 HZ0.out.2.1 rfl .i64 .i64 m.sp.length rfl rfl (by rw [HZ0.out.2.2]; have := HF.out.sp; omega) (by have := HF.out.sp; omega) ?_)
    | (refine wpList_make_row _ rfl (.tmp 26) (.tmp 26) 25 rfl 4 i1 (.bool false) Tryd.underlying25 HI1.out HZ1.out.1 HZ1.out.2.1 rfl .i64 .i64 m.sp.length rfl rfl (by rw [HZ1.out.2.2]; have := HF.out.sp; omega) (by have := HF.out.sp; omega) ?_))
  clear c0
  have hz1 : (w1.alloc (.cells (madeCells #[.string ⟨#[]⟩] m.sp.length) 9)).heap.size = w1.heap.size + 1 := by simp
  have HTX := Lib.hid (World.rowIs_made w1 (.string ⟨#[]⟩) m.sp.length 9)
  have HSN := Lib.hid (World.rowIs_made (w1.alloc (.cells (madeCells #[.string ⟨#[]⟩] m.sp.length) 9)) (.bool false) m.sp.length 4)
  rw [hz1] at HSN
  have hba := (Below.refl w1.heap.size w1).alloc (Nat.le_refl _) (.cells (madeCells #[.string ⟨#[]⟩] m.sp.length) 9)
  have hbb := hba.alloc (by rw [hz1]; omega) (.cells (madeCells #[.bool false] m.sp.length) 4)
  have HTX2 := Lib.hid (World.rowIs.alloc HTX.out (.cells (madeCells #[.bool false] m.sp.length) 4))
  have HX3 := Lib.hid (HX1.out.kept hbb HX1.out.lt)
  have HB3 := Lib.hid (HBs.out.trans (hbb.mono (Nat.le_of_lt HX1.out.lt)))
  have HLS := Lib.hid HX1.out.lt
  obtain ⟨g1, hg1⟩ : ∃ g, Hid (w1.heap.size = g) := ⟨_, Lib.hid rfl⟩
  rw [hg1.out] at HTX2 HSN HLS ⊢
  clear hba hbb hz1 HTX HX1 HBs HI0 HZ0 HI1 HZ1
  generalize (w1.alloc (.cells (madeCells #[.string ⟨#[]⟩] m.sp.length) 9)).alloc (.cells (madeCells #[.bool false] m.sp.length) 4) = w3 at *
  clear hg1 w1
  have HN3 := Lib.hid (HN0.out.kept (hs.out ▸ HB3.out))
  have HS3 := Lib.hid HX3.out.lt
  go_cut [11] from 21 (fun v wr => Hid (OwnN s wr v l) ∧ Hid (Below w3.heap.size w3 wr))
  case first =>
    have hal := (Below.refl w3.heap.size w3).alloc (Nat.le_refl _) (.cells #[] 3)
    have HAL := Lib.hid hal
    have HNN := Lib.hid (own_mono (own_newN w3) (Nat.le_of_lt HS3.out))
    have HSS : Hid ((w3.alloc (.cells #[] 3)).heap.size = w3.heap.size + 1) := Lib.hid (by simp)
    have HLI := Lib.hid (HN3.out.lies)
    cases a with
    | none =>
      have HC0 := Lib.hid (HCAP.out rfl)
      have HE : Hid (l = []) := Lib.hid (by
        cases l with
        | nil => rfl
        | cons x l => obtain ⟨b, o, e2, -⟩ := HN3.out 0 (by simp); cases e2)
      clear hal
      have HXE : Hid (Value.slice none l.length cap = .slice none 0 0) := Lib.hid (by rw [HC0.out, HE.out]; rfl)
      go_wp2_with (refine wpList_append_own_none rfl _ _ 23 rfl s 3 i2 1 Tryd.underlying23 HI2.out _ 0 [] rfl HNN.out HXE.out ?_)
      go_meet
      case rel => exact ⟨Lib.hid (by rw [HE.out]; exact HNN.out), HAL⟩
    | some ad =>
      have HC2 : Hid (∀ j u, (is64 l)[j]? = some u → (w3.alloc (.cells #[] 3)).cell? (ad.add j) = some u) := Lib.hid (fun j u hj => by
        have h5 := HLI.out.2 ad rfl j u hj
        exact (hal.cell (World.block_lt_of_cell? _ _ h5)).trans h5)
      clear hal
      go_wp2_with (refine wpList_append_own_at _ rfl _ _ 23 rfl s 3 i2 _ 1 8 Tryd.underlying23 HI2.out HZ2.out.1 HZ2.out.2.1 HZ2.out.2.2 rfl (by decide) (.slice (some ⟨w3.heap.size, 0, none⟩) 0 0) 0 [] rfl HNN.out ad l.length cap (is64 l) rfl (by rw [is64_length, Nat.mul_one]) HC2.out (is64_one l) (by have := HLL.out; unfold maxLen; omega) (by have := HLL.out; omega) (by have h1 := HSS.out; have h2 := HS3.out; omega) ?_; intro v' w4 ho hg2 hz3 hz4; clear hz3 hz4; have HO := Lib.hid ho; have HG2 := Lib.hid hg2; clear ho hg2)
      go_meet
      case rel =>
        refine ⟨Lib.hid ?_, Lib.hid (HAL.out.grown HG2.out (by have := HSS.out; omega) (fun j hj => ((own_newN w3).lt j hj).1))⟩
        have := HO.out
        rwa [Nat.zero_add, List.nil_append] at this
  case rest =>
    obtain ⟨HO, HB34⟩ := hcut
    generalize hwc : wc = w4 at *
    clear hwc wc
    obtain ⟨L, HLQ⟩ : ∃ L, Hid (L = l.map Int.toNat) := ⟨_, Lib.hid rfl⟩
    have HLI : Hid (nI L = l) := Lib.hid (by
      have hm := ((rise_iff _ _).1 HL.out).1
      unfold nI
      rw [HLQ.out, List.map_map]
      have : ∀ k ∈ l, ((fun k : Nat => (k : Int)) ∘ Int.toNat) k = k := fun k hk => by
        have := hm k hk
        simp only [Function.comp]; omega
      rw [List.map_congr_left this, List.map_id'])
    have HLL2 : Hid (L.length = l.length) := Lib.hid (by rw [HLQ.out, List.length_map])
    have HLT : Hid (∀ k ∈ L, k < m.sp.length) := Lib.hid (fun k hk => by
      rw [HLQ.out] at hk
      obtain ⟨q, hq, rfl⟩ := List.mem_map.1 hk
      have := ((rise_iff _ _).1 HL.out).1 q hq
      omega)
    have HLF : Hid (∀ k, frF l k ↔ k ∈ L) := Lib.hid (fun k => by
      unfold frF
      rw [HLQ.out]
      exact testBit_grp l k)
    have HND : Hid L.Nodup := Lib.hid (by
      rw [HLQ.out]
      have hp := ((rise_iff _ _).1 HL.out)
      refine List.Pairwise.imp (R := (· < ·)) (fun h => Nat.ne_of_lt h) ?_
      rw [List.pairwise_map]
      refine List.Pairwise.imp_of_mem (R := (· < ·)) ?_ hp.2
      intro p q h1 h2 h3
      have := hp.1 p h1
      have := hp.1 q h2
      omega)
    have HW := Lib.hid (WyI.mk (w0 := w) (s := s) (g1 := g1) (g2 := g1 + 1) (x := x) (m := m) (L := L) (T := fun _ => ⟨#[]⟩) (S := fun _ => false) (HX3.out.kept HB34.out HS3.out) (World.rowIs.of_block HTX2.out (HB34.out.block g1 (World.rowIs.lt HTX2.out))) (World.rowIs.of_block HSN.out (HB34.out.block _ (World.rowIs.lt HSN.out))) (by rw [HLI.out]; exact HO.out) HLS.out (by have := HLS.out; omega) (HB3.out.trans (HB34.out.mono (Nat.le_of_lt HS3.out))))
    clear HX3 HTX2 HSN HO HB34 HB3 HS3 HLQ HN3 HN0 HCAP w3
    generalize hg2 : g1 + 1 = g2 at *
    have HG2 := Lib.hid hg2
    clear hg2
    have HLN : Hid (L.length ≤ m.sp.length) := Lib.hid (nodup_le HND.out HLT.out)
    obtain ⟨a5, c5, rfl, -⟩ := own_slice HW.out.todo
    rw [nI_len]
    go_wp2_with fail
    go_loopw [12, 13, 14] (fun i _ _ wr => ∃ (j : Nat) (T : Nat → ByteArray) (S : Nat → Bool), i = .int .i64 j ∧ j ≤ L.length ∧ Hid (WyI w s g1 g2 x m (.slice a5 L.length c5) L T S wr) ∧ Hid (W1 m l L j T S)) (fun i _ _ _ => ((L.length : Int) - intOf i).toNat)
    case atStart => exact ⟨0, _, _, rfl, Nat.zero_le _, Lib.hid (by have := HW.out; rw [nI_len] at this; exact this), Lib.hid ⟨fun k _ => by simp, fun k hk => by simp at hk⟩⟩
    case round =>
      clear HW
      obtain ⟨j, T, S, rfl, hj, HW, HV⟩ := hrel
      generalize hwr : wr = w5 at *
      clear hwr wr w4
      by_cases hlt : j < L.length
      · have hdd : decide ((j : Int) < (L.length : Int)) = true := decide_eq_true (by omega)
        have hd2 : decide (j < L.length) = true := decide_eq_true hlt
        have HJ := Lib.hid hlt
        have hjl : (j : Int) < (L.length : Int) := by omega
        have HW1 : Hid (wrap64 ((j : Int) + 1) = ((j + 1 : Nat) : Int)) := Lib.hid (nat_wrap (by have h1 := HLN.out; have h2 := HF.out.sp; omega))
        obtain ⟨b, o, ha5⟩ : ∃ b o, a5 = some ⟨b, o, none⟩ := by
          obtain ⟨a6, c6, e6, hn6⟩ := HW.out.todo.nums
          obtain ⟨b, o, e7, -⟩ := hn6 j (by rw [nI_len]; exact hlt)
          injection e6 with e6
          exact ⟨b, o, e6.trans e7⟩
        subst ha5
        have HCE : Hid (∀ v L' T S W, WyI w s g1 g2 x m v L' T S W → v = .slice (some ⟨b, o, none⟩) L.length c5 → L' = L → W.cell? ⟨b, o + j, none⟩ = some (.int .i64 ((L.getD j 0 : Nat) : Int))) := Lib.hid (fun v L' T S W h e e2 => by
          subst e e2
          obtain ⟨a6, c6, e6, hn6⟩ := h.todo.nums
          obtain ⟨b', o', e7, hc7⟩ := hn6 j (by rw [nI_len]; exact HJ.out)
          injection e6 with e6
          rw [← e6] at e7
          injection e7 with e7
          injection e7 with e8 e9
          subst e8 e9
          rw [hc7, nI_get _ _ HJ.out])
        have HQN := Lib.hid (HLT.out _ (getD_mem (d := 0) hlt))
        have HVN := Lib.hid (fun c hc hb => HV.out.next (c := c) HJ.out ((HLF.out _).2 (getD_mem (d := 0) hlt)) hc hb)
        clear hlt
        generalize L.getD j 0 = q at *
        have hqn : q < m.sp.length := HQN.out
        have hqi : (q : Int) < (m.sp.length : Int) := by omega
        have hce := HCE.out _ _ _ _ _ HW.out rfl rfl
        have hsc := World.rowIs.cell HW.out.sn hqn
        have hsf := World.rowIs.frozen HW.out.sn q
        go_upto_region 9 with fail
        have HW6 := Lib.hid (HW.out.setS q true)
        clear hce hsc hsf HW HV
        generalize w5.setCell ⟨g2, q, none⟩ (.bool true) = w6 at *
        clear w5
        have hce := HCE.out _ _ _ _ _ HW6.out rfl rfl
        have c0 := HW6.out.box.c0
        obtain ⟨b2, o2, hsa, hrow⟩ := (HM0.out.kept (hs.out ▸ HW6.out.below)).sp q hqn
        rw [hsa] at c0
        have HRG := Lib.hid (spot_set hrow)
        have HSL : Hid ((m.sp.getD q (0, 0)).1 < 2 ^ 256) := Lib.hid (HF.out.set _ (getD_mem hqn)).1
        have HLB := Lib.hid (World.block_lt_of_cell? _ _ hce)
        have HLX := Lib.hid HW6.out.box.lt
        have hst : (m.sp.getD q (0, 0)).1 = stN m q := rfl
        rw [hst] at HRG HSL
        obtain ⟨c, hc256, hcb, hfirst⟩ := first_full (stN m q) HSL.out (HFU.out q hqn)
        have HVN2 := Lib.hid (HVN.out c hc256 hcb)
        have HC := Lib.hid hc256
        have HFI := Lib.hid (hfirst w6.drew (tab_drew' (HT0.out.below (hs.out ▸ HW6.out.below) (by rw [hs.out]; exact HG.out))) (Nat.lt_of_lt_of_le HG.out (Nat.le_of_lt HLX.out)))
        clear hrow hsa hfirst hcb hc256 hst HVN
        refine region_mix [(false, 0), (false, 1), (false, 2), (false, 3), (false, 4), (false, 5), (false, 6), (false, 7), (false, 8), (true, 9), (false, 10), (false, 11), (false, 12), (false, 13)] (fun w' => Below w6.heap.size w6 w') (by kernel_rfl) (by kernel_rfl) ((Below.refl _ _).drew) ?_
        simp only [planOps, List.map_cons, List.map_nil, List.getD_cons_zero, List.getD_cons_succ, List.length_cons, List.length_nil, List.drop_succ_cons, List.drop_zero]
        refine mix_seg (seg := [_, _, _, _, _, _, _, _, _]) rfl ((Below.refl _ _).drew) ?_
        intro ι hι F hF
        have f1 := fun n => ((hF n).cell (p := ⟨s, 0, none⟩) HLX.out).trans c0
        have f2 := fun n => ((hF n).cell (p := ⟨b, o + j, none⟩) HLB.out).trans hce
        have Q1 := Lib.hid (fun n => (show (F n).rangeAt b2 (o2 + q * 5) (setC (stN m q)).toList from fun t v hv => ((hF n).cell (World.block_lt_of_cell? _ _ (HRG.out t v hv))).trans (HRG.out t v hv)))
        iterate 8 (go_big_quiet_step (fail))
        refine BigFrame.wpQuiet_want rfl (fun K hK => ?_); refine quiet_load_mid 39 _ rfl b2 (o2 + q * 5) rfl (setC (stN m q)).toList _ (fun w' ⟨n, e⟩ => e ▸ Q1.out n) Tryd.underlying39 rfl (sizeSetL _) ?_; refine hK _ ?_; clear hK K; simp only [Act.put, List.setIfInBounds_toArray, List.set_cons_zero, List.set_cons_succ]
        refine wpQuiet_nil ?_
        clear f1 f2 Q1 hF hι F
        rw [show (setC (stN m q)).toList.toArray = setC (stN m q) from rfl]
        refine mix_eff (fun K hK => ?_)
        go_wp2_with (go_at_call 51; refine HFI.out.mono ?_; rintro e w7 ⟨rfl, hb7⟩; have HB7 := Lib.hid (((Below.refl w6.heap.size w6).drew).trans hb7); clear hb7)
        refine mix_on hK HB7.out ?_
        clear hK K HFI
        refine mix_seg (seg := [_, _, _, _]) (rest := []) rfl HB7.out ?_
        intro ι hι F hF
        iterate 4 (go_big_quiet_step (fail))
        refine wpQuiet_nil ?_
        clear hF hι F
        show wpList _ _ _ _ _ _
        have HW7 := Lib.hid (HW6.out.stay HB7.out)
        clear c0 hce HW6 HB7 HRG HLX HLB
        go_wp2_with fail
        refine NoPanic.normal ?_
        go_upto_region 10 with fail
        clear ι
        have hce := HCE.out _ _ _ _ _ HW7.out rfl rfl
        have HLB := Lib.hid (World.block_lt_of_cell? _ _ hce)
        refine region_mix [(false, 0), (false, 1), (false, 2), (false, 3), (false, 4), (false, 5), (true, 6), (true, 7), (false, 8)] (fun w' => Below w7.heap.size w7 w') (by kernel_rfl) (by kernel_rfl) ((Below.refl _ _).drew) ?_
        simp only [planOps, List.map_cons, List.map_nil, List.getD_cons_zero, List.getD_cons_succ, List.length_cons, List.length_nil, List.drop_succ_cons, List.drop_zero]
        refine mix_seg (seg := [_, _, _, _, _, _]) rfl ((Below.refl _ _).drew) ?_
        intro ι hι F hF
        have f2 := fun n => ((hF n).cell (p := ⟨b, o + j, none⟩) HLB.out).trans hce
        iterate 6 (go_big_quiet_step (fail))
        refine wpQuiet_nil ?_
        clear f2 hF hι F
        refine mix_eff (fun K hK => ?_)
        go_wp2_with fail
        have HB8 := Lib.hid (((Below.refl w7.heap.size w7).alloc (Nat.le_refl _) (.cells #[.int .u8 c] 5)).drew)
        have hcell : (w7.alloc (.cells #[.int .u8 c] 5)).drew.cell? ⟨w7.heap.size, 0, none⟩ = some (.int .u8 c) := by
          show (w7.alloc (.cells #[.int .u8 c] 5)).cell? _ = _
          rw [World.cell?_alloc_new]; rfl
        refine mix_on hK HB8.out ?_
        clear hK K
        have hcv := convert_b1 _ _ c HC.out hcell
        generalize (w7.alloc (.cells #[.int .u8 c] 5)).drew = w8 at *
        refine mix_eff (fun K hK => ?_)
        go_wp2_with fail
        refine mix_on hK HB8.out ?_
        clear hK K
        refine mix_seg (seg := [_]) (rest := []) rfl HB8.out ?_
        intro ι hι F hF
        iterate 1 (go_big_quiet_step (fail))
        refine wpQuiet_nil ?_
        clear hF hι F
        show wpList _ _ _ _ _ _
        have HW8 := Lib.hid (HW7.out.stay HB8.out)
        have hsc := World.rowIs.cell HW8.out.tx hqn
        have hsf := World.rowIs.frozen HW8.out.tx q
        have HW9 := Lib.hid (HW8.out.setT q (b1 c))
        clear hcell hcv hce HB8 HW7 HW8
        go_wp2_with fail
        refine NoPanic.normal ?_
        go_wp2_with fail
        go_roundw
        case rel => exact ⟨j + 1, _, _, by rw [HW1.out], HJ.out, HW9, HVN2⟩
        case measure => rw [HW1.out]; have := HJ.out; simp only [intOf]; omega
      · have hdd : decide ((j : Int) < (L.length : Int)) = false := decide_eq_false (by omega)
        have hd2 : decide (j < L.length) = false := decide_eq_false hlt
        have HB0 : Hid (Bf m (frF l) 0 L (fun k => bs (T k))) := Lib.hid (by
          have hta : L.take j = L := List.take_of_length_le (by omega)
          have ht := HV.out.text
          rw [hta] at ht
          exact ⟨HND.out, HLT.out, fun k hk => (HLF.out k).1 hk, fun k hk => (ht k hk).1, fun t ht2 => by have := (ht _ (getD_mem (d := 0) ht2)).2; rw [bs_len]; omega, fun t ht => by omega⟩)
        have HSE : Hid (∀ k, k < m.sp.length → (S k = true ↔ k ∈ L)) := Lib.hid (fun k hk => by
          have h := HV.out.seen k hk
          rw [List.take_of_length_le (by omega)] at h
          exact h)
        clear hlt HV
        go_wp2_with fail
        clear hdd hd2 hj
        go_loopw [11, 15, 16, 17, 18, 19, 20] (fun v i _ _ _ _ _ wr => ∃ (j : Nat) (L : List Nat) (T : Nat → ByteArray) (S : Nat → Bool), i = .int .i64 j ∧ j ≤ L.length ∧ Hid (WyI w s g1 g2 x m v L T S wr) ∧ Hid (Bf m (frF l) j L (fun k => bs (T k))) ∧ Hid (∀ k, k < m.sp.length → (S k = true ↔ k ∈ L)) ∧ Hid (∀ t, t < j → L.getD t 0 ≠ z)) (fun _ i _ _ _ _ _ _ => ((m.sp.length : Int) - intOf i).toNat)
        case atStart => exact ⟨0, L, T, S, rfl, Nat.zero_le _, HW, HB0, HSE, Lib.hid (fun t ht => by omega)⟩
        case round =>
          clear HW HB0 HSE HLI HLL2 HLT HLF HND HLN
          obtain ⟨j, L, T, S, rfl, hj, HW, HB, HSE, HNZ⟩ := hrel
          generalize hwr : wr = w6 at *
          clear hwr wr w5
          obtain ⟨a6, c6, rfl, -⟩ := own_slice HW.out.todo
          rw [nI_len] at HW ⊢
          by_cases hlt : j < L.length
          · have hdd : decide ((j : Int) < (L.length : Int)) = true := decide_eq_true (by omega)
            have hd2 : decide (j < L.length) = true := decide_eq_true hlt
            have HJ := Lib.hid hlt
            have hjl : (j : Int) < (L.length : Int) := by omega
            have HJN : Hid (j < m.sp.length) := Lib.hid (by have := HB.out.le; omega)
            have HW1 : Hid (wrap64 ((j : Int) + 1) = ((j + 1 : Nat) : Int)) := Lib.hid (nat_wrap (by have h1 := HJN.out; have h2 := HF.out.sp; omega))
            obtain ⟨b, o, ha6, hce⟩ : ∃ b o, a6 = some ⟨b, o, none⟩ ∧ w6.cell? ⟨b, o + j, none⟩ = some (.int .i64 ((L.getD j 0 : Nat) : Int)) := by
              obtain ⟨a7, c7, e6, hn6⟩ := HW.out.todo.nums
              obtain ⟨b, o, e7, hc7⟩ := hn6 j (by rw [nI_len]; exact hlt)
              injection e6 with e6
              exact ⟨b, o, e6.trans e7, by rw [hc7, nI_get _ _ hlt]⟩
            subst ha6
            have HQM := Lib.hid (getD_mem (d := 0) hlt)
            have HQN := Lib.hid (HB.out.lt _ HQM.out)
            have HTX := Lib.hid (HB.out.text HQM.out)
            clear hlt
            obtain ⟨q, HQE⟩ : ∃ q, Hid (L.getD j 0 = q) := ⟨_, Lib.hid rfl⟩
            rw [HQE.out] at hce HQM HQN HTX
            have hqn : q < m.sp.length := HQN.out
            have hqi : (q : Int) < (m.sp.length : Int) := by omega
            by_cases hqz : q = z
            · subst hqz
              have hsc := World.rowIs.cell HW.out.tx hqn
              have HBW := Lib.hid HW.out.below
              have hqq : ((q : Int) == (q : Int)) = true := by simp
              clear HW
              go_wp2_with fail
              go_ret2
              exact ⟨⟨T q, true, rfl, fun _ => ⟨HTX.out.1, by have := HTX.out.2; rw [bs_len] at this; exact this⟩, fun e => (by cases e)⟩, by rw [hs.out]; exact HBW.out⟩
            · have hqq : ((q : Int) == (z : Int)) = false := by rw [beq_eq_false_iff_ne]; omega
              have HQZ := Lib.hid hqz
              clear hqz
              have hqf : q < m.fo.length := by rw [HRT.out.fol]; exact hqn
              have HFQ := Lib.hid (fun W (h : Below s w W) => (HM0.out.kept (w' := W) (hs.out ▸ h)).fo q hqf)
              have HFR := Lib.hid (HRT.out.foR _ (getD_mem (d := []) hqf))
              have HFL := Lib.hid (HF.out.each _ (getD_mem (d := []) hqf)).1
              have HFB : Hid (∀ k : Nat, (foN m q).testBit k = true ↔ (k : Int) ∈ m.fo.getD q []) := Lib.hid (fun k => grp_bit (foN_rise HRT.out q) k)
              have hqfi : (q : Int) < (m.fo.length : Int) := by omega
              clear hqf
              generalize m.fo.getD q [] = fq at *
              go_wp2_with fail
              clear hce
              go_loopw [11, 17, 18, 19, 20] (fun v k _ _ _ wr => ∃ (p : Nat) (L2 : List Nat) (T2 : Nat → ByteArray) (S2 : Nat → Bool), k = .int .i64 p ∧ p ≤ fq.length ∧ Hid (WyI w s g1 g2 x m v L2 T2 S2 wr) ∧ Hid (Bf m (frF l) j L2 (fun k => bs (T2 k))) ∧ Hid (∀ k, k < m.sp.length → (S2 k = true ↔ k ∈ L2)) ∧ Hid (L2.take (j + 1) = L.take (j + 1) ∧ L.length ≤ L2.length) ∧ Hid (∀ t, t < p → (fq.getD t 0).toNat ∈ L2)) (fun _ k _ _ _ _ => ((fq.length : Int) - intOf k).toNat)
              case atStart => exact ⟨0, L, T, S, rfl, Nat.zero_le _, HW, HB, HSE, Lib.hid ⟨rfl, Nat.le_refl _⟩, Lib.hid (fun t ht => by omega)⟩
              case round =>
                clear HW HB HSE
                obtain ⟨p, L2, T2, S2, rfl, hp, HW, HB, HSE, HPR, HPF⟩ := hrel
                generalize hwr : wr = w7 at *
                clear hwr wr w6
                obtain ⟨a7, c7, rfl, -⟩ := own_slice HW.out.todo
                rw [nI_len] at HW ⊢
                have c2 := HW.out.box.c2
                obtain ⟨b3, o3, x3, c3, hoa, hc3, hn3⟩ := HFQ.out _ HW.out.below
                rw [hoa] at c2
                have HN3 := Lib.hid hn3
                clear hn3
                have HQ2 : Hid (L2.getD j 0 = q) := Lib.hid ((pre_get HPR.out.1 (Nat.le_refl j)).trans HQE.out)
                by_cases hlt : p < fq.length
                · have hd3 : decide ((p : Int) < (fq.length : Int)) = true := decide_eq_true (by omega)
                  have hd4 : decide (p < fq.length) = true := decide_eq_true hlt
                  have hpl : (p : Int) < (fq.length : Int) := by omega
                  have HP := Lib.hid hlt
                  have HW2 : Hid (wrap64 ((p : Int) + 1) = ((p + 1 : Nat) : Int)) := Lib.hid (nat_wrap (by have := HFL.out; omega))
                  obtain ⟨b4, o4, hx3, hc4⟩ := HN3.out p hlt
                  rw [hx3] at hc3
                  have HPF2 : Hid (∀ L3 : List Nat, (∀ k ∈ L2, k ∈ L3) → (fq.getD p 0).toNat ∈ L3 → ∀ t, t < p + 1 → (fq.getD t 0).toNat ∈ L3) := Lib.hid (fun L3 h1 h2 t ht => by
                    rcases Nat.lt_or_ge t p with h3 | h3
                    · exact h1 _ (HPF.out t h3)
                    · rw [show t = p by omega]; exact h2)
                  have HRM := Lib.hid (getD_mem (d := 0) hlt)
                  have HRR := Lib.hid (((rise_iff _ _).1 HFR.out).1 _ HRM.out)
                  clear hlt hx3
                  generalize fq.getD p 0 = rr at *
                  obtain ⟨r, rfl⟩ := Int.eq_ofNat_of_zero_le HRR.out.1
                  rw [show ((r : Int)).toNat = r from by omega] at HPF2
                  have hrn : r < m.sp.length := by have := HRR.out; omega
                  have hri : (r : Int) < (m.sp.length : Int) := by omega
                  have HRN := Lib.hid hrn
                  have hsc := World.rowIs.cell HW.out.sn hrn
                  have hsf := World.rowIs.frozen HW.out.sn r
                  have HS2 := Lib.hid (HSE.out r hrn)
                  cases hsr : S2 r with
                  | true =>
                    rw [hsr] at hsc
                    have HRL := Lib.hid (HS2.out.1 hsr)
                    clear hsr hsf
                    go_wp2_with fail
                    go_roundw
                    case rel => exact ⟨p + 1, L2, T2, S2, by rw [HW2.out], HP.out, Lib.hid (by have := HW.out; exact this), HB, HSE, HPR, Lib.hid (HPF2.out L2 (fun k h => h) HRL.out)⟩
                    case measure => rw [HW2.out]; have := HP.out; simp only [intOf]; omega
                  | false =>
                    rw [hsr] at hsc
                    have HRL : Hid (r ∉ L2) := Lib.hid (fun h => by rw [HS2.out.2 h] at hsr; cases hsr)
                    clear hsr
                    go_upto_region 23 with fail
                    have HW3 := Lib.hid (HW.out.setS r true)
                    clear hsc hsf HW c2 hc3 hc4 HN3
                    generalize w7.setCell ⟨g2, r, none⟩ (.bool true) = w8 at *
                    have c0 := HW3.out.box.c0
                    obtain ⟨b5, o5, hsa, hrow⟩ := (HM0.out.kept (hs.out ▸ HW3.out.below)).sp r hrn
                    rw [hsa] at c0
                    have HRG := Lib.hid (spot_set hrow)
                    have HSL : Hid ((m.sp.getD r (0, 0)).1 < 2 ^ 256) := Lib.hid (HF.out.set _ (getD_mem hrn)).1
                    have hst : (m.sp.getD r (0, 0)).1 = stN m r := rfl
                    rw [hst] at HRG HSL
                    obtain ⟨c, hc256, hcb, hfirst⟩ := first_full (stN m r) HSL.out (HFU.out r hrn)
                    have HC := Lib.hid hc256
                    have HCB := Lib.hid hcb
                    have HFI := Lib.hid (hfirst w8 (HT0.out.below (hs.out ▸ HW3.out.below) (by rw [hs.out]; exact HG.out)) (Nat.lt_trans HG.out HW3.out.box.lt))
                    clear hrow hsa hfirst hcb hc256 hst
                    go_upto_region 24 with (first
                      | (refine wpList_load_mid rfl 39 _ rfl b5 (o5 + r * 5) rfl (setC (stN m r)).toList _ HRG.out Tryd.underlying39 rfl (sizeSetL _) ?_; rw [show (setC (stN m r)).toList.toArray = setC (stN m r) from rfl])
                      | (go_at_call 51; refine HFI.out.mono ?_; rintro e w9 ⟨rfl, hb9⟩; have HB9 := Lib.hid hb9; clear hb9))
                    have HW4 := Lib.hid (HW3.out.stay HB9.out)
                    clear HW3 HB9 HFI HRG c0
                    have hcq := World.rowIs.cell HW4.out.tx hqn
                    have HLG := Lib.hid (World.rowIs.lt HW4.out.tx)
                    have HTQ : Hid ((T2 q).size ≤ 1000) := Lib.hid (by
                      have h1 := HB.out.len j (Nat.lt_of_lt_of_le HJ.out HPR.out.2)
                      rw [HQ2.out, bs_len] at h1
                      have h2 := HJN.out
                      have h3 := HF.out.sp
                      omega)
                    refine region_mix [(false, 0), (false, 1), (false, 2), (false, 3), (false, 4), (false, 5), (false, 6), (true, 7), (true, 8), (false, 9), (false, 10)] (fun w' => Below w9.heap.size w9 w') (by kernel_rfl) (by kernel_rfl) ((Below.refl _ _).drew) ?_
                    simp only [planOps, List.map_cons, List.map_nil, List.getD_cons_zero, List.getD_cons_succ, List.length_cons, List.length_nil, List.drop_succ_cons, List.drop_zero]
                    refine mix_seg (seg := [_, _, _, _, _, _, _]) rfl ((Below.refl _ _).drew) ?_
                    intro ι hι F hF
                    have f2 := fun n => ((hF n).cell (p := ⟨g1, q, none⟩) HLG.out).trans hcq
                    iterate 7 (go_big_quiet_step (fail))
                    refine wpQuiet_nil ?_
                    clear f2 hF hι F
                    refine mix_eff (fun K hK => ?_)
                    go_wp2_with fail
                    have HB8 := Lib.hid (((Below.refl w9.heap.size w9).alloc (Nat.le_refl _) (.cells #[.int .u8 c] 5)).drew)
                    have hcell : (w9.alloc (.cells #[.int .u8 c] 5)).drew.cell? ⟨w9.heap.size, 0, none⟩ = some (.int .u8 c) := by
                      show (w9.alloc (.cells #[.int .u8 c] 5)).cell? _ = _
                      rw [World.cell?_alloc_new]; rfl
                    refine mix_on hK HB8.out ?_
                    clear hK K
                    have hcv := convert_b1 _ _ c HC.out hcell
                    generalize (w9.alloc (.cells #[.int .u8 c] 5)).drew = w10 at *
                    refine mix_eff (fun K hK => ?_)
                    go_wp2_with fail
                    refine mix_on hK HB8.out ?_
                    clear hK K
                    have hno := no_ovr (T2 q) (b1 c) (by have := HTQ.out; show _ + 1 ≤ _; omega)
                    refine mix_seg (seg := [_, _]) (rest := []) rfl HB8.out ?_
                    intro ι hι F hF
                    iterate 2 (go_big_quiet_step (fail))
                    refine wpQuiet_nil ?_
                    clear hF hι F hno
                    show wpList _ _ _ _ _ _
                    have HW5 := Lib.hid (HW4.out.stay HB8.out)
                    have hst := World.rowIs.cell HW5.out.tx hrn
                    have hsf := World.rowIs.frozen HW5.out.tx r
                    have HW6 := Lib.hid (HW5.out.setT r (T2 q ++ b1 c))
                    clear hcell hcv hcq HB8 HW4 HW5
                    go_wp2_with fail
                    refine NoPanic.normal ?_
                    generalize w10.setCell ⟨g1, r, none⟩ (.string (T2 q ++ b1 c)) = w11 at *
                    clear hst hsf
                    have HSZ : Hid (s ≤ w11.heap.size) := Lib.hid (Nat.le_of_lt HW6.out.box.lt)
                    have HLN2 : Hid ((nI L2).length ≤ 100000) := Lib.hid (by rw [nI_len]; have h1 := HB.out.le; have h2 := HF.out.sp; omega)
                    rw [← nI_len L2]
                    rw [← nI_len L2] at HW6
                    go_wp2_with (refine wpList_pushN rfl (.tmp 128) (.tmp 130) rfl s _ (nI L2) r rfl HW6.out.todo rfl HLN2.out HSZ.out ?_; intro v' w12 ho12 hb12 ha12; have HO12 := Lib.hid ho12; have HB12 := Lib.hid hb12; have HA12 := Lib.hid ha12; clear ho12 hb12 ha12)
                    have HW7 := Lib.hid (HW6.out.push HO12.out HB12.out HA12.out)
                    clear HW6 HO12 HB12 HA12
                    go_roundw
                    case rel =>
                      refine ⟨p + 1, L2 ++ [r], _, _, by rw [HW2.out], HP.out, HW7, Lib.hid ?_, Lib.hid ?_, Lib.hid ?_, Lib.hid ?_⟩
                      · refine bf_congr (HB.out.push (k := r) (c := c) (Nat.lt_of_lt_of_le HJ.out HPR.out.2) HRL.out (by rw [HQ2.out]; exact (HFB.out r).2 HRM.out) HRN.out HCB.out) (fun k => ?_)
                        by_cases e : k = r
                        · rw [if_pos e, if_pos e, HQ2.out, bs_app, bs_b1 HC.out]
                        · rw [if_neg e, if_neg e]
                      · intro k hk
                        show (if k = r then true else S2 k) = true ↔ _
                        by_cases e : k = r
                        · rw [if_pos e, e]; simp
                        · rw [if_neg e, HSE.out k hk, List.mem_append, List.mem_singleton]
                          exact ⟨.inl, fun h => h.resolve_right e⟩
                      · refine ⟨?_, by rw [List.length_append]; have := HPR.out.2; omega⟩
                        rw [List.take_append_of_le_length (Nat.le_trans HJ.out HPR.out.2)]
                        exact HPR.out.1
                      · exact HPF2.out _ (fun k h => List.mem_append.2 (.inl h)) (List.mem_append.2 (.inr (List.mem_singleton.2 rfl)))
                    case measure => rw [HW2.out]; have := HP.out; simp only [intOf]; omega
                · have hd3 : decide ((p : Int) < (fq.length : Int)) = false := decide_eq_false (by omega)
                  have hd4 : decide (p < fq.length) = false := decide_eq_false hlt
                  have HBN : Hid (Bf m (frF l) (j + 1) L2 (fun k => bs (T2 k))) := Lib.hid (HB.out.next (fun k hk => by
                    rw [HQ2.out] at hk
                    have h1 := (HFB.out k).1 hk
                    obtain ⟨t, ht, e⟩ := List.mem_iff_getElem.1 h1
                    have h2 := HPF.out t (by omega)
                    rw [List.getD_eq_getElem?_getD, List.getElem?_eq_getElem ht, Option.getD_some, e] at h2
                    exact h2))
                  have HNZ2 : Hid (∀ t, t < j + 1 → L2.getD t 0 ≠ z) := Lib.hid (fun t ht => by
                    rw [pre_get HPR.out.1 (by omega)]
                    rcases Nat.lt_or_ge t j with h1 | h1
                    · exact HNZ.out t h1
                    · rw [show t = j by omega, HQE.out]; exact HQZ.out)
                  clear hlt
                  go_wp2_with fail
                  go_roundw
                  case rel => exact ⟨j + 1, L2, T2, S2, by rw [HW1.out], Nat.lt_of_lt_of_le HJ.out HPR.out.2, HW, HBN, HSE, HNZ2⟩
                  case measure => rw [HW1.out]; have := HJN.out; simp only [intOf]; omega
          · have hdd : decide ((j : Int) < (L.length : Int)) = false := decide_eq_false (by omega)
            have hd2 : decide (j < L.length) = false := decide_eq_false hlt
            have HNR : Hid (¬ Rch m (frF l) z) := Lib.hid (fun h => by
              have hm := HB.out.done (by omega) h
              obtain ⟨t, ht, e⟩ := List.mem_iff_getElem.1 hm
              refine HNZ.out t (by omega) ?_
              rw [List.getD_eq_getElem?_getD, List.getElem?_eq_getElem ht]
              exact e)
            have HBW := Lib.hid HW.out.below
            clear hlt HW
            go_wp2_with fail
            go_ret2
            exact ⟨⟨_, false, rfl, fun e => (by cases e), fun _ => HNR.out⟩, by rw [hs.out]; exact HBW.out⟩
end Nf
end Go.Proofs.YtkpdggemhjhnbaaDoor
