/- Several texts in one. -/
import Derived.Test.YtghbgfkkdknmnaaDoorPqC7
import Derived.Test.YtghbgfkkdknmnaaDoorPqB6
import Derived.Lib.IndexBytes
namespace Go.Proofs.YtghbgfkkdknmnaaDoor
open Go.RowKit Sets Nf
namespace Fs
/-- What the document's Marks is at, having read j bytes of the run R: out, at. -/
structure MkI (w0 : World) (q : Nat) (m : Mc) (R : List Nat) (j : Nat) (v a : Value) (W : World) : Prop where
  out : W.ownsRow q 5 1 v j (u8s (mkR m (R.take j)))
  at' : OwnN q W a (atO (pOf R j))
  bel : Below q w0 W
  size : q ≤ W.heap.size
theorem MkI.stay {w0 W W' : World} {q : Nat} {m : Mc} {R : List Nat} {j : Nat} {v a : Value} (h : MkI w0 q m R j v a W) (hb : Below W.heap.size W W') : MkI w0 q m R j v a W' :=
  ⟨own_stay h.out hb, own_stay h.at' hb, h.bel.trans (hb.mono h.size), Nat.le_trans h.size hb.size⟩
theorem bs_from (s : ByteArray) (j : Nat) : Nf.bs (s.extract j s.size) = (Nf.bs s).drop j := by
  unfold Nf.bs
  rw [Lib.extract_data, List.take_of_length_le (by rw [List.length_drop]; exact Nat.le_of_eq rfl), List.map_drop]
set_option maxHeartbeats 12800000 in
set_option maxRecDepth 100000 in
theorem marks14_any (x : Ma) (m : Mc) (s : ByteArray) (w : World) (h : MAt w x m) (hf : Fine m) (hs : s.size ≤ 1000) :
    Calls Tryd.prog 12 #[.agg (mc x m), .string s] w fun e w' => (∃ v, e = .returned (.tuple #[v, .bool (takesM m (Nf.bs s))]) ∧ (takesM m (Nf.bs s) = false → v = .slice none 0 0) ∧ (takesM m (Nf.bs s) = true → ∀ R, Lr m none (Nf.bs s) R → w'.ownsRow w.heap.size 5 1 v R.length (u8s (mkR m R)))) ∧ Below w.heap.size w w' := by
  have HM := Lib.hid h
  have HF := Lib.hid hf
  have HS := Lib.hid hs
  have HLEN := Lib.hid (Nf.bs_len s)
  have HBL := Lib.hid (Nf.bs_lt s)
  clear h hf hs
  go_enter Tryd.func12, Tryd.ntmps12
  go_upto_region 1 with fail
  have HX := Lib.hid (BoxM.new w x m)
  have HB := Lib.hid ((Below.refl w.heap.size w).alloc (Nat.le_refl _) (.cells (mc x m) 27))
  obtain ⟨B, hB⟩ : ∃ B, Hid (w.heap.size = B) := ⟨_, Lib.hid rfl⟩
  rw [hB.out] at HX ⊢
  generalize w.alloc (.cells (mc x m) 27) = w1 at *
  have HK : Hid (∀ W, Below w1.heap.size w1 W → BoxM W B x m ∧ MAt W x m ∧ Below w.heap.size w W) := Lib.hid (fun W hW => by
    have h1 := HB.out.trans (hW.mono HB.out.size)
    exact ⟨HX.out.kept hW HX.out.lt, HM.out.kept h1, h1⟩)
  have HBQ : Hid (B < w1.heap.size) := Lib.hid HX.out.lt
  have HRU := Lib.hid (rrun_any x m s w1 (HK.out _ (Below.refl _ _)).2.1 HF.out HS.out)
  clear HM HB
  cases htk : takesM m (Nf.bs s) with
  | false =>
    rw [htk] at HRU
    have HTK := Lib.hid htk
    clear htk
    go_wp2_with (first
      | (refine wpList_load_mach rfl _ rfl B x m rfl HX.out ?_)
      | (go_at_call 27; refine HRU.out.mono ?_; rintro e w2 ⟨rfl, hb2⟩; have HB2 := Lib.hid hb2; clear hb2))
    go_ret2
    exact ⟨⟨.slice none 0 0, by rw [HTK.out]; rfl, fun _ => rfl, fun h => (by rw [HTK.out] at h; cases h)⟩, (HK.out _ HB2.out).2.2⟩
  | true =>
    rw [htk] at HRU
    have HTK := Lib.hid htk
    have HT := Lib.hid ((takes_iff m _).1 htk)
    clear htk
    obtain ⟨l0, hl0⟩ := tk_runs.1 HT.out.2
    obtain ⟨R, hR⟩ := lr_ex hl0
    have HR := Lib.hid hR
    have HRT := Lib.hid HT.out.1
    have HRL : Hid (R.length = s.size) := Lib.hid (by rw [HR.out.len, HLEN.out])
    clear hl0 hR HT
    go_upto_region 4 with (first
      | (refine wpList_load_mach rfl _ rfl B x m rfl HX.out ?_)
      | (go_at_call 27; refine HRU.out.mono ?_; rintro e w2 ⟨rfl, hb2⟩; have HB2 := Lib.hid hb2; clear hb2))
    have HKQ : Hid (∀ W, Below w1.heap.size w2 W → Below w1.heap.size w1 W) := Lib.hid (fun W hW => HB2.out.trans hW)
    obtain ⟨q, hq⟩ : ∃ q, Hid (w1.heap.size = q) := ⟨_, Lib.hid rfl⟩
    have HI0 : Hid (MkI w2 q m R 0 (.slice none 0 0) (.slice none 0 0) w2) := Lib.hid ⟨World.ownsRow_nil _ _ _ _, OwnN.nil _ _, Below.refl _ _, by rw [← hq.out]; exact HB2.out.size⟩
    rw [hq.out] at HKQ HBQ
    have HKK : Hid (∀ W, Below q w2 W → BoxM W B x m ∧ MAt W x m ∧ Below w.heap.size w W) := Lib.hid (fun W hW => HK.out _ (hq.out ▸ HKQ.out W hW))
    go_upto_region 6 with fail
    go_loopw [6, 7, 8] (fun v a i wr => ∃ j : Nat, i = .int .i64 j ∧ j ≤ s.size ∧ Hid (MkI w2 q m R j v a wr)) (fun _ _ i _ => ((s.size : Int) - intOf i).toNat)
    case atStart => exact ⟨0, rfl, Nat.zero_le _, HI0⟩
    case round =>
      obtain ⟨j, rfl, hj, HI⟩ := hrel
      generalize hwr : wr = w7 at *
      clear hwr wr HI0
      by_cases hlt : j < s.size
      · have hdd : decide ((j : Int) < (s.size : Int)) = true := decide_eq_true (by omega)
        have hd2 : decide (j < s.size) = true := decide_eq_true hlt
        have hix := index_bs s j _ rfl hlt
        have HCC : Hid ((Nf.bs s).getD j 0 < 256) := Lib.hid (HBL.out _ (getD_mem (by rw [HLEN.out]; exact hlt)))
        have HW1 : Hid (wrap64 ((j : Int) + 1) = ((j + 1 : Nat) : Int)) := Lib.hid (nat_wrap (by have := HS.out; omega))
        have HJ := Lib.hid hlt
        have HJ2 : Hid (j < (Nf.bs s).length) := Lib.hid (by rw [HLEN.out]; exact hlt)
        have HST : Hid (((j : Int) == 0) = true ↔ pOf R j = none) := Lib.hid (by
          cases j with
          | zero => simp [pOf]
          | succ j => simp [pOf]; omega)
        have HX7 := Lib.hid (HKK.out _ HI.out.bel).1
        have HBX7 := Lib.hid HX7.out.lt
        have HAL : Hid ((atO (pOf R j)).length ≤ 1000) := Lib.hid (by cases pOf R j <;> simp [atO])
        have HAR : Hid (∀ i ∈ atO (pOf R j), 0 ≤ i ∧ i < m.fo.length) := Lib.hid (fun i hi => by
          cases j with
          | zero => cases hi
          | succ j =>
            have hi : i ∈ [((R.getD j 0 : Nat) : Int)] := hi
            have e : i = ((R.getD j 0 : Nat) : Int) := by simpa using hi
            have h1 := nx_lt HRT.out (HR.out.next (j := j) (by have := HJ2.out; omega)).1
            have h2 := HRT.out.fol
            omega)
        obtain ⟨a5, cap5, rfl, hn5⟩ := HI.out.at'.nums
        have HN5 := Lib.hid (hn5.kept ((Below.refl _ _).drew))
        clear hn5 hlt
        have HSP := Lib.hid (rstep_any x m w7.drew ((HKK.out _ HI.out.bel).2.1.kept ((Below.refl _ _).drew)) HF.out a5 cap5 (atO (pOf R j)) HN5.out HAL.out HAR.out ((j : Int) == 0) ((Nf.bs s).getD j 0) HCC.out)
        obtain ⟨l, hl⟩ : ∃ l, Hid (stepL m (atO (pOf R j)) ((j : Int) == 0) ((Nf.bs s).getD j 0) m.sp.length = l) := ⟨_, Lib.hid rfl⟩
        rw [hl.out] at HSP
        obtain ⟨c, hc⟩ : ∃ c, Hid ((Nf.bs s).getD j 0 = c) := ⟨_, Lib.hid rfl⟩
        rw [hc.out] at HSP hix HCC
        rw [hc.out] at hl
        go_upto_region 8 with fail
        refine region_mix [(false, 0), (false, 1), (false, 2), (false, 3), (false, 4), (false, 5), (false, 6), (true, 7)] (fun w' => Below w7.heap.size w7 w') (by kernel_rfl) (by kernel_rfl) ((Below.refl _ _).drew) ?_
        simp only [planOps, List.map_cons, List.map_nil, List.getD_cons_zero, List.getD_cons_succ, List.length_cons, List.length_nil, List.drop_succ_cons, List.drop_zero]
        refine mix_seg (seg := [_, _, _, _, _, _, _]) (rest := [_]) rfl ((Below.refl _ _).drew) ?_
        intro ι hι F hF
        have f2 := Lib.hid (fun n => HX7.out.kept (hF n) HBX7.out)
        refine BigFrame.wpQuiet_want rfl (fun K hK => ?_); refine quiet_load_mach _ rfl B x m rfl (fun w' ⟨n, e⟩ => e ▸ f2.out n) ?_; refine hK _ ?_; clear hK K; simp only [Act.put, List.setIfInBounds_toArray, List.set_cons_zero, List.set_cons_succ]
        iterate 6 (go_big_quiet_step (fail))
        refine wpQuiet_nil ?_
        clear f2 hF hι F
        refine mix_eff (fun K hK => ?_)
        go_wp2_with (go_at_call 21; refine HSP.out.mono ?_; rintro e w8 ⟨v8, rfl, ho8, hb8⟩; have HO8 := Lib.hid ho8; have HB8 := Lib.hid (((Below.refl _ _).drew).trans hb8); clear ho8 hb8)
        refine mix_on hK HB8.out ?_
        clear hK K HSP
        show wpList _ _ _ _ _ _
        go_wp2_with fail
        refine NoPanic.normal ?_
        have HIA := Lib.hid (HI.out.stay HB8.out)
        rw [World.size_drew] at HO8
        obtain ⟨a8, c8, rfl, hn8⟩ := HO8.out.nums
        have HN8 := Lib.hid hn8
        clear hn8 HO8 HB8 HI HN5
        have HSTL : Hid (l = stepL m (atO (pOf R j)) ((j : Int) == 0) ((Nf.bs s).getD j 0) m.sp.length) := Lib.hid (by rw [← hl.out, ← hc.out])
        have HLL : Hid (l.length ≤ 1000 ∧ ∀ i ∈ l, ∃ k : Nat, i = k ∧ k < m.sp.length) := Lib.hid ⟨by rw [HSTL.out]; have := stepL_len m (atO (pOf R j)) ((j : Int) == 0) ((Nf.bs s).getD j 0) m.sp.length; have := HRT.out.many; omega, fun i hi => by
          rw [HSTL.out] at hi
          obtain ⟨k, h1, h2, -⟩ := (stepL_mem m _ _ _ _ _).1 hi
          exact ⟨k, h1, h2⟩⟩
        clear hl hc
        have HSZ : Hid ((s.extract (j + 1) s.size).size ≤ 1000) := Lib.hid (by rw [← Nf.bs_len, bs_from, List.length_drop, HLEN.out]; have := HS.out; omega)
        have HBF := Lib.hid (bs_from s (j + 1))
        go_wp2_with fail
        go_loopw [10, 11] (fun b i wr => ∃ n : Nat, i = .int .i64 n ∧ n ≤ l.length ∧ Hid (Below w8.heap.size w8 wr) ∧ Hid ((b = .int .i64 (-1) ∧ ∀ i, i < n → ¬ Gs m (l.getD i 0).toNat ((Nf.bs s).drop (j + 1))) ∨ b = .int .i64 (R.getD j 0 : Nat))) (fun _ i _ => ((l.length : Int) - intOf i).toNat)
        case atStart => exact ⟨0, rfl, Nat.zero_le _, Lib.hid (Below.refl _ _), Lib.hid (.inl ⟨rfl, fun i hi => absurd hi (Nat.not_lt_zero _)⟩)⟩
        case round =>
          obtain ⟨n, rfl, hn, HBL8, HBST⟩ := hrel
          generalize hwr : wr = w9 at *
          clear hwr wr
          rcases HBST.out with ⟨rfl, hno⟩ | rfl
          · have HNO := Lib.hid hno
            clear hno HBST
            by_cases hnl : n < l.length
            · have hd4 : decide ((n : Int) < (l.length : Int)) = true := decide_eq_true (by omega)
              have hd5 : decide (n < l.length) = true := decide_eq_true hnl
              obtain ⟨k, hk1, hk2⟩ := HLL.out.2 _ (getD_mem (d := 0) hnl)
              have HKL := Lib.hid hk2
              have HKE := Lib.hid hk1
              obtain ⟨b2, o2, rfl, hc3⟩ := HN8.out n hnl
              have hc4 := (HBL8.out.cell (World.block_lt_of_cell? _ _ hc3)).trans hc3
              rw [hk1] at hc4
              have HW3 : Hid (wrap64 ((n : Int) + 1) = ((n + 1 : Nat) : Int)) := Lib.hid (nat_wrap (by have h1 := HLL.out.1; omega))
              have HNL := Lib.hid hnl
              have hnl2 : (n : Int) < (l.length : Int) := by omega
              clear hk1 hk2 hc3 hnl
              have HI9 := Lib.hid (HIA.out.stay HBL8.out)
              have HX9 := Lib.hid (HKK.out _ HI9.out.bel).1
              have HBX9 := Lib.hid HX9.out.lt
              have HEN := Lib.hid (ends14_any x m k (s.extract (j + 1) s.size) w9.drew ((HKK.out _ HI9.out.bel).2.1.kept ((Below.refl _ _).drew)) HF.out HRT.out HKL.out HSZ.out)
              rw [HBF.out] at HEN
              have HB2L := Lib.hid (World.block_lt_of_cell? _ _ hc4)
              have HC4 := Lib.hid hc4
              clear hc4
              have hw1 := HW1.out
              have hjs : ((j + 1 : Nat) : Int) ≤ (s.size : Int) := by have := HJ.out; omega
              have hjs2 : decide (((j + 1 : Nat) : Int) ≤ (s.size : Int)) = true := decide_eq_true hjs
              go_upto_region 13 with fail
              refine region_mix [(false, 0), (false, 1), (false, 2), (false, 3), (false, 4), (false, 5), (false, 6), (false, 7), (false, 8)] (fun w' => Below w9.heap.size w9 w') (by kernel_rfl) (by kernel_rfl) ((Below.refl _ _).drew) ?_
              simp only [planOps, List.map_cons, List.map_nil, List.getD_cons_zero, List.getD_cons_succ, List.length_cons, List.length_nil, List.drop_succ_cons, List.drop_zero]
              refine mix_seg (seg := [_, _, _, _, _, _, _, _, _]) (rest := []) rfl ((Below.refl _ _).drew) ?_
              intro ι hι F hF
              have f2 := Lib.hid (fun n => HX9.out.kept (hF n) HBX9.out)
              have f3 := fun n' => ((hF n').cell (p := ⟨b2, o2 + n, none⟩) HB2L.out).trans HC4.out
              refine BigFrame.wpQuiet_want rfl (fun K hK => ?_); refine quiet_load_mach _ rfl B x m rfl (fun w' ⟨n, e⟩ => e ▸ f2.out n) ?_; refine hK _ ?_; clear hK K; simp only [Act.put, List.setIfInBounds_toArray, List.set_cons_zero, List.set_cons_succ]
              repeat (go_big_quiet_step (fail))
              refine wpQuiet_nil ?_
              clear f2 f3 hF hι F
              show wpList _ _ _ _ _ _
              go_wp2_with (go_at_call 28; refine HEN.out.mono ?_; rintro e w10 ⟨⟨bb, rfl, hbb⟩, hb10⟩; have HBB := Lib.hid hbb; have HB10 := Lib.hid (((Below.refl w9.heap.size w9).drew).trans (hb10.mono (by simp))); clear hb10 hbb)
              refine NoPanic.normal ?_
              clear HEN
              have HBT := Lib.hid (HBL8.out.trans (HB10.out.mono HBL8.out.size))
              have hc5 := (HB10.out.cell (p := ⟨b2, o2 + n, none⟩) HB2L.out).trans HC4.out
              have hnk : Hid (((l.getD n 0).toNat) = k) := Lib.hid (by rw [HKE.out]; simp)
              cases bb with
              | true =>
                have HBE : Hid ((k : Int) = (R.getD j 0 : Nat)) := Lib.hid (by
                  rw [← HKE.out]
                  exact found HRT.out HR.out HJ2.out HST.out HSTL.out HNL.out HNO.out (by rw [hnk.out]; exact HBB.out.1 rfl))
                go_wp2_with fail
                go_roundw
                case rel => exact ⟨n + 1, by rw [HW3.out], HNL.out, HBT, Lib.hid (.inr (by rw [HBE.out]))⟩
                case measure => rw [HW3.out]; exact meas9 HNL.out
              | false =>
                have HNG : Hid (∀ i, i < n + 1 → ¬ Gs m (l.getD i 0).toNat ((Nf.bs s).drop (j + 1))) := Lib.hid (fun i hi => by
                  rcases Nat.lt_or_ge i n with h | h
                  · exact HNO.out i h
                  · obtain rfl : i = n := by omega
                    rw [hnk.out]
                    exact fun hg => by have := HBB.out.2 hg; cases this)
                go_wp2_with fail
                go_roundw
                case rel => exact ⟨n + 1, by rw [HW3.out], HNL.out, HBT, Lib.hid (.inl ⟨rfl, HNG.out⟩)⟩
                case measure => rw [HW3.out]; exact meas9 HNL.out
            · exact (some_found HRT.out HR.out HJ2.out HST.out HSTL.out (fun i hi => HNO.out i (by omega))).elim
          · have HIB := Lib.hid (HIA.out.stay HBL8.out)
            obtain ⟨n1, n2, -, -⟩ := HR.out.next HJ2.out
            have HKL := Lib.hid (nx_lt HRT.out n1)
            obtain ⟨k, hk⟩ : ∃ k, Hid (R.getD j 0 = k) := ⟨_, Lib.hid rfl⟩
            rw [hk.out] at HKL ⊢
            clear n1 n2 HBST
            have hk0 : decide ((k : Int) < 0) = false := decide_eq_false (by omega)
            have hor : (decide ((n : Int) < (l.length : Int)) = false ∧ decide (n < l.length) = false) ∨ (decide ((n : Int) < (l.length : Int)) = true ∧ decide (n < l.length) = true) := by
              by_cases h1 : n < l.length
              · exact .inr ⟨decide_eq_true (by omega), decide_eq_true h1⟩
              · exact .inl ⟨decide_eq_false (by omega), decide_eq_false h1⟩
            have HO1 : Hid (OwnN w9.heap.size (w9.alloc (.cells #[.int .i64 k] 3)) (.slice (some ⟨w9.heap.size, 0, none⟩) 1 1) [(k : Int)]) := Lib.hid (World.ownsRow_lit w9 _ 1 (Nat.le_refl _) (by decide) rfl)
            have HA1 := Lib.hid ((Below.refl w9.heap.size w9).alloc (Nat.le_refl _) (.cells #[.int .i64 k] 3))
            have HIC := Lib.hid (HIB.out.stay HA1.out)
            have HOA := Lib.hid (own_mono HO1.out HIB.out.size)
            have c0 := (HKK.out _ HIC.out.bel).1.c0
            obtain ⟨sb, so, hsa, hsr⟩ := (HKK.out _ HIC.out.bel).2.1.sp k HKL.out
            rw [hsa] at c0
            have c4 := hsr 4 (.int .u8 (m.sp.getD k (0, 0)).2) rfl
            obtain ⟨tg, htg⟩ : ∃ tg, Hid ((m.sp.getD k (0, 0)).2 = tg) := ⟨_, Lib.hid rfl⟩
            rw [htg.out] at c4
            clear hsr hsa
            have hkl : (k : Int) < (m.sp.length : Int) := by have := HKL.out; omega
            have HQS := Lib.hid HIC.out.size
            have HJN : Hid (j ≤ 100000) := Lib.hid (by have := HJ.out; have := HS.out; omega)
            have HNX : Hid (∀ v2 wB, (World.ownsRow wB q 5 1 v2 (j + 1) (u8s (mkR m (R.take j)) ++ [.int .u8 tg])) → Below q (w9.alloc (.cells #[.int .i64 k] 3)) wB → Ap (w9.alloc (.cells #[.int .i64 k] 3)) u6 wB v2 → MkI w2 q m R (j + 1) v2 (.slice (some ⟨w9.heap.size, 0, none⟩) 1 1) wB) := Lib.hid (fun v2 wB ho hb ha => by
              refine ⟨?_, ?_, HIC.out.bel.trans hb, Nat.le_trans HIC.out.size ha.size⟩
              · have e : u8s (mkR m (R.take (j + 1))) = u8s (mkR m (R.take j)) ++ [.int .u8 tg] := by
                  have hjr : j < R.length := by rw [HRL.out]; exact HJ.out
                  rw [List.take_succ_eq_append_getElem hjr]
                  unfold mkR u8s
                  rw [List.map_append, List.map_append]
                  congr 1
                  have h1 : R[j] = k := by rw [← hk.out, List.getD_eq_getElem?_getD, List.getElem?_eq_getElem hjr]; rfl
                  simp only [List.map_cons, List.map_nil, h1]
                  unfold tgN
                  rw [htg.out]
                rw [e]; exact ho
              · show OwnN q wB _ [((R.getD j 0 : Nat) : Int)]
                rw [hk.out]
                refine own_kept HOA.out fun g hg => ha.block g (HOA.out.lt g hg).2 (fun e => ?_)
                obtain ⟨cs, hc1⟩ := own_type HIC.out.out e
                obtain ⟨cs2, hc2⟩ := own_type HOA.out hg
                rw [hc1] at hc2
                injection hc2 with hc2
                injection hc2 with _ hc2
                exact absurd hc2 (by decide))
            have HOU := Lib.hid HIC.out.out
            clear HO1 HA1 HOA HIC HIB HIA HN8 HSTL HLL HBL8
            rcases hor with ⟨h1, h2⟩ | ⟨h1, h2⟩
            all_goals
              go_upto_region 16 with fail
              obtain ⟨gA, hgA⟩ : ∃ gA, Hid (w9.heap.size = gA) := ⟨_, Lib.hid rfl⟩
              rw [hgA.out] at HNX ⊢
              generalize w9.alloc (.cells #[.int .i64 k] 3) = wA at *
              go_upto_region 7 with (refine wpList_push 30 5 (.int .u8 0) 1 1 Tryd.underlying30 infoB rfl (by decide) rfl (.tmp 56) (.tmp 63) rfl q u6 j (u8s (mkR m (R.take j))) rfl HOU.out [.int .u8 tg] _ rfl rfl (fun u hu => by rw [List.mem_singleton] at hu; rw [hu]; rfl) rfl HJN.out (by decide) HQS.out ?_; intro v2 wB ho2 hb2 ha2; have HIN := Lib.hid (HNX.out v2 wB ho2 hb2 ha2); clear ho2 hb2 ha2)
              clear c0 c4 hkl h1 h2
              go_wp2_with fail
              go_roundw
              case rel => exact ⟨j + 1, by rw [HW1.out], HJ.out, HIN⟩
              case measure => rw [HW1.out]; exact meas9 HJ.out
      · have hdd : decide ((j : Int) < (s.size : Int)) = false := decide_eq_false (by omega)
        have hd2 : decide (j < s.size) = false := decide_eq_false hlt
        obtain rfl : j = s.size := by omega
        have HFN : Hid (w7.ownsRow q 5 1 u6 R.length (u8s (mkR m R))) := Lib.hid (by
          have h1 := HI.out.out
          rw [List.take_of_length_le (by rw [HRL.out]; exact Nat.le_refl _)] at h1
          rw [HRL.out]; exact h1)
        have HBE := Lib.hid (HKK.out _ HI.out.bel).2.2
        clear HI hlt
        go_wp2_with fail
        go_ret2
        exact ⟨⟨u6, by rw [HTK.out]; rfl, fun h => (by rw [HTK.out] at h; cases h), fun _ R2 hR2 => by rw [← Lr.one HR.out hR2]; exact own_mono HFN.out (by rw [hB.out]; exact Nat.le_of_lt HBQ.out)⟩, HBE.out⟩
end Fs
end Go.Proofs.YtghbgfkkdknmnaaDoor
namespace Go.Proofs.YtghbgfkkdknmnaaDoor
open Go.RowKit Sets Nf
namespace Fs
/-- The bytes of the first j that are marked t, in their row. -/
def flM (w L : List Nat) (t : Nat) : Nat → List Nat
  | 0 => []
  | j + 1 => if L.getD j 0 = t then flM w L t j ++ [w.getD j 0] else flM w L t j
theorem flM_len (w L : List Nat) (t : Nat) : ∀ j, (flM w L t j).length ≤ j
  | 0 => Nat.le_refl _
  | j + 1 => by
    have := flM_len w L t j
    unfold flM
    split
    · rw [List.length_append, List.length_singleton]; omega
    · omega
theorem bs_one (s : ByteArray) (j : Nat) (h : j < s.size) : Nf.bs (s.extract j (j + 1)) = [(Nf.bs s).getD j 0] := by
  have h2 : j < s.data.toList.length := h
  unfold Nf.bs
  rw [Lib.extract_data, Nat.add_sub_cancel_left, List.drop_eq_getElem_cons h2, List.getD_eq_getElem?_getD, List.getElem?_map, List.getElem?_eq_getElem h2]
  rfl
theorem bs_add (a b : ByteArray) : Nf.bs (a ++ b) = Nf.bs a ++ Nf.bs b := by
  unfold Nf.bs
  rw [show (a ++ b).data.toList = a.data.toList ++ b.data.toList from by simp, List.map_append]
def pcV (ok : Bool) (h p : ByteArray) : Array Value := #[.bool ok, .string h, .string p]
theorem zeroPa (w : World) : (zeroValue 35).run Tryd.prog w = .ok (.agg #[.bool false, .string ⟨#[]⟩, .string ⟨#[]⟩]) w := by kernel_rfl
theorem sizePa (ok : Bool) (h p : ByteArray) : (Tryd.prog.info? 35).map (·.size) = some (pcV ok h p).size := by kernel_rfl
set_option maxHeartbeats 12800000 in
set_option maxRecDepth 100000 in
theorem run14_any (x : Ma) (m : Mc) (s : ByteArray) (w : World) (h : MAt w x m) (hf : Fine m) (hs : s.size ≤ 1000) :
    Calls Tryd.prog 15 #[.agg (mc x m), .string s] w fun e w' => (∃ L hS pS, e = .returned (.agg (pcV (takesM m (Nf.bs s)) hS pS)) ∧ (takesM m (Nf.bs s) = false → L = []) ∧ (takesM m (Nf.bs s) = true → ∀ R, Lr m none (Nf.bs s) R → L = mkR m R) ∧ Nf.bs hS = flM (Nf.bs s) L 1 L.length ∧ Nf.bs pS = flM (Nf.bs s) L 2 L.length) ∧ Below w.heap.size w w' := by
  have HM := Lib.hid h
  have HF := Lib.hid hf
  have HS := Lib.hid hs
  have hz := zeroPa
  clear h hf hs
  go_enter Tryd.func15, Tryd.ntmps15
  go_upto_region 1 with fail
  have hal := (Below.refl w.heap.size w).alloc (Nat.le_refl _) (.cells (mc x m) 27)
  have hal2 := (Below.refl (w.alloc (.cells (mc x m) 27)).heap.size (w.alloc (.cells (mc x m) 27))).alloc (Nat.le_refl _) (.cells (pcV false ⟨#[]⟩ ⟨#[]⟩) 35)
  have HX := Lib.hid ((BoxM.new w x m).kept hal2 (by simp))
  have HZ : Hid (((w.alloc (.cells (mc x m) 27)).alloc (.cells (pcV false ⟨#[]⟩ ⟨#[]⟩) 35)).heap[w.heap.size + 1]? = some (.cells (pcV false ⟨#[]⟩ ⟨#[]⟩) 35 (0, 0))) := Lib.hid (by
    have h := heap_alloc_new (w.alloc (.cells (mc x m) 27)) (.cells (pcV false ⟨#[]⟩ ⟨#[]⟩) 35)
    rw [show (w.alloc (.cells (mc x m) 27)).heap.size = w.heap.size + 1 from by simp] at h
    exact h)
  have HB := Lib.hid (hal.trans (hal2.mono hal.size))
  clear hal hal2
  change Code.wp _ _ _ _ ((w.alloc (.cells (mc x m) 27)).alloc (.cells (pcV false ⟨#[]⟩ ⟨#[]⟩) 35))
  generalize (w.alloc (.cells (mc x m) 27)).alloc (.cells (pcV false ⟨#[]⟩ ⟨#[]⟩) 35) = w1 at *
  obtain ⟨B, hB⟩ : ∃ B, Hid (w.heap.size = B) := ⟨_, Lib.hid rfl⟩
  rw [hB.out] at HX HZ ⊢
  obtain ⟨B1, hB1⟩ : ∃ B1, Hid (B + 1 = B1) := ⟨_, Lib.hid rfl⟩
  rw [hB1.out] at HZ ⊢
  have HK : Hid (∀ W, Below w1.heap.size w1 W → BoxM W B x m ∧ MAt W x m ∧ W.heap[B1]? = some (.cells (pcV false ⟨#[]⟩ ⟨#[]⟩) 35 (0, 0)) ∧ Below w.heap.size w W) := Lib.hid (fun W hW => by
    have h1 := HB.out.trans (hW.mono HB.out.size)
    exact ⟨HX.out.kept hW HX.out.lt, HM.out.kept h1, (hW.block B1 (Array.getElem?_eq_some_iff.1 HZ.out).1).trans HZ.out, h1⟩)
  have HMA := Lib.hid (marks14_any x m s w1 (HK.out _ (Below.refl _ _)).2.1 HF.out HS.out)
  obtain ⟨tk, htk⟩ : ∃ tk, Hid (takesM m (Nf.bs s) = tk) := ⟨_, Lib.hid rfl⟩
  rw [htk.out] at HMA
  go_upto_region 2 with (first
    | (refine wpList_load_mach rfl _ rfl B x m rfl HX.out ?_)
    | (go_at_call 12; refine HMA.out.mono ?_; rintro e w2 ⟨⟨v, rfl, hno, hyes⟩, hb2⟩; have HNO := Lib.hid hno; have HYE := Lib.hid hyes; have HB2 := Lib.hid hb2; clear hno hyes hb2))
  have HLX : Hid (∃ L, BytesAt w2 v L ∧ L.length ≤ s.size ∧ (tk = false → L = []) ∧ (tk = true → ∀ R, Lr m none (Nf.bs s) R → L = mkR m R)) := Lib.hid (by
    cases tk with
    | false => exact ⟨[], by rw [HNO.out rfl]; exact ⟨by simp, by simp, none, 0, rfl, by simp⟩, Nat.zero_le _, fun _ => rfl, fun h => (by cases h)⟩
    | true =>
      have hT := (takes_iff m _).1 htk.out
      obtain ⟨l0, hl0⟩ := tk_runs.1 hT.2
      obtain ⟨R, hR⟩ := lr_ex hl0
      have ho := HYE.out rfl R hR
      have hlen : (mkR m R).length = R.length := List.length_map _
      refine ⟨mkR m R, owns_bytes (by rw [hlen]; exact ho) (fun y hy => ?_) (by rw [hlen, hR.len, Nf.bs_len]; have := HS.out; unfold maxLen; omega), by rw [hlen, hR.len, Nf.bs_len]; exact Nat.le_refl _, fun h => (by cases h), fun _ R2 hR2 => by rw [Lr.one hR hR2]⟩
      obtain ⟨k, -, rfl⟩ := List.mem_map.1 hy
      unfold tgN
      rcases Nat.lt_or_ge k m.sp.length with h | h
      · have := hT.1.tag _ (getD_mem (d := ((0, 0) : Nat × Nat)) h); omega
      · rw [getD_ge h]; decide)
  obtain ⟨L, hLB, hLL, hL0, hL1⟩ := HLX.out
  have HL0 := Lib.hid hL0
  have HL1 := Lib.hid hL1
  have HLL := Lib.hid hLL
  obtain ⟨-, -, va, vc, rfl, hLC⟩ := hLB
  have HLC := Lib.hid hLC
  clear hL0 hL1 hLL hLC HLX HNO HYE HMA
  go_upto_region 3 with (refine wpList_store_row rfl 35 (.tmp 7) (.tmp 16) rfl w2.heap.size (pcV tk ⟨#[]⟩ ⟨#[]⟩) rfl rfl 35 _ (heap_alloc_new w2 _) (sizePa _ _ _) rfl (by simp [pcV, Value.oneCell']) ?_; rw [World.setRow_alloc_new])
  have hput : ∀ a : Act, a.put none undef = a := fun _ => rfl
  rw [hput]
  clear hput hz
  have hal := (Below.refl w2.heap.size w2).alloc (Nat.le_refl _) (.cells (pcV tk ⟨#[]⟩ ⟨#[]⟩) 35)
  have HR0 := Lib.hid (heap_alloc_new w2 (.cells (pcV tk ⟨#[]⟩ ⟨#[]⟩) 35))
  have HBA := Lib.hid hal
  obtain ⟨kb, hkb⟩ : ∃ kb, Hid (w2.heap.size = kb) := ⟨_, Lib.hid rfl⟩
  rw [hkb.out] at HR0 HBA ⊢
  clear hal
  generalize w2.alloc (.cells (pcV tk ⟨#[]⟩ ⟨#[]⟩) 35) = w3 at *
  have HKK : Hid (∀ W, Below kb w2 W → (∀ i, i < L.length → ∃ b o, va = some ⟨b, o, none⟩ ∧ W.cell? ⟨b, o + i, none⟩ = some (.int .u8 (L.getD i 0 : Nat)) ∧ b < W.heap.size) ∧ W.heap[B1]? = some (.cells (pcV false ⟨#[]⟩ ⟨#[]⟩) 35 (0, 0)) ∧ Below w.heap.size w W) := Lib.hid (fun W hW => by
    rw [← hkb.out] at hW
    refine ⟨fun i hi => ?_, (HK.out W (HB2.out.trans (hW.mono HB2.out.size))).2.2.1, (HK.out W (HB2.out.trans (hW.mono HB2.out.size))).2.2.2⟩
    obtain ⟨b, o, e, hc⟩ := HLC.out i hi
    have h2 := (hW.cell (World.block_lt_of_cell? _ _ hc)).trans hc
    exact ⟨b, o, e, h2, World.block_lt_of_cell? _ _ h2⟩)
  clear HLC HX HZ
  go_wp2_with fail
  go_loopw [8] (fun i wr => ∃ (j : Nat) (h p : ByteArray), i = .int .i64 j ∧ j ≤ L.length ∧ Hid (wr.heap[kb]? = some (.cells (pcV tk h p) 35 (0, 0))) ∧ Hid (Nf.bs h = flM (Nf.bs s) L 1 j) ∧ Hid (Nf.bs p = flM (Nf.bs s) L 2 j) ∧ Hid (Below kb w2 wr)) (fun i _ => ((L.length : Int) - intOf i).toNat)
  case atStart => exact ⟨0, ⟨#[]⟩, ⟨#[]⟩, rfl, Nat.zero_le _, HR0, Lib.hid rfl, Lib.hid rfl, HBA⟩
  case round =>
    obtain ⟨j, h, p, rfl, hj, HR, HH, HP, HB⟩ := hrel
    generalize hwr : wr = w7 at *
    clear hwr wr HR0 HBA w3
    by_cases hlt : j < L.length
    · have hdd : decide ((j : Int) < (L.length : Int)) = true := decide_eq_true (by omega)
      have hd2 : decide (j < L.length) = true := decide_eq_true hlt
      have hjl : (j : Int) < (L.length : Int) := by omega
      have HW1 : Hid (wrap64 ((j : Int) + 1) = ((j + 1 : Nat) : Int)) := Lib.hid (nat_wrap (by have h1 := HLL.out; have h2 := HS.out; omega))
      have HJ := Lib.hid hlt
      obtain ⟨b, o, rfl, hc, hbl⟩ := (HKK.out _ HB.out).1 j hlt
      have HO1 := Lib.hid (bs_one s j (by have := HLL.out; omega))
      have HF1 : Hid (flM (Nf.bs s) L 1 (j + 1) = if L.getD j 0 = 1 then flM (Nf.bs s) L 1 j ++ [(Nf.bs s).getD j 0] else flM (Nf.bs s) L 1 j) := Lib.hid rfl
      have HF2 : Hid (flM (Nf.bs s) L 2 (j + 1) = if L.getD j 0 = 2 then flM (Nf.bs s) L 2 j ++ [(Nf.bs s).getD j 0] else flM (Nf.bs s) L 2 j) := Lib.hid rfl
      have hjs : ((j + 1 : Nat) : Int) ≤ (s.size : Int) := by have := HLL.out; omega
      have hjs2 : decide (((j + 1 : Nat) : Int) ≤ (s.size : Int)) = true := decide_eq_true hjs
      have hjw : (j : Int) < 1000 := by have h1 := HLL.out; have h2 := HS.out; omega
      have hjw2 : j < 1000 := by omega
      have hh9 : h.size ≤ 1000 := by have h1 := flM_len (Nf.bs s) L 1 j; rw [← HH.out, Nf.bs_len] at h1; omega
      have hp9 : p.size ≤ 1000 := by have h1 := flM_len (Nf.bs s) L 2 j; rw [← HP.out, Nf.bs_len] at h1; omega
      have hz9 : (s.extract j (j + 1)).size = 1 := by rw [← Nf.bs_len, HO1.out]; rfl
      have hsl : ∀ w, (Instr.slice 9 (.string s) (some (.int .i64 (j : Int))) (some (.int .i64 ((j : Int) + 1))) none).run Tryd.prog w = .ok (.string (s.extract j (j + 1))) w := fun w => by
        have := run_slice_string (P := Tryd.prog) w 9 s .i64 .i64 (j : Int) ((j : Int) + 1) Tryd.underlying9 (by omega) (by omega) (by omega)
        rw [this, show ((j : Int) + 1).toNat = j + 1 from by omega, Int.toNat_natCast]
      have HKL := Lib.hid (Array.getElem?_eq_some_iff.1 HR.out).1
      have HCB := Lib.hid hc
      have HBLT := Lib.hid hbl
      clear hbl
      obtain ⟨y, hy⟩ : ∃ y, Hid (L.getD j 0 = y) := ⟨_, Lib.hid rfl⟩
      have HY := hy
      rw [hy.out] at hc HF1 HF2
      clear hy HCB
      by_cases h1 : y = 1
      · subst h1
        have HCC : Hid (w7.cell? ⟨kb, 1, none⟩ = some (.string h)) := Lib.hid (by rw [cell_of_row w7 kb 1 _ _ _ HR.out]; rfl)
        have HFZ : Hid (w7.frozen? ⟨kb, 1, none⟩ = false) := Lib.hid (frozen_of_row w7 kb 1 _ _ HR.out)
        go_upto_region 7 with fail
        refine region_mix [(false, 0), (false, 1), (false, 2), (false, 3), (false, 4), (false, 5), (false, 6), (false, 7), (false, 8)] (fun w' => Below w7.heap.size w7 w') (by kernel_rfl) (by kernel_rfl) ((Below.refl _ _).drew) ?_
        simp only [planOps, List.map_cons, List.map_nil, List.getD_cons_zero, List.getD_cons_succ, List.length_cons, List.length_nil, List.drop_succ_cons, List.drop_zero]
        refine mix_seg (seg := [_, _, _, _, _, _, _, _, _]) (rest := []) rfl ((Below.refl _ _).drew) ?_
        intro ι hι F hF
        have f1 := fun n => ((hF n).cell (p := ⟨kb, 1, none⟩) HKL.out).trans HCC.out
        repeat (go_big_quiet_step (fail))
        refine wpQuiet_nil ?_
        clear f1 hF hι F
        show wpList _ _ _ _ _ _
        have cd : w7.drew.cell? ⟨kb, 1, none⟩ = some (.string h) := HCC.out
        have cf : w7.drew.frozen? ⟨kb, 1, none⟩ = false := HFZ.out
        go_wp2_with fail
        refine NoPanic.normal ?_
        clear cd cf
        have HB2' : Hid (Below kb w2 ((w7.setCell ⟨kb, 1, none⟩ (.string (h ++ s.extract j (j + 1)))).drew)) := Lib.hid (HB.out.setCell (Nat.le_refl _) _).drew
        have HR2' : Hid (((w7.setCell ⟨kb, 1, none⟩ (.string (h ++ s.extract j (j + 1)))).drew).heap[kb]? = some (.cells (pcV tk (h ++ s.extract j (j + 1)) p) 35 (0, 0))) := Lib.hid (by
          show (w7.setCell ⟨kb, 1, none⟩ _).heap[kb]? = _; rw [heap_setCell_same w7 kb 1 _ _ _ HR.out]; rfl)
        have HS2' : Hid (Nf.bs (h ++ s.extract j (j + 1)) = Nf.bs h ++ [(Nf.bs s).getD j 0]) := Lib.hid (by rw [bs_add, HO1.out])
        generalize (w7.setCell ⟨kb, 1, none⟩ (.string (h ++ s.extract j (j + 1)))).drew = w8 at *
        generalize h ++ s.extract j (j + 1) = h2 at *
        obtain ⟨b', o', e9, hc', -⟩ := (HKK.out _ HB2'.out).1 j HJ.out
        injection e9 with e9
        injection e9 with e9 e10
        subst e9; subst e10
        rw [HY.out] at hc'
        go_wp2_with fail
        go_roundw
        case rel => exact ⟨j + 1, h2, p, by first | rw [HW1.out] | rfl, HJ.out, HR2', Lib.hid (by rw [HS2'.out, HH.out, HF1.out]; simp), Lib.hid (by rw [HP.out, HF2.out, if_neg (by decide)]), HB2'⟩
        case measure => first | (rw [HW1.out]; exact meas9 HJ.out) | exact meas9 HJ.out
      · by_cases h2 : y = 2
        · subst h2
          clear h1
          have HCC : Hid (w7.cell? ⟨kb, 2, none⟩ = some (.string p)) := Lib.hid (by rw [cell_of_row w7 kb 2 _ _ _ HR.out]; rfl)
          have HFZ : Hid (w7.frozen? ⟨kb, 2, none⟩ = false) := Lib.hid (frozen_of_row w7 kb 2 _ _ HR.out)
          go_upto_region 9 with fail
          refine region_mix [(false, 0), (false, 1), (false, 2), (false, 3), (false, 4), (false, 5), (false, 6), (false, 7), (false, 8)] (fun w' => Below w7.heap.size w7 w') (by kernel_rfl) (by kernel_rfl) ((Below.refl _ _).drew) ?_
          simp only [planOps, List.map_cons, List.map_nil, List.getD_cons_zero, List.getD_cons_succ, List.length_cons, List.length_nil, List.drop_succ_cons, List.drop_zero]
          refine mix_seg (seg := [_, _, _, _, _, _, _, _, _]) (rest := []) rfl ((Below.refl _ _).drew) ?_
          intro ι hι F hF
          have f1 := fun n => ((hF n).cell (p := ⟨kb, 2, none⟩) HKL.out).trans HCC.out
          repeat (go_big_quiet_step (fail))
          refine wpQuiet_nil ?_
          clear f1 hF hι F
          show wpList _ _ _ _ _ _
          have cd : w7.drew.cell? ⟨kb, 2, none⟩ = some (.string p) := HCC.out
          have cf : w7.drew.frozen? ⟨kb, 2, none⟩ = false := HFZ.out
          go_wp2_with fail
          refine NoPanic.normal ?_
          clear cd cf
          have HB2' : Hid (Below kb w2 ((w7.setCell ⟨kb, 2, none⟩ (.string (p ++ s.extract j (j + 1)))).drew)) := Lib.hid (HB.out.setCell (Nat.le_refl _) _).drew
          have HR2' : Hid (((w7.setCell ⟨kb, 2, none⟩ (.string (p ++ s.extract j (j + 1)))).drew).heap[kb]? = some (.cells (pcV tk h (p ++ s.extract j (j + 1))) 35 (0, 0))) := Lib.hid (by
            show (w7.setCell ⟨kb, 2, none⟩ _).heap[kb]? = _; rw [heap_setCell_same w7 kb 2 _ _ _ HR.out]; rfl)
          have HS2' : Hid (Nf.bs (p ++ s.extract j (j + 1)) = Nf.bs p ++ [(Nf.bs s).getD j 0]) := Lib.hid (by rw [bs_add, HO1.out])
          generalize (w7.setCell ⟨kb, 2, none⟩ (.string (p ++ s.extract j (j + 1)))).drew = w8 at *
          generalize p ++ s.extract j (j + 1) = h2 at *
          go_wp2_with fail
          go_roundw
          case rel => exact ⟨j + 1, h, h2, by first | rw [HW1.out] | rfl, HJ.out, HR2', Lib.hid (by rw [HH.out, HF1.out, if_neg (by decide)]), Lib.hid (by rw [HS2'.out, HP.out, HF2.out]; simp), HB2'⟩
          case measure => first | (rw [HW1.out]; exact meas9 HJ.out) | exact meas9 HJ.out
        · have hb1 : ((y : Int) == 1) = false := by rw [beq_eq_false_iff_ne]; omega
          have hb2 : ((y : Int) == 2) = false := by rw [beq_eq_false_iff_ne]; omega
          have hb3 : (y == 1) = false := by rw [beq_eq_false_iff_ne]; exact h1
          have hb4 : (y == 2) = false := by rw [beq_eq_false_iff_ne]; exact h2
          have HG1 : Hid (flM (Nf.bs s) L 1 (j + 1) = flM (Nf.bs s) L 1 j) := Lib.hid (by rw [HF1.out, if_neg h1])
          have HG2 : Hid (flM (Nf.bs s) L 2 (j + 1) = flM (Nf.bs s) L 2 j) := Lib.hid (by rw [HF2.out, if_neg h2])
          go_wp2_with fail
          go_roundw
          case rel => exact ⟨j + 1, h, p, by first | rw [HW1.out] | rfl, HJ.out, HR, Lib.hid (by rw [HH.out, HG1.out]), Lib.hid (by rw [HP.out, HG2.out]), HB⟩
          case measure => first | (rw [HW1.out]; exact meas9 HJ.out) | exact meas9 HJ.out
    · have hdd : decide ((j : Int) < (L.length : Int)) = false := decide_eq_false (by omega)
      have hd2 : decide (j < L.length) = false := decide_eq_false hlt
      obtain rfl : j = L.length := by omega
      have HZ := Lib.hid (HKK.out _ HB.out).2.1
      have HBE := Lib.hid (HKK.out _ HB.out).2.2
      have hbs := But.setRow (w := w7) B1 (pcV tk h p)
      have HE : Hid (Below w.heap.size w (w7.setRow B1 (pcV tk h p))) := Lib.hid (hbs.below HBE.out (by rw [hB.out, ← hB1.out]; omega) HBE.out.size)
      clear hbs hlt
      go_wp2_with (first
        | (refine wpList_load_row rfl 35 _ rfl kb rfl 35 (pcV tk h p) (0, 0) _ HR.out Tryd.underlying35 rfl (sizePa _ _ _) ?_)
        | (refine wpList_store_row rfl 35 (.tmp 4) (.tmp 51) rfl B1 (pcV tk h p) rfl rfl 35 _ HZ.out (sizePa _ _ _) rfl (by simp [pcV, Value.oneCell']) ?_))
      refine bodyPost_ret (v := .agg (pcV tk h p)) (results_cell_row (p := 4) Tryd.results15 _ _ B1 35 _ (0, 0) _ rfl (setRow_heap w7 _ _ _ _ _ HZ.out) Tryd.underlying35 rfl (sizePa _ _ _)) rfl ⟨⟨L, h, p, by rw [htk.out], fun e => HL0.out (htk.out.symm.trans e), fun e => HL1.out (htk.out.symm.trans e), HH.out, HP.out⟩, HE.out⟩
end Fs
end Go.Proofs.YtghbgfkkdknmnaaDoor
