/- Several texts in one. -/
import Derived.Test.YtghbgfkkdknmnaaDoorPqC2
import Derived.Test.YtghbgfkkdknmnaaDoorPqB5
import Derived.Test.YtghbgfkkdknmnaaDoorPqC8
import Derived.Test.YtghbgfkkdknmnaaDoorPqB3
namespace Go.Proofs.YtghbgfkkdknmnaaDoor
open Go.RowKit Sets Nf Fs
namespace Ft
theorem infoU8 : (Tryd.prog.info? 5).map (fun i => (i.zero.map (·.cells), i.size, i.bytes)) = some (some #[.int .u8 0], 1, 1) := by kernel_rfl
theorem wpList_make_u8 {w : World} {ops : Array Oper} {rest : List Oper} {o : Oper} {a : Act} {Q : Exit → Act → World → Prop}
    (hg : o.guard = none) (l c : Operand) (hop : o.op = Op.makeSlice 30 l c) (n : Nat) (hl : a.eval l = .int .i64 (n : Int)) (hc : a.eval c = .int .i64 (n : Int)) (hn : n ≤ 1000)
    (hK : wpList Tryd.prog ops Q rest (a.put o.dst (.slice (some ⟨w.heap.size, 0, none⟩) n n)) (w.alloc (.cells (madeCells #[.int .u8 0] n) 5))) :
    wpList Tryd.prog ops Q (o :: rest) a w := by
  refine wpList_plain hg fun K hK' => ?_
  obtain ⟨i, hi, hzz⟩ := Option.map_eq_some_iff.1 infoU8
  simp only [Prod.mk.injEq] at hzz
  obtain ⟨hz, hs, hb⟩ := hzz
  obtain ⟨z, hz1, hz2⟩ := Option.map_eq_some_iff.1 hz
  have hrun := run_make (P := Tryd.prog) w 30 5 i z Tryd.underlying30 hi hz1 .i64 .i64 n n (by omega) (Int.le_refl _) (by rw [hb]; omega) (by omega)
  simp only [Int.toNat_natCast, hs, hz2, Nat.mul_one] at hrun
  unfold Oper.wp
  simp [execOp, hop, hl, hc, hrun, Result.andThen]
  exact hK' _ _ hK
/-- The marks of the first j bytes. -/
def mrF (m : Mc) (R : List Nat) (j : Nat) : Nat → Value := fun i => .int .u8 ((if i < j then tgN m (R.getD i 0) else 0 : Nat) : Int)
def MkB (w : World) (g n : Nat) (m : Mc) (R : List Nat) (j : Nat) : Prop := w.rowIs g 5 n (mrF m R j)
theorem MkB.of {w w' : World} {g n : Nat} {m : Mc} {R : List Nat} {j : Nat} (h : MkB w g n m R j) (e : w'.heap[g]? = w.heap[g]?) : MkB w' g n m R j := World.rowIs.of_block h e
theorem MkB.lt {w : World} {g n : Nat} {m : Mc} {R : List Nat} {j : Nat} (h : MkB w g n m R j) : g < w.heap.size := World.rowIs.lt h
theorem MkB.stay {w w' : World} {g n : Nat} {m : Mc} {R : List Nat} {j : Nat} (h : MkB w g n m R j) (hb : Below w.heap.size w w') : MkB w' g n m R j := h.of (hb.block _ h.lt)
theorem MkB.new (w : World) (n : Nat) (m : Mc) (R : List Nat) : MkB (w.alloc (.cells (madeCells #[.int .u8 0] n) 5)) w.heap.size n m R 0 := by
  have h := World.rowIs_alloc w (madeCells #[.int .u8 0] n) 5 (mrF m R 0) (fun i hi => by
    rw [size_madeCells] at hi
    unfold madeCells mrF
    rw [if_neg (Nat.not_lt_zero _)]
    simp [hi, Nat.mod_one])
  rw [size_madeCells] at h
  exact h
theorem MkB.set {w : World} {g n : Nat} {m : Mc} {R : List Nat} {j : Nat} (h : MkB w g n m R j) : MkB (w.setCell ⟨g, j, none⟩ (.int .u8 (tgN m (R.getD j 0) : Nat))) g n m R (j + 1) := by
  refine World.rowIs.congr (World.rowIs.set h j (.int .u8 (tgN m (R.getD j 0) : Nat))) (fun i hi => ?_)
  unfold mrF
  by_cases e : i = j
  · subst e; rw [if_pos rfl, if_pos (Nat.lt_succ_self _)]
  · rw [if_neg e]
    by_cases h2 : i < j
    · rw [if_pos h2, if_pos (by omega)]
    · rw [if_neg h2, if_neg (by omega)]
theorem tg_lt {m : Mc} (h : Rt m) (k : Nat) : tgN m k < 256 := by
  unfold tgN
  rcases Nat.lt_or_ge k m.sp.length with h2 | h2
  · have := h.tag _ (getD_mem (d := (0, 0)) h2)
    omega
  · rw [List.getD_eq_getElem?_getD, List.getElem?_eq_none h2]; decide
theorem mk_get (m : Mc) (R : List Nat) (i : Nat) (h : i < R.length) : (mkR m R).getD i 0 = tgN m (R.getD i 0) := by
  unfold mkR
  rw [List.getD_eq_getElem?_getD, List.getElem?_map, List.getElem?_eq_getElem h, List.getD_eq_getElem?_getD, List.getElem?_eq_getElem h]; rfl
theorem MkB.bytes {w : World} {g n : Nat} {m : Mc} {R : List Nat} (h : MkB w g n m R n) (hr : Rt m) (hn : R.length = n) (hl : n ≤ 1000) : BytesAt w (.slice (some ⟨g, 0, none⟩) n n) (mkR m R) := by
  have hlen : (mkR m R).length = n := by unfold mkR; rw [List.length_map]; exact hn
  refine ⟨fun x hx => ?_, by rw [hlen]; unfold maxLen; omega, some ⟨g, 0, none⟩, n, by rw [hlen], fun i hi => ?_⟩
  · obtain ⟨k, -, rfl⟩ := List.mem_map.1 hx
    exact tg_lt hr k
  · rw [hlen] at hi
    refine ⟨g, 0, rfl, ?_⟩
    rw [Nat.zero_add, World.rowIs.cell h hi, mk_get _ _ _ (by omega)]
    unfold mrF
    rw [if_pos hi]
/-- What Marks tells. -/
def MEnd (m : Mc) (ws : List Nat) (w : World) (e : Ending) (w' : World) : Prop :=
  ∃ v L, e = .returned (.tuple #[v, .bool (takesM m ws)]) ∧ BytesAt w' v L ∧ (takesM m ws = false → L = []) ∧ (takesM m ws = true → ∀ R, Lr m none ws R → L = mkR m R) ∧ Below w.heap.size w w'
theorem bytes_nil (w : World) : BytesAt w (.slice none 0 0) [] := ⟨by simp, by simp, none, 0, rfl, fun i hi => absurd hi (Nat.not_lt_zero _)⟩
set_option maxHeartbeats 12800000 in
set_option maxRecDepth 100000 in
theorem fmarks_any (x : Ma) (m : Mc) (s : ByteArray) (w : World) (h : MAt w x m) (hf : Fine m) (hs : s.size ≤ 1000) (hT : Tab w) :
    Calls Tryd.prog 11 #[.agg (mc x m), .string s] w (MEnd m (Nf.bs s) w) := by
  have HM := Lib.hid h
  have HF := Lib.hid hf
  have HS := Lib.hid hs
  have HT := Lib.hid hT
  have HTG : Hid (0 < w.heap.size) := Lib.hid (World.block_lt_of_cell? _ _ (hT 0 (by decide)))
  have HLEN := Lib.hid (Nf.bs_len s)
  have HBL := Lib.hid (Nf.bs_lt s)
  clear h hf hs hT
  go_enter Tryd.func11, Tryd.ntmps11
  go_upto_region 1 with fail
  have HX := Lib.hid (BoxM.new w x m)
  have HB := Lib.hid ((Below.refl w.heap.size w).alloc (Nat.le_refl _) (.cells (mc x m) 27))
  obtain ⟨B, hB⟩ : ∃ B, Hid (w.heap.size = B) := ⟨_, Lib.hid rfl⟩
  rw [hB.out] at HX ⊢
  generalize w.alloc (.cells (mc x m) 27) = w1 at *
  have HRI := Lib.hid (nright_any x m w1 (HM.out.kept HB.out) HF.out)
  cases hr : rightM m with
  | false =>
    rw [hr] at HRI
    have HV : Hid (takesM m (Nf.bs s) = false) := Lib.hid (by unfold takesM; rw [hr]; rfl)
    clear hr
    go_wp2_with (first
      | (refine wpList_load_mach rfl (.tmp 2) rfl B x m rfl HX.out ?_)
      | (go_at_call 24; refine HRI.out.mono ?_; rintro e w2 ⟨rfl, hb2⟩; have HB2 := Lib.hid hb2; clear hb2))
    go_ret2
    exact ⟨.slice none 0 0, [], by rw [HV.out]; rfl, bytes_nil _, fun _ => rfl, fun h => (by rw [HV.out] at h; cases h), HB.out.trans (HB2.out.mono HB.out.size)⟩
  | true =>
    rw [hr] at HRI
    have HRT := Lib.hid ((right_iff m).1 hr)
    have HTI := Lib.hid (takes_iff m (Nf.bs s))
    have HV : Hid (takesM m (Nf.bs s) = if Nf.bs s = [] then m.em else decide ((runS m (Nf.bs s)).1 &&& lastN m ≠ 0)) := Lib.hid (by unfold takesM; rw [hr, Bool.true_and])
    clear hr
    go_upto_region 3 with (first
      | (refine wpList_load_mach rfl (.tmp 2) rfl B x m rfl HX.out ?_)
      | (go_at_call 24; refine HRI.out.mono ?_; rintro e w2 ⟨rfl, hb2⟩; have HB2 := Lib.hid hb2; clear hb2))
    have HX2 := Lib.hid (bxStay HX.out HB2.out)
    have HBW2 := Lib.hid (HB.out.trans (HB2.out.mono HB.out.size))
    clear HX HB2 HB HRI w1
    by_cases hs0 : s.size = 0
    · obtain rfl : s = ⟨#[]⟩ := by
        cases s with
        | mk d => cases d with
          | mk l => cases l with
            | nil => rfl
            | cons a l => simp [ByteArray.size] at hs0
      have HV2 : Hid (takesM m (Nf.bs ⟨#[]⟩) = m.em) := Lib.hid (by rw [HV.out]; rfl)
      clear hs0
      go_upto_region 4 with fail
      have c4 := HX2.out.c4
      have HXL := Lib.hid HX2.out.lt
      refine region_mix [(false, 0), (false, 1), (false, 2)] (fun w' => Below w2.heap.size w2 w') (by kernel_rfl) (by kernel_rfl) ((Below.refl _ _).drew) ?_
      simp only [planOps, List.map_cons, List.map_nil, List.getD_cons_zero, List.getD_cons_succ, List.length_cons, List.length_nil, List.drop_succ_cons, List.drop_zero]
      refine mix_seg (seg := [_, _, _]) (rest := []) rfl ((Below.refl _ _).drew) ?_
      intro ι hι F hF
      have f1 := fun n => ((hF n).cell (p := ⟨B, 4, none⟩) HXL.out).trans c4
      iterate 3 (go_big_quiet_step (fail))
      refine wpQuiet_nil ?_
      clear f1 hF hι F
      show wpList _ _ _ _ _ _
      go_wp2_with fail
      refine NoPanic.normal ?_
      go_wp2_with fail
      go_ret2
      refine ⟨.slice none 0 0, [], by rw [HV2.out]; rfl, bytes_nil _, fun _ => rfl, fun _ R hR => ?_, HBW2.out.drew⟩
      have := hR.len
      have h0 : R = [] := List.eq_nil_of_length_eq_zero this
      rw [h0]; rfl
    · have hne := list_some hs0
      have HS0 : Hid (Nf.bs s ≠ []) := Lib.hid (by
        intro e
        apply hs0
        rw [← HLEN.out, e]; rfl)
      have HV2 : Hid (takesM m (Nf.bs s) = true ↔ Tk m (Nf.bs s)) := Lib.hid ⟨fun h => (HTI.out.1 h).2, fun h => HTI.out.2 ⟨HRT.out, h⟩⟩
      clear hs0 HV HTI
      obtain ⟨R, hR⟩ : ∃ R, Hid ((takesM m (Nf.bs s) = true → Lr m none (Nf.bs s) R) ∧ R.length = s.size) := by
        by_cases ht : Tk m (Nf.bs s)
        · obtain ⟨l0, hl0⟩ := tk_runs.1 ht
          obtain ⟨R, hR⟩ := lr_ex hl0
          exact ⟨R, Lib.hid ⟨fun _ => hR, by rw [hR.len, HLEN.out]⟩⟩
        · exact ⟨List.replicate s.size 0, Lib.hid ⟨fun h => absurd (HV2.out.1 h) ht, List.length_replicate⟩⟩
      go_upto_region 6 with (refine wpList_make_u8 rfl (.tmp 20) (.tmp 20) rfl s.size rfl rfl HS.out ?_)
      have HK3 := Lib.hid (MkB.new w2 s.size m R)
      have HA3 : Hid (Below w2.heap.size w2 (w2.alloc (.cells (madeCells #[.int .u8 0] s.size) 5))) := Lib.hid ((Below.refl _ _).alloc (Nat.le_refl _) _)
      obtain ⟨g, hg⟩ : ∃ g, Hid (w2.heap.size = g) := ⟨_, Lib.hid rfl⟩
      have HX3 := Lib.hid (bxStay HX2.out HA3.out)
      have HBW3 := Lib.hid (HBW2.out.trans (HA3.out.mono HBW2.out.size))
      have HBG : Hid (B < g) := Lib.hid (by rw [← hg.out]; exact HX2.out.lt)
      rw [hg.out] at HK3 ⊢
      generalize w2.alloc (.cells (madeCells #[.int .u8 0] s.size) 5) = w3 at *
      clear HX2 HBW2 HA3 hg w2
      have c1 := HX3.out.c1
      have HED := Lib.hid (fendings_any x m s w3 (HM.out.kept HBW3.out) HRT.out HF.out HS.out (HT.out.below HBW3.out HTG.out))
      go_upto_region 8 with (first
        | (refine wpList_load_mach rfl (.tmp 2) rfl B x m rfl HX3.out ?_)
        | (go_at_call 25; refine HED.out.mono ?_; rintro e w4 ⟨ge, rfl, hge, hgl, hb4⟩; have HGE := Lib.hid hge; have HGL := Lib.hid hgl; have HB4 := Lib.hid hb4; clear hge hgl hb4))
      have HX4 := Lib.hid (bxStay HX3.out HB4.out)
      have HK4 := Lib.hid (HK3.out.stay HB4.out)
      have HBW4 := Lib.hid (HBW3.out.trans (HB4.out.mono HBW3.out.size))
      have HGG : Hid (g < ge) := Lib.hid (Nat.lt_of_lt_of_le HK3.out.lt HGL.out)
      clear HX3 HK3 HBW3 HED HB4 HGL c1 hne w3
      go_loopw [7, 28] (fun nx i wr => ∃ (j : Nat) (a : Option Addr) (c : Nat), nx = .slice a (lsO m (pOf R j)).length c ∧ i = .int .i64 j ∧ j ≤ s.size ∧ Hid (0 < j → takesM m (Nf.bs s) = true) ∧ Hid (∀ W, Below w.heap.size w W → NumsIn W a (lsO m (pOf R j))) ∧ Hid (BoxM wr B x m) ∧ Hid (MkB wr g s.size m R j) ∧ Hid (GsB wr ge (erL m (Nf.bs s) 0)) ∧ Hid (Below w.heap.size w wr)) (fun _ i _ => ((s.size : Int) - intOf i).toNat)
      case atStart => exact ⟨0, x.fa, x.fc, rfl, rfl, Nat.zero_le _, Lib.hid (fun h => absurd h (Nat.lt_irrefl _)), Lib.hid (fun W hW => (HM.out.kept hW).fi), HX4, HK4, HGE, HBW4⟩
      case round =>
        obtain ⟨j, a, c, rfl, rfl, hj, HTJ, HNX, HX, HK, HE, HBW⟩ := hrel
        generalize hwr : wr = w5 at *
        clear hwr wr HX4 HK4 HGE HBW4 w4
        by_cases hlt : j < s.size
        · have hdd : decide ((j : Int) < (s.size : Int)) = true := decide_eq_true (by omega)
          have hd2 : decide (j < s.size) = true := decide_eq_true hlt
          have hji : (j : Int) < (s.size : Int) := by omega
          have HW1 : Hid (wrap64 ((j : Int) + 1) = ((j + 1 : Nat) : Int)) := Lib.hid (nat_wrap (by have := HS.out; omega))
          have HJ := Lib.hid hlt
          have HJ2 : Hid (j < (Nf.bs s).length) := Lib.hid (by rw [HLEN.out]; exact hlt)
          have HRE := Lib.hid (HE.out.range (i := j) (by rw [erL_len]; exact HJ2.out))
          rw [show (erL m (Nf.bs s) 0).getD j 0 = eE m ((Nf.bs s).getD j 0) ((Nf.bs s).drop (j + 1)) from by rw [erL_get m _ 0 j HJ2.out, if_pos (Nat.zero_le _)]] at HRE
          have HLE : Hid (takesM m (Nf.bs s) = true → lea (eE m ((Nf.bs s).getD j 0) ((Nf.bs s).drop (j + 1))) (lsO m (pOf R j)) = some (R.getD j 0)) := Lib.hid (fun h => lea_next HRT.out (hR.out.1 h) HJ2.out)
          have HLF : Hid (takesM m (Nf.bs s) = false → lea (eE m ((Nf.bs s).getD j 0) ((Nf.bs s).drop (j + 1))) (lsO m (pOf R j)) = none) := Lib.hid (fun h => by
            have hj0 : j = 0 := by
              rcases Nat.eq_zero_or_pos j with h0 | h0
              · exact h0
              · rw [HTJ.out h0] at h; cases h
            subst hj0
            refine lea_no HRT.out (fun ht => ?_)
            have hd : Nf.bs s = (Nf.bs s).getD 0 0 :: (Nf.bs s).drop (0 + 1) := by
              have := Fs.drop_cons HJ2.out
              rwa [List.drop_zero] at this
            rw [← hd] at ht
            rw [HV2.out.2 ht] at h; cases h)
          have hup := rise_up (lsO_rise HRT.out (pOf R j))
          have HLL : Hid ((lsO m (pOf R j)).length ≤ 1000 ∧ ∀ k ∈ lsO m (pOf R j), 0 ≤ k ∧ k < 256) := Lib.hid ⟨by
            cases pOf R j with
            | none => exact HF.out.fi
            | some p =>
              show (m.fo.getD p []).length ≤ 1000
              rcases Nat.lt_or_ge p m.fo.length with h2 | h2
              · exact (HF.out.each _ (getD_mem (d := []) h2)).1
              · rw [List.getD_eq_getElem?_getD, List.getElem?_eq_none h2]; exact Nat.zero_le _, fun k hk => by
            have h1 := hup.2 k hk
            have h2 := HRT.out.many
            omega⟩
          have HPO : Hid (lsO m (pOf R (j + 1)) = m.fo.getD (R.getD j 0) []) := Lib.hid rfl
          generalize lsO m (pOf R j) = ls at *
          clear hup hlt
          generalize eE m ((Nf.bs s).getD j 0) ((Nf.bs s).drop (j + 1)) = E at *
          go_upto_region 10 with (first
            | (refine wpList_load_mid rfl 41 (.tmp 31) rfl ge (j * 4) rfl (setC E).toList _ HRE.out Tryd.underlying41 rfl (sizeSetL _) ?_; rw [show (setC E).toList.toArray = setC E from rfl])
            | (refine wpList_lay_set rfl (.tmp 9) (.tmp 32) rfl E _ rfl rfl rfl ?_))
          rw [hput]
          have HA6 : Hid (Below w5.heap.size w5 (w5.alloc (.cells (setC E) 41))) := Lib.hid ((Below.refl _ _).alloc (Nat.le_refl _) _)
          have HS6 := Lib.hid (SetB.new w5 E)
          have HX6 := Lib.hid (bxStay HX.out HA6.out)
          have HK6 := Lib.hid (HK.out.stay HA6.out)
          have HE6 := Lib.hid (HE.out.stay HA6.out)
          have HBW6 := Lib.hid (HBW.out.trans (HA6.out.mono HBW.out.size))
          obtain ⟨b9, hb9⟩ : ∃ b9, Hid (w5.heap.size = b9) := ⟨_, Lib.hid rfl⟩
          rw [hb9.out] at HS6 ⊢
          clear HX HK HE HBW HA6 HRE
          generalize w5.alloc (.cells (setC E) 41) = w6 at *
          clear hb9 w5
          have HLS := Lib.hid (fleast_any a c ls E w6 (HNX.out w6 HBW6.out) HLL.out.1 HLL.out.2)
          cases htk : takesM m (Nf.bs s) with
          | false =>
            have HTK := Lib.hid htk
            rw [HLF.out htk, show leaV none = .tuple #[.int .i64 0, .bool false] from rfl] at HLS
            clear htk
            go_wp2_with (first
              | (refine wpList_load_set rfl (.tmp 9) rfl b9 E rfl HS6.out ?_)
              | (go_at_call 26; refine HLS.out.mono ?_; rintro e w7 ⟨rfl, hb7⟩; have HB7 := Lib.hid hb7; clear hb7))
            go_ret2
            exact ⟨.slice none 0 0, [], by rw [HTK.out]; rfl, bytes_nil _, fun _ => rfl, fun h => (by rw [HTK.out] at h; cases h), HBW6.out.trans (HB7.out.mono HBW6.out.size)⟩
          | true =>
            have HTK := Lib.hid htk
            rw [HLE.out htk, show leaV (some (R.getD j 0)) = .tuple #[.int .i64 (R.getD j 0 : Nat), .bool true] from rfl] at HLS
            have HRK := Lib.hid ((hR.out.1 htk).next HJ2.out)
            have HRS : Hid (tgN m (R.getD j 0) = (m.sp.getD (R.getD j 0) (0, 0)).2) := Lib.hid rfl
            clear htk
            obtain ⟨k, hk⟩ : ∃ k, Hid (R.getD j 0 = k) := ⟨_, Lib.hid rfl⟩
            rw [hk.out] at HLS HPO HRS HRK
            have HKL : Hid (k < m.sp.length) := Lib.hid (Fs.nx_lt HRT.out HRK.out.1)
            have hki : (k : Int) < (m.sp.length : Int) := by have := HKL.out; omega
            have hki2 : (k : Int) < (m.fo.length : Int) := by have := HKL.out; rw [HRT.out.fol]; omega
            go_upto_region 13 with (first
              | (refine wpList_load_set rfl (.tmp 9) rfl b9 E rfl HS6.out ?_)
              | (go_at_call 26; refine HLS.out.mono ?_; rintro e w7 ⟨rfl, hb7⟩; have HB7 := Lib.hid hb7; clear hb7))
            have HX7 := Lib.hid (bxStay HX6.out HB7.out)
            have HK7 := Lib.hid (HK6.out.stay HB7.out)
            have HE7 := Lib.hid (HE6.out.stay HB7.out)
            have HBW7 := Lib.hid (HBW6.out.trans (HB7.out.mono HBW6.out.size))
            clear HX6 HK6 HE6 HBW6 HB7 HS6 HLS
            have c0 := HX7.out.c0
            have c2 := HX7.out.c2
            obtain ⟨b2, o2, hsa, hr⟩ := (HM.out.kept HBW7.out).sp k HKL.out
            rw [hsa] at c0
            have ctag : w7.cell? ⟨b2, o2 + k * 5 + 4, none⟩ = some (.int .u8 (tgN m k : Nat)) := by rw [HRS.out]; exact hr 4 _ rfl
            have hro := World.rowIs.frozen HK7.out
            have hcg := World.rowIs.cell HK7.out HJ.out
            clear hr
            go_upto_region 14 with fail
            have HK8 := Lib.hid (HK7.out.set)
            rw [hk.out] at HK8
            have HB8 : Hid (But g w7 (w7.setCell ⟨g, j, none⟩ (.int .u8 (tgN m k : Nat)))) := Lib.hid (But.set _ _ _ _)
            have hbb := hB.out
            have hbg := HBG.out
            have hgg := HGG.out
            have HX8 := Lib.hid (bxBut HX7.out HB8.out (by omega))
            have HE8 := Lib.hid (HE7.out.but HB8.out (by omega))
            have HBW8 : Hid (Below w.heap.size w (w7.setCell ⟨g, j, none⟩ (.int .u8 (tgN m k : Nat)))) := Lib.hid (But.below HBW7.out HB8.out (by omega) HBW7.out.size)
            clear hbb hbg hgg HX7 HK7 HE7 HBW7 HB8 c0 c2 ctag hro hcg
            generalize w7.setCell ⟨g, j, none⟩ (.int .u8 (tgN m k : Nat)) = w8 at *
            clear w7
            have c2 := HX8.out.c2
            obtain ⟨b3, o3, a3, c3, hoa, hl3, hn3⟩ := (HM.out.kept HBW8.out).fo k (by rw [HRT.out.fol]; exact HKL.out)
            have HN3 : Hid (∀ W, Below w.heap.size w W → NumsIn W a3 (m.fo.getD k [])) := Lib.hid (fun W hW => by
              obtain ⟨b4, o4, a4, c4, e4, h4, n4⟩ := HM.out.fo k (by rw [HRT.out.fol]; exact HKL.out)
              rw [hoa] at e4
              injection e4 with e4
              injection e4 with e4 e5
              subst e4; subst e5
              have := (HBW8.out.cell (World.block_lt_of_cell? _ _ h4)).trans h4
              rw [hl3] at this
              injection this with this
              injection this with this
              subst this
              exact n4.kept hW)
            rw [hoa] at c2
            rw [← HPO.out] at hl3 HN3
            clear hn3
            go_wp2_with fail
            go_roundw
            case rel => exact ⟨j + 1, a3, c3, rfl, by rw [HW1.out], HJ.out, Lib.hid (fun _ => HTK.out), HN3, HX8, HK8, HE8, HBW8⟩
            case measure => rw [HW1.out]; exact meas9 HJ.out
        · have hdd : decide ((j : Int) < (s.size : Int)) = false := decide_eq_false (by omega)
          have hd2 : decide (j < s.size) = false := decide_eq_false hlt
          have HJE : Hid (j = s.size) := Lib.hid (by omega)
          have HJP : Hid (0 < j) := Lib.hid (by
            rcases Nat.eq_zero_or_pos j with h0 | h0
            · exfalso
              have h1 := HJE.out
              exact HS0.out (List.eq_nil_of_length_eq_zero (by rw [HLEN.out]; omega))
            · exact h0)
          have HTK := Lib.hid (HTJ.out HJP.out)
          rw [HJE.out] at HK
          go_wp2_with fail
          go_ret2
          refine ⟨.slice (some ⟨g, 0, none⟩) s.size s.size, mkR m R, by rw [HTK.out]; rfl, HK.out.bytes HRT.out hR.out.2 HS.out, fun h => (by rw [HTK.out] at h; cases h), fun h R2 h2 => ?_, HBW.out⟩
          rw [(hR.out.1 h).one h2]
end Ft
end Go.Proofs.YtghbgfkkdknmnaaDoor
namespace Go.Proofs.YtghbgfkkdknmnaaDoor
open Go.RowKit Sets Nf Fs
namespace Ft
theorem bs_str (l : List Nat) (hl : ∀ x ∈ l, x < 256) : Nf.bs ⟨(l.map UInt8.ofNat).toArray⟩ = l := by
  unfold Nf.bs
  rw [List.toList_toArray, List.map_map]
  exact (List.map_congr_left (fun x hx => by have := hl x hx; simp; omega)).trans (List.map_id l)
theorem conv_nil (w : World) : (convert 30 9 (.slice none 0 0)).run Tryd.prog w = .ok (.string ⟨#[]⟩) w := by kernel_rfl
theorem own_string {w : World} {B : Nat} {v : Value} {D : List Nat} (h : w.ownsRow B 5 1 v D.length (u8s D)) (hD : ∀ x ∈ D, x < 256) :
    (convert 30 9 v).run Tryd.prog w = .ok (.string ⟨(D.map UInt8.ofNat).toArray⟩) w := by
  rcases h.2 with ⟨rfl, h0⟩ | ⟨g, cap, cur, rfl, -, h3, h4, -, h5, h6⟩
  · have : D = [] := List.eq_nil_of_length_eq_zero h0
    subst this
    exact conv_nil w
  · have h7 := run_convert_bytes_back (P := Tryd.prog) w 30 9 5 ⟨g, 0, none⟩ cap (D.map UInt8.ofNat) Tryd.underlying30 Tryd.underlying5 Tryd.underlying9 (fun j hj => by
      have hjl : j < D.length := by simpa using hj
      rw [Addr.add_lit, Nat.zero_add, cell_of_row w g j _ _ _ h3, ← Array.getElem?_toList]
      have h8 : cur.toList[j]? = (u8s D)[j]? := by rw [← h6, List.getElem?_take_of_lt (by omega)]
      rw [h8]
      unfold u8s
      have h2 := hD D[j] (List.getElem_mem _)
      have : (UInt8.ofNat D[j]).toNat = D[j] := by simp; omega
      simp [this, hjl])
    simpa using h7
theorem fl_lt {w L : List Nat} {t : Nat} (h : ∀ x ∈ w, x < 256) : ∀ j, j ≤ w.length → ∀ x ∈ flM w L t j, x < 256
  | 0, _, x, hx => by cases hx
  | j + 1, hj, x, hx => by
    unfold flM at hx
    split at hx
    · rcases List.mem_append.1 hx with hx | hx
      · exact fl_lt h j (by omega) x hx
      · rw [List.mem_singleton] at hx
        rw [hx]
        exact h _ (getD_mem (by omega))
    · exact fl_lt h j (by omega) x hx
set_option maxHeartbeats 6400000 in
set_option maxRecDepth 100000 in
theorem fmarked_any (s : ByteArray) (v : Value) (L : List Nat) (t : Nat) (w : World) (h : BytesAt w v L) (hl : L.length ≤ s.size) (hs : s.size ≤ 1000) :
    Calls Tryd.prog 29 #[.string s, v, .int .u8 t] w fun e w' => ∃ r, e = .returned (.string r) ∧ Nf.bs r = flM (Nf.bs s) L t L.length ∧ Below w.heap.size w w' := by
  obtain ⟨-, -, va, vc, rfl, hLC⟩ := h
  have HLC : Hid (∀ W, Below w.heap.size w W → ∀ i, i < L.length → ∃ b o, va = some ⟨b, o, none⟩ ∧ W.cell? ⟨b, o + i, none⟩ = some (.int .u8 (L.getD i 0 : Nat))) := Lib.hid (fun W hW i hi => by
    obtain ⟨b, o, e, hc⟩ := hLC i hi
    exact ⟨b, o, e, (hW.cell (World.block_lt_of_cell? _ _ hc)).trans hc⟩)
  have HL := Lib.hid hl
  have HS := Lib.hid hs
  have HLEN := Lib.hid (Nf.bs_len s)
  have HBL := Lib.hid (Nf.bs_lt s)
  clear hl hs hLC
  go_enter Tryd.func29, Tryd.ntmps29
  go_upto_region 3 with fail
  go_loopw [7, 12] (fun f i wr => ∃ j : Nat, i = .int .i64 j ∧ j ≤ L.length ∧ Hid (wr.ownsRow w.heap.size 5 1 f (flM (Nf.bs s) L t j).length (u8s (flM (Nf.bs s) L t j))) ∧ Hid (Below w.heap.size w wr)) (fun _ i _ => ((L.length : Int) - intOf i).toNat)
  case atStart => exact ⟨0, rfl, Nat.zero_le _, Lib.hid (World.ownsRow_nil _ _ _ _), Lib.hid (Below.refl _ _)⟩
  case round =>
    obtain ⟨j, rfl, hj, HO, HB⟩ := hrel
    generalize hwr : wr = w2 at *
    clear hwr wr
    by_cases hlt : j < L.length
    · have hdd : decide ((j : Int) < (L.length : Int)) = true := decide_eq_true (by omega)
      have hd2 : decide (j < L.length) = true := decide_eq_true hlt
      have hji : (j : Int) < (L.length : Int) := by omega
      have hix := index_bs s j _ rfl (by have := HL.out; omega)
      have hjs : (j : Int) < (s.size : Int) := by have := HL.out; omega
      have HW1 : Hid (wrap64 ((j : Int) + 1) = ((j + 1 : Nat) : Int)) := Lib.hid (nat_wrap (by have h1 := HL.out; have h2 := HS.out; omega))
      have HJ := Lib.hid hlt
      obtain ⟨b, o, rfl, hc⟩ := HLC.out w2 HB.out j hlt
      have HFL := Lib.hid (flM_len (Nf.bs s) L t j)
      have HSW := Lib.hid HB.out.size
      obtain ⟨fa, fc, rfl, -⟩ := own_slice HO.out
      clear hlt
      by_cases ht : L.getD j 0 = t
      · have HF : Hid (flM (Nf.bs s) L t (j + 1) = flM (Nf.bs s) L t j ++ [(Nf.bs s).getD j 0]) := Lib.hid (by show (if _ then _ else _) = _; rw [if_pos ht])
        have hd3 : (((L.getD j 0 : Nat) : Int) == (t : Int)) = true := by rw [ht]; simp
        generalize (Nf.bs s).getD j 0 = c at *
        generalize L.getD j 0 = tt at *
        subst ht
        generalize flM (Nf.bs s) L tt j = D at *
        go_wp2_with (refine wpList_append_u8 rfl (.tmp 20) (.tmp 24) rfl w.heap.size _ D c rfl HO.out rfl (by have h1 := HFL.out; have h2 := HJ.out; have h3 := HL.out; have h4 := HS.out; omega) HSW.out ?_; intro v3 w3 ho3 hb3; have HO3 := Lib.hid ho3; have HB3 := Lib.hid hb3; clear ho3 hb3)
        go_roundw
        case rel => exact ⟨j + 1, by rw [HW1.out], HJ.out, Lib.hid (by rw [HF.out]; exact HO3.out), Lib.hid (HB.out.trans HB3.out)⟩
        case measure => rw [HW1.out]; exact meas9 HJ.out
      · have HF : Hid (flM (Nf.bs s) L t (j + 1) = flM (Nf.bs s) L t j) := Lib.hid (by show (if _ then _ else _) = _; rw [if_neg ht])
        have hd3 : (((L.getD j 0 : Nat) : Int) == (t : Int)) = false := by rw [beq_eq_false_iff_ne]; omega
        generalize L.getD j 0 = tt at *
        clear ht
        go_wp2_with fail
        go_roundw
        case rel => exact ⟨j + 1, by rw [HW1.out], HJ.out, Lib.hid (by rw [HF.out]; exact HO.out), HB⟩
        case measure => rw [HW1.out]; exact meas9 HJ.out
    · have hdd : decide ((j : Int) < (L.length : Int)) = false := decide_eq_false (by omega)
      have hd2 : decide (j < L.length) = false := decide_eq_false hlt
      have HE : Hid (j = L.length) := Lib.hid (by omega)
      rw [HE.out] at HO
      have HDL := Lib.hid (fl_lt (t := t) (L := L) HBL.out L.length (by rw [HLEN.out]; exact HL.out))
      have hcv := own_string HO.out HDL.out
      go_wp2_with fail
      go_ret
      exact ⟨_, rfl, bs_str _ HDL.out, HB.out⟩
/-- What Run tells. -/
def REnd (m : Mc) (ws : List Nat) (w : World) (e : Ending) (w' : World) : Prop :=
  ∃ L hS pS, e = .returned (.agg (pcV (takesM m ws) hS pS)) ∧ (takesM m ws = false → L = []) ∧ (takesM m ws = true → ∀ R, Lr m none ws R → L = mkR m R) ∧ Nf.bs hS = flM ws L 1 L.length ∧ Nf.bs pS = flM ws L 2 L.length ∧ Below w.heap.size w w'
set_option maxHeartbeats 12800000 in
set_option maxRecDepth 100000 in
theorem frun_any (x : Ma) (m : Mc) (s : ByteArray) (w : World) (h : MAt w x m) (hf : Fine m) (hs : s.size ≤ 1000) (hT : Tab w) :
    Calls Tryd.prog 14 #[.agg (mc x m), .string s] w (REnd m (Nf.bs s) w) := by
  have HM := Lib.hid h
  have HF := Lib.hid hf
  have HS := Lib.hid hs
  have HT := Lib.hid hT
  have HTG : Hid (0 < w.heap.size) := Lib.hid (World.block_lt_of_cell? _ _ (hT 0 (by decide)))
  have HLEN := Lib.hid (Nf.bs_len s)
  clear h hf hs hT
  go_enter Tryd.func14, Tryd.ntmps14
  go_upto_region 1 with fail
  have hal := (Below.refl w.heap.size w).alloc (Nat.le_refl _) (.cells (mc x m) 27)
  have hal2 := (Below.refl (w.alloc (.cells (mc x m) 27)).heap.size (w.alloc (.cells (mc x m) 27))).alloc (Nat.le_refl _) (.cells (pcV false ⟨#[]⟩ ⟨#[]⟩) 35)
  have HX := Lib.hid ((BoxM.new w x m).kept hal2 (by simp))
  have HZ : Hid (((w.alloc (.cells (mc x m) 27)).alloc (.cells (pcV false ⟨#[]⟩ ⟨#[]⟩) 35)).heap[w.heap.size + 1]? = some (.cells (pcV false ⟨#[]⟩ ⟨#[]⟩) 35 (0, 0))) := Lib.hid (by
    have h := heap_alloc_new (w.alloc (.cells (mc x m) 27)) (.cells (pcV false ⟨#[]⟩ ⟨#[]⟩) 35)
    rw [show (w.alloc (.cells (mc x m) 27)).heap.size = w.heap.size + 1 from by simp] at h
    exact h)
  have HB := Lib.hid (hal.trans (hal2.mono hal.size))
  clear hal hal2
  change Code.wp _ _ _ _ ((w.alloc (.cells (mc x m) 27)).alloc (.cells (pcV false ⟨#[]⟩ ⟨#[]⟩) 35))
  generalize (w.alloc (.cells (mc x m) 27)).alloc (.cells (pcV false ⟨#[]⟩ ⟨#[]⟩) 35) = w1 at *
  obtain ⟨B, hB⟩ : ∃ B, Hid (w.heap.size = B) := ⟨_, Lib.hid rfl⟩
  rw [hB.out] at HX HZ ⊢
  obtain ⟨B1, hB1⟩ : ∃ B1, Hid (B + 1 = B1) := ⟨_, Lib.hid rfl⟩
  rw [hB1.out] at HZ ⊢
  have HMA := Lib.hid (fmarks_any x m s w1 (HM.out.kept HB.out) HF.out HS.out (HT.out.below HB.out HTG.out))
  unfold MEnd at HMA
  obtain ⟨tk, htk⟩ : ∃ tk, Hid (takesM m (Nf.bs s) = tk) := ⟨_, Lib.hid rfl⟩
  rw [htk.out] at HMA
  unfold REnd
  go_upto_region 2 with (first
    | (refine wpList_load_mach rfl _ rfl B x m rfl HX.out ?_)
    | (go_at_call 11; refine HMA.out.mono ?_; rintro e w2 ⟨v, L, rfl, hby, hno, hyes, hb2⟩; have HBY := Lib.hid hby; have HNO := Lib.hid hno; have HYE := Lib.hid hyes; have HB2 := Lib.hid hb2; clear hby hno hyes hb2))
  have HZ2 := Lib.hid ((HB2.out.block B1 (Array.getElem?_eq_some_iff.1 HZ.out).1).trans HZ.out)
  have HBW2 := Lib.hid (HB.out.trans (HB2.out.mono HB.out.size))
  have HLL : Hid (L.length ≤ s.size) := Lib.hid (by
    cases tk with
    | false => rw [HNO.out rfl]; exact Nat.zero_le _
    | true =>
      have hT := (takes_iff m _).1 htk.out
      obtain ⟨l0, hl0⟩ := tk_runs.1 hT.2
      obtain ⟨R, hR⟩ := lr_ex hl0
      rw [HYE.out rfl R hR, ← HLEN.out, ← hR.len]
      unfold mkR
      rw [List.length_map]
      exact Nat.le_refl _)
  clear HX HZ HB HB2 HMA w1
  cases tk with
  | false =>
    have HL0 := Lib.hid (HNO.out (by first | trivial | rfl))
    go_wp2_with (refine wpList_store_row rfl 35 (.tmp 4) (.tmp 15) rfl B1 (pcV false ⟨#[]⟩ ⟨#[]⟩) rfl rfl 35 _ HZ2.out (sizePa _ _ _) rfl (by simp [pcV, Value.oneCell']) ?_)
    refine bodyPost_ret (v := .agg (pcV false ⟨#[]⟩ ⟨#[]⟩)) (results_cell_row (p := 4) Tryd.results14 _ _ B1 35 _ (0, 0) _ rfl (setRow_heap _ _ _ _ _ _ HZ2.out) Tryd.underlying35 rfl (sizePa _ _ _)) rfl ⟨L, ⟨#[]⟩, ⟨#[]⟩, by rw [htk.out], fun _ => HL0.out, fun h => (by rw [htk.out] at h; cases h), by rw [HL0.out]; rfl, by rw [HL0.out]; rfl, But.below HBW2.out (But.setRow _ _ _) (by have h1 := hB.out; have h2 := hB1.out; omega) HBW2.out.size⟩
  | true =>
    have HM1 := Lib.hid (fmarked_any s v L 1 w2 HBY.out HLL.out HS.out)
    go_upto_region 4 with fail
    have HM2 : Hid (∀ W, Below w2.heap.size w2 W → Calls Tryd.prog 29 #[.string s, v, .int .u8 2] W fun e w' => ∃ r, e = .returned (.string r) ∧ Nf.bs r = flM (Nf.bs s) L 2 L.length ∧ Below W.heap.size W w') := Lib.hid (fun W hW => fmarked_any s v L 2 W (HBY.out.kept hW) HLL.out HS.out)
    go_wp2_with fail
    refine HM1.out.mono ?_
    rintro e w3 ⟨h1, rfl, hh1, hb3⟩
    have HH1 := Lib.hid hh1
    have HB3 := Lib.hid hb3
    clear hh1 hb3
    go_wp2_with fail
    refine (HM2.out _ HB3.out).mono ?_
    rintro e w4 ⟨h2, rfl, hh2, hb4⟩
    have HH2 := Lib.hid hh2
    have HB4 := Lib.hid (HB3.out.trans (hb4.mono HB3.out.size))
    clear hh2 hb4
    go_wp2_with (refine wpList_store_row rfl 35 (.tmp 4) (.tmp 22) rfl B1 (pcV true h1 h2) rfl rfl 35 _ ((HB4.out.block B1 (Array.getElem?_eq_some_iff.1 HZ2.out).1).trans HZ2.out) (sizePa _ _ _) rfl (by simp [pcV, Value.oneCell']) ?_)
    have HZ4 := Lib.hid ((HB4.out.block B1 (Array.getElem?_eq_some_iff.1 HZ2.out).1).trans HZ2.out)
    have HBW4 := Lib.hid (HBW2.out.trans (HB4.out.mono HBW2.out.size))
    refine bodyPost_ret (v := .agg (pcV true h1 h2)) (results_cell_row (p := 4) Tryd.results14 _ _ B1 35 _ (0, 0) _ rfl (setRow_heap _ _ _ _ _ _ HZ4.out) Tryd.underlying35 rfl (sizePa _ _ _)) rfl ⟨L, h1, h2, by rw [htk.out], fun h => (by rw [htk.out] at h; cases h), fun _ => HYE.out (by first | trivial | rfl), HH1.out, HH2.out, But.below HBW4.out (But.setRow _ _ _) (by have h1 := hB.out; have h2 := hB1.out; omega) HBW4.out.size⟩
end Ft
end Go.Proofs.YtghbgfkkdknmnaaDoor
