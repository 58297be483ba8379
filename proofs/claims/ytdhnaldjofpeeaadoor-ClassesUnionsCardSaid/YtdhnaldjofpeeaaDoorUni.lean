/- The law ClassesUnions, walked. -/
import Derived.Test.YtdhnaldjofpeeaaDoorUniM
import Derived.Test.YtdhnaldjofpeeaaDoorAps
import Derived.Test.YtdhnaldjofpeeaaDoorPeq
import Derived.Test.YtdhnaldjofpeeaaDoorMix
namespace Go.Proofs.YtdhnaldjofpeeaaDoor
open Go.RowKit Sets Cls
theorem spl_no (of : Nat → Nat) (n S : Nat) (hn : n ≤ 256) (hof : ∀ c, c < 256 → of c < n) (hr : rightB of n = true) (h : splitsB of n S = false) (w : World) :
    Calls Tryd.prog 14 #[.agg (partC of n), .agg #[.int .u64 (wd S 0), .int .u64 (wd S 1), .int .u64 (wd S 2), .int .u64 (wd S 3)]] w fun e w' => e = .returned (.bool false) ∧ Below w.heap.size w w' := by
  have := splits_any of n S w hn hof hr
  rw [h] at this
  exact this
theorem getD_mem (L : List Nat) (k : Nat) (h : k < L.length) : L.getD k 0 ∈ L := by
  rw [List.getD_eq_getElem?_getD, List.getElem?_eq_getElem h]; exact List.getElem_mem h
theorem quiet_build {P : Program} {C : World → Prop} {a : Act} {K : Act → Prop} {o : Oper} (t : TypeId) (parts : Array (Nat × Operand)) (ho : o.op = .build t parts) (vs : Array (Nat × Value)) (hv : (parts.map fun (i, x) => (i, a.eval x)) = vs) (v : Value)
    (hrun : ∀ w, (Instr.build t vs).run P w = .ok v w) (h : K (a.put o.dst v)) : o.quiet P a C K := by
  refine ⟨v, fun w _ => ?_, h⟩
  unfold Oper.quietAt execOp
  simp only [ho, hv, Sem.run_bind, Sem.run_pure, hrun w, Result.andThen_ok]
  exact ⟨rfl, rfl⟩
theorem setsIn_row {w : World} {g : Nat} {L : List Nat} (h : SetsRow w g L) (hm : L.length ≤ maxLen) : SetsIn w (.slice (some ⟨g, 0, none⟩) L.length L.length) L := by
  refine ⟨hm, _, _, rfl, Nat.le_refl _, fun i hi => ⟨g, 0, rfl, fun q hq => ?_⟩⟩
  rw [Nat.zero_add]; exact h.cell i q hi hq
theorem again_any (L : List Nat) (of : Nat → Nat) (n : Nat) (ho : cls (same L) = of) (hn : nh (same L) 256 = n) (g : Nat) (w : World) (h : SetsRow w g (clsSets of n 256)) (hn' : n ≤ 256) :
    Calls Tryd.prog 10 #[.slice (some ⟨g, 0, none⟩) n n] w fun e w' => e = .returned (.agg (partC of (n : Nat))) ∧ Below w.heap.size w w' := by
  have hl := clsSets_length of n 256
  have hi := setsIn_row h (by rw [hl]; unfold maxLen; omega)
  rw [hl] at hi
  have := Refine_any _ (clsSets of n 256) w hi (by rw [hl]; omega)
  subst ho
  subst hn
  rw [nh_again, part_again] at this
  exact this
theorem swap_any (L M : List Nat) (of : Nat → Nat) (n : Nat) (ho : cls (same (L ++ M)) = of) (hn : nh (same (L ++ M)) 256 = n) (v : Value) (w : World) (h : SetsIn w v (M ++ L)) (h1 : L.length ≤ 40) (h2 : M.length ≤ 40) :
    Calls Tryd.prog 10 #[v] w fun e w' => e = .returned (.agg (partC of (n : Nat))) ∧ Below w.heap.size w w' := by
  have := Refine_any v (M ++ L) w h (by rw [List.length_append]; omega)
  rw [same_swap, ho, hn] at this
  exact this
theorem buildS0 (w : World) : (Instr.build 31 #[]).run Tryd.prog w = .ok (.agg #[.int .u64 0, .int .u64 0, .int .u64 0, .int .u64 0]) w := by kernel_rfl
set_option maxHeartbeats 6400000 in
set_option maxRecDepth 100000 in
theorem unions_any (v1 v2 : Value) (L M : List Nat) (w : World) (hv1 : SetsIn w v1 L) (hv2 : SetsIn w v2 M) (hT : Tab w) (hg : 0 < w.heap.size) :
    Calls Tryd.prog 6 #[v1, v2] w fun e w' => e = .returned (.bool true) ∧ Below w.heap.size w w' := by
  obtain ⟨a, cap, rfl⟩ : ∃ a cap, v1 = .slice a L.length cap := by obtain ⟨-, a, cap, h, -⟩ := hv1; exact ⟨a, cap, h⟩
  obtain ⟨b, cap2, rfl⟩ : ∃ a cap, v2 = .slice a M.length cap := by obtain ⟨-, a, cap, h, -⟩ := hv2; exact ⟨a, cap, h⟩
  have hLm := hv1.1
  have hMm := hv2.1
  unfold maxLen at hLm hMm
  by_cases h40 : 40 < L.length
  · have HT := Lib.hid hT
    have hd : decide ((40 : Int) < (L.length : Int)) = true := decide_eq_true (by omega)
    go_enter Tryd.func6, Tryd.ntmps6
    go_wp2_with (go_at_call 17; refine (awake_any _ HT.out hg).mono ?_; rintro e w' ⟨rfl, hb⟩)
    go_ret
    exact ⟨rfl, hb⟩
  have hd1 : decide ((40 : Int) < (L.length : Int)) = false := decide_eq_false (by omega)
  by_cases m40 : 40 < M.length
  · have HT := Lib.hid hT
    have hd : decide ((40 : Int) < (M.length : Int)) = true := decide_eq_true (by omega)
    go_enter Tryd.func6, Tryd.ntmps6
    go_wp2_with (go_at_call 17; refine (awake_any _ HT.out hg).mono ?_; rintro e w' ⟨rfl, hb⟩)
    go_ret
    exact ⟨rfl, hb⟩
  have hd2 : decide ((40 : Int) < (M.length : Int)) = false := decide_eq_false (by omega)
  have hL40 : L.length ≤ 40 := by omega
  have hM40 : M.length ≤ 40 := by omega
  have hz := zeroP
  have HTw := Lib.hid hT
  clear hT h40 m40
  go_enter Tryd.func6, Tryd.ntmps6
  go_wp2_with fail
  refine (Refine_any _ L _ hv1 (by omega)).mono ?_
  rintro e w1 ⟨rfl, hb1⟩
  have hP1 : PartAt (w1.alloc (.cells (partC (fun _ => 0) 0) 24)) w1.heap.size (fun _ => 0) 0 := PartAt.new w1 _ _
  have hP2 := PartAt.new w1 (cls (same L)) (nh (same L) 256 : Nat)
  have hB2 : Below w.heap.size w (w1.alloc (.cells (partC (cls (same L)) (nh (same L) 256 : Nat)) 24)) := hb1.alloc hb1.size _
  have hsr := World.setRow_alloc_new w1 (partC (fun _ => 0) 0) (partC (cls (same L)) (nh (same L) 256 : Nat)) 24
  have hl2 := hP2.lt
  generalize w1.alloc (.cells (partC (cls (same L)) (nh (same L) 256 : Nat)) 24) = w2 at *
  have hO2 := owns_none w2 w2.heap.size (Nat.le_refl _)
  have hb3 : Below w2.heap.size w2 (w2.alloc (.cells #[] 31)) := (Below.refl _ _).alloc (Nat.le_refl _) _
  generalize hw3 : w2.alloc (.cells #[] 31) = w3 at *
  have hB3 := hB2.trans (hb3.mono hB2.size)
  have hv1' := hv1.kept hB3
  have hs3 : w2.heap.size ≤ w3.heap.size := hb3.size
  have hP3 := hP2.kept hb3 hl2
  have hw2 : w.heap.size ≤ w2.heap.size := hB2.size
  clear hb1 hB2
  have hv2' := hv2.kept hB3
  have hLM : (L ++ M).length ≤ 80 := by rw [List.length_append]; omega
  have hn0 : ([] : List Nat).length + L.length ≤ 1000 := by simp; omega
  have hn1 : L.length + M.length ≤ 1000 := by omega
  go_wp2_with (first
    | (refine wpList_store_row rfl 24 (.tmp 5) (.tmp 21) rfl w1.heap.size (partC (cls (same L)) (nh (same L) 256 : Nat)) rfl rfl 24 (partC (fun _ => 0) 0) hP1 (sizeP _ _) (by rw [partC_size, partC_size]) (partC_one _ _) ?_; rw [hsr])
    | (refine wpList_append_sets rfl (.tmp 22) (.tmp 23) rfl w2.heap.size [] L hO2 hv1' hn0 hs3 ?_; intro v4 w4 hO4 hb4; have hv2'' := hv2.kept (hB3.trans (hb4.mono hw2)); have hs4 := Nat.le_trans hs3 hb4.size)
    | (refine wpList_append_sets rfl (.tmp 24) (.tmp 25) rfl w2.heap.size L M hO4 hv2'' hn1 hs4 ?_; intro v5 w5 hO5 hb5))
  have hI5 := owns_setsIn hO5 (by unfold maxLen; omega)
  have hP5 := (hP3.kept hb4 hl2).kept hb5 hl2
  have hB5 := (hB3.trans (hb4.mono hw2)).trans (hb5.mono hw2)
  clear hO2 hO4 hO5 hb3 hb4 hb5 hP1 hP2 hsr hw3 hB3 hv1' hv2' hv2'' hs3 hs4 hP3 hl2
  refine (Refine_any _ (L ++ M) _ hI5 (by omega)).mono ?_
  rintro e w6 ⟨rfl, hb6⟩
  have hP6 := hP5.kept hb6 hP5.lt
  have hB6 := hB5.trans (hb6.mono hB5.size)
  have hl6 := hP6.lt
  have hQ1 : PartAt (w6.alloc (.cells (partC (fun _ => 0) 0) 24)) w6.heap.size (fun _ => 0) 0 := PartAt.new w6 _ _
  have hQ7 := PartAt.new w6 (cls (same (L ++ M))) (nh (same (L ++ M)) 256 : Nat)
  have hb7 : Below w6.heap.size w6 (w6.alloc (.cells (partC (cls (same (L ++ M))) (nh (same (L ++ M)) 256 : Nat)) 24)) := (Below.refl _ _).alloc (Nat.le_refl _) _
  have hsr := World.setRow_alloc_new w6 (partC (fun _ => 0) 0) (partC (cls (same (L ++ M))) (nh (same (L ++ M)) 256 : Nat)) 24
  generalize w6.alloc (.cells (partC (cls (same (L ++ M))) (nh (same (L ++ M)) 256 : Nat)) 24) = w7 at *
  have hP7 := hP6.kept hb7 hl6
  have hB7 := hB6.trans (hb7.mono hB6.size)
  clear hb6 hb7 hI5 hP5 hB5 hP6 hB6 hl6
  go_wp2_with (refine wpList_store_row rfl 24 (.tmp 6) (.tmp 27) rfl w6.heap.size (partC (cls (same (L ++ M))) (nh (same (L ++ M)) 256 : Nat)) rfl rfl 24 (partC (fun _ => 0) 0) hQ1 (sizeP _ _) (by rw [partC_size, partC_size]) (partC_one _ _) ?_; rw [hsr])
  have hnl := nh_le256 L
  have hnm := nh_le256 (L ++ M)
  have Hge := Lib.hid (nh_more L M)
  have HSP1 := Lib.hid (fun (S : Nat) (h : S ∈ L) (w : World) => spl_no (cls (same L)) (nh (same L) 256) S hnl (cls_in L) (right_same L) (split_in L _ S h) w)
  have HSP2 := Lib.hid (fun (S : Nat) (h : S ∈ L) (w : World) => spl_no (cls (same (L ++ M))) (nh (same (L ++ M)) 256) S hnm (cls_in (L ++ M)) (right_same (L ++ M)) (split_in (L ++ M) _ S (List.mem_append_left M h)) w)
  have HSP3 := Lib.hid (fun (j : Nat) (w : World) => spl_no (cls (same (L ++ M))) (nh (same (L ++ M)) 256) (clsSet (cls (same L)) 256 j) hnm (cls_in (L ++ M)) (right_same (L ++ M)) (split_cls L M _ j) w)
  have HSETS := Lib.hid (fun (w : World) => sets_any (cls (same L)) (nh (same L) 256) w hnl (cls_in L) (right_same L))
  have HSOME := Lib.hid (fun (j : Nat) (h : j < nh (same L) 256) => cls_some L j h)
  have HIN := Lib.hid (cls_in L)
  have HAG := Lib.hid (And.intro (fun n => part_again L n) (nh_again L))
  generalize hN : nh (same L) 256 = N at *
  generalize hN2 : nh (same (L ++ M)) 256 = N2 at *
  generalize hof1 : cls (same L) = ofL0 at *
  generalize hof2 : cls (same (L ++ M)) = ofM0 at *
  obtain ⟨P0, hP0⟩ : ∃ P0, P0 = w1.heap.size := ⟨_, rfl⟩
  obtain ⟨Q0, hQ0⟩ : ∃ Q0, Q0 = w6.heap.size := ⟨_, rfl⟩
  rw [← hP0] at hP7 ⊢
  rw [← hQ0] at hQ7 ⊢
  have HN := Lib.hid hN
  have HN2 := Lib.hid hN2
  have HO1 := Lib.hid hof1
  have HO2 := Lib.hid hof2
  have hPl7 := hP7.lt
  have hQl7 := hQ7.lt
  have hv1' := hv1.kept hB7
  clear hP0 hQ0 hN hN2 hof1 hof2 hsr hQ1
  go_loopw [7] (fun i wr => ∃ k : Nat, i = .int .i64 k ∧ k ≤ L.length ∧ Below w7.heap.size w7 wr) (fun i _ => (L.length - intOf i).toNat)
  case atStart => exact ⟨0, rfl, by omega, Below.refl _ _⟩
  case round =>
    obtain ⟨k, rfl, hk, hb⟩ := hrel
    have hPr := hP7.kept hb hPl7
    have hQr := hQ7.kept hb hQl7
    have hPl := hPr.lt
    have hQl := hQr.lt
    by_cases hkl : k < L.length
    · have hin := hv1'.kept hb
      obtain ⟨-, a2, cap3, e2, -, hc⟩ := hin
      cases e2
      obtain ⟨bs, o, rfl, hq⟩ := hc k hkl
      have s0 := hq 0 (by omega)
      have s1 := hq 1 (by omega)
      have s2 := hq 2 (by omega)
      have s3 := hq 3 (by omega)
      have hbl := World.block_lt_of_cell? _ _ s0
      have hdk : decide ((k : Int) < (L.length : Int)) = true := decide_eq_true (by omega)
      replace HSP1 := Lib.hid (HSP1.out _ (getD_mem L k hkl))
      replace HSP2 := Lib.hid (HSP2.out _ (getD_mem L k hkl))
      clear hc hq HSP3 HSETS HSOME HAG HIN hv1 hv2 hv1'
      generalize L.getD k 0 = S at *
      rw [Nat.add_zero] at s0
      go_wp2
      refine region_mix [(false, 0), (false, 1), (false, 2), (false, 3), (false, 4), (true, 5), (false, 6), (false, 7), (false, 8), (false, 9), (false, 10), (false, 11), (true, 12)] (fun w' => Below wr.heap.size wr w') (by kernel_rfl) (by kernel_rfl) ((Below.refl wr.heap.size wr).drew) ?_
      simp only [planOps, List.map_cons, List.map_nil, List.getD_cons_zero, List.getD_cons_succ, List.length_cons, List.length_nil, List.drop_succ_cons, List.drop_zero]
      refine mix_seg (seg := [_, _, _, _, _]) rfl ((Below.refl wr.heap.size wr).drew) ?_
      intro ι hι F hF
      have f0 := fun n => ((hF n).cell (p := ⟨bs, o + k * 4, none⟩) hbl).trans s0
      have f1 := fun n => ((hF n).cell (p := ⟨bs, o + k * 4 + 1, none⟩) hbl).trans s1
      have f2 := fun n => ((hF n).cell (p := ⟨bs, o + k * 4 + 2, none⟩) hbl).trans s2
      have f3 := fun n => ((hF n).cell (p := ⟨bs, o + k * 4 + 3, none⟩) hbl).trans s3
      repeat (first | (refine BigFrame.wpQuiet_want rfl (fun K hK => ?_); refine quiet_load_row 24 (.tmp 5) rfl P0 rfl 24 (partC ofL0 (N : Nat)) (0, 0) _ (fun w' hw' => by obtain ⟨n, rfl⟩ := hw'; exact (hPr.kept (hF n) hPl)) Tryd.underlying24 rfl (sizeP _ _) ?_; refine hK _ ?_; clear hK K; simp only [Act.put, List.setIfInBounds_toArray, List.set_cons_zero, List.set_cons_succ]) | (refine BigFrame.wpQuiet_want rfl (fun K hK => ?_); refine quiet_load_row 24 (.tmp 6) rfl Q0 rfl 24 (partC ofM0 (N2 : Nat)) (0, 0) _ (fun w' hw' => by obtain ⟨n, rfl⟩ := hw'; exact (hQr.kept (hF n) hQl)) Tryd.underlying24 rfl (sizeP _ _) ?_; refine hK _ ?_; clear hK K; simp only [Act.put, List.setIfInBounds_toArray, List.set_cons_zero, List.set_cons_succ]) | (go_big_quiet_step (fail)))
      refine wpQuiet_nil ?_
      clear f0 f1 f2 f3 hF hι F
      refine mix_eff (fun K hK => ?_)
      go_wp2_with (go_at_call 14; refine (HSP1.out _).mono ?_; rintro e ww101 ⟨rfl, hb101⟩)
      have hB101 : Below wr.heap.size wr ww101 := (Below.refl wr.heap.size wr).drew.trans (hb101.mono ((Below.refl wr.heap.size wr).drew).size)
      clear hb101
      refine mix_on hK hB101 ?_
      clear hK K
      refine mix_seg (seg := [_, _, _, _, _, _]) rfl hB101 ?_
      intro ι hι F hF
      have f0 := fun n => ((hF n).cell (p := ⟨bs, o + k * 4, none⟩) hbl).trans s0
      have f1 := fun n => ((hF n).cell (p := ⟨bs, o + k * 4 + 1, none⟩) hbl).trans s1
      have f2 := fun n => ((hF n).cell (p := ⟨bs, o + k * 4 + 2, none⟩) hbl).trans s2
      have f3 := fun n => ((hF n).cell (p := ⟨bs, o + k * 4 + 3, none⟩) hbl).trans s3
      repeat (first | (refine BigFrame.wpQuiet_want rfl (fun K hK => ?_); refine quiet_load_row 24 (.tmp 5) rfl P0 rfl 24 (partC ofL0 (N : Nat)) (0, 0) _ (fun w' hw' => by obtain ⟨n, rfl⟩ := hw'; exact (hPr.kept (hF n) hPl)) Tryd.underlying24 rfl (sizeP _ _) ?_; refine hK _ ?_; clear hK K; simp only [Act.put, List.setIfInBounds_toArray, List.set_cons_zero, List.set_cons_succ]) | (refine BigFrame.wpQuiet_want rfl (fun K hK => ?_); refine quiet_load_row 24 (.tmp 6) rfl Q0 rfl 24 (partC ofM0 (N2 : Nat)) (0, 0) _ (fun w' hw' => by obtain ⟨n, rfl⟩ := hw'; exact (hQr.kept (hF n) hQl)) Tryd.underlying24 rfl (sizeP _ _) ?_; refine hK _ ?_; clear hK K; simp only [Act.put, List.setIfInBounds_toArray, List.set_cons_zero, List.set_cons_succ]) | (go_big_quiet_step (fail)))
      refine wpQuiet_nil ?_
      clear f0 f1 f2 f3 hF hι F
      refine mix_eff (fun K hK => ?_)
      go_wp2_with (go_at_call 14; refine (HSP2.out _).mono ?_; rintro e ww102 ⟨rfl, hb102⟩)
      have hB102 : Below wr.heap.size wr ww102 := hB101.trans (hb102.mono (hB101).size)
      clear hb102
      refine mix_on hK hB102 ?_
      clear hK K
      show wpList _ _ _ _ _ _
      go_wp2
      refine NoPanic.normal ?_
      go_wp2
      exact ⟨⟨k + 1, by go_num, by omega, hb.trans (hB102.mono hb.size)⟩, by simp [intOf]; omega⟩
    · have hkL : k = L.length := by omega
      subst hkL
      clear HSP1 HSP2 hk hkl
      obtain ⟨w8, rfl⟩ : ∃ x : World, x = wr := ⟨_, rfl⟩
      have hB8 := hB7.trans (hb.mono hB7.size)
      go_wp2_with (refine wpList_load_row rfl 24 (.tmp 5) rfl P0 rfl 24 (partC ofL0 (N : Nat)) (0, 0) _ hPr Tryd.underlying24 rfl (sizeP _ _) ?_)
      refine (HSETS.out _).mono ?_
      rintro e w9 ⟨g, rfl, hgq, hrow9, hb9⟩
      have hP9 := hPr.kept hb9 hPl
      have hQ9 := hQr.kept hb9 hQl
      have hB9 := hB8.trans (hb9.mono hB8.size)
      clear HSETS hb hb9 hPr hQr hPl hQl hP7 hQ7 hPl7 hQl7 hB8 hB7 hw2 hLM hn0 hn1
      go_wp2
      have hU : SetsRow (w9.alloc (.cells #[.int .u64 0, .int .u64 0, .int .u64 0, .int .u64 0] 31)) w9.heap.size [uni ofL0 0] := by
        have := heap_alloc_new w9 (.cells #[.int .u64 0, .int .u64 0, .int .u64 0, .int .u64 0] 31)
        rw [uni_zero]
        unfold SetsRow
        rw [this]
        simp [setsL, set4, wd_zero]
      have hb10 : Below w9.heap.size w9 (w9.alloc (.cells #[.int .u64 0, .int .u64 0, .int .u64 0, .int .u64 0] 31)) := (Below.refl _ _).alloc (Nat.le_refl _) _
      have hPl := hP9.lt
      have hQl := hQ9.lt
      have hgl := hrow9.lt
      have hB9s := hB9.size
      generalize w9.alloc (.cells #[.int .u64 0, .int .u64 0, .int .u64 0, .int .u64 0] 31) = w10 at *
      have HBK := Lib.hid (fun (w' : World) (h : Below w9.heap.size w9 w') => hB9.trans (h.mono hB9s))
      obtain ⟨U0, hU0⟩ : ∃ U0, U0 = w9.heap.size := ⟨_, rfl⟩
      rw [← hU0] at hU hb10 hPl hQl hgl HBK ⊢
      clear hU0 hB9 hB9s
      go_loopw [10] (fun i wr => ∃ j : Nat, i = .int .i64 j ∧ j ≤ N ∧ SetsRow wr U0 [uni ofL0 j] ∧ Below U0 w9 wr) (fun i _ => (N - intOf i).toNat)
      case atStart => exact ⟨0, rfl, by omega, hU, hb10⟩
      case round =>
        obtain ⟨j, rfl, hj, hUr, hb⟩ := hrel
        have hPr := hP9.kept hb hPl
        have hQr := hQ9.kept hb hQl
        have hrow := hrow9.kept hb hgl
        clear hP9 hQ9 hrow9 hU hb10 hPl hQl hgl
        have hPl := hPr.lt
        have hQl := hQr.lt
        have hgl := hrow.lt
        have hul := hUr.lt
        by_cases hjl : j < N
        · have hll := clsSets_length ofL0 N 256
          have r0 := hrow.cell j 0 (by omega) (by omega)
          have r1 := hrow.cell j 1 (by omega) (by omega)
          have r2 := hrow.cell j 2 (by omega) (by omega)
          have r3 := hrow.cell j 3 (by omega) (by omega)
          rw [clsSets_get ofL0 N 256 _ hjl] at r0 r1 r2 r3
          rw [Nat.add_zero] at r0
          have u0 : wr.cell? ⟨U0, 0, none⟩ = some (.int .u64 (wd (uni ofL0 j) 0)) := hUr.cell 0 0 (by simp) (by omega)
          have u1 : wr.cell? ⟨U0, 1, none⟩ = some (.int .u64 (wd (uni ofL0 j) 1)) := hUr.cell 0 1 (by simp) (by omega)
          have u2 : wr.cell? ⟨U0, 2, none⟩ = some (.int .u64 (wd (uni ofL0 j) 2)) := hUr.cell 0 2 (by simp) (by omega)
          have u3 : wr.cell? ⟨U0, 3, none⟩ = some (.int .u64 (wd (uni ofL0 j) 3)) := hUr.cell 0 3 (by simp) (by omega)
          have e0 := setEq0_is (S := clsSet ofL0 256 j) (clsSet_lt ofL0 j) false (decide_eq_false (HSOME.out j hjl))
          have e1 := setEq0_is (S := uni ofL0 j &&& clsSet ofL0 256 j) (and_lt (uni_lt ofL0 j)) true (decide_eq_true (uni_apart ofL0 j))
          have HSP4 := Lib.hid (HSP3.out j)
          have HUS := Lib.hid (uni_succ ofL0 j)
          have hdk : decide ((j : Int) < (N : Int)) = true := decide_eq_true (by omega)
          have hU5 := hUr
          clear HSP3 HSOME HAG HIN HN HN2 HO1 HO2 hrow hll hUr hPr hv1 hv2 hv1' hLm hMm HBK
          generalize clsSet ofL0 256 j = S at *
          generalize uni ofL0 j = U at *
          go_wp2
          refine region_mix [(false, 0), (false, 1), (false, 2), (false, 3), (false, 4), (false, 5), (false, 6), (false, 7), (false, 8), (false, 9), (false, 10), (false, 11), (false, 13), (true, 12), (false, 14), (false, 15), (false, 16), (false, 17), (false, 18), (false, 19), (false, 20), (false, 21), (true, 22)] (fun w' => Below wr.heap.size wr w') (by kernel_rfl) (by kernel_rfl) ((Below.refl wr.heap.size wr).drew) ?_
          simp only [planOps, List.map_cons, List.map_nil, List.getD_cons_zero, List.getD_cons_succ, List.length_cons, List.length_nil, List.drop_succ_cons, List.drop_zero]
          refine mix_seg (seg := [_, _, _, _, _, _, _, _, _, _, _, _, _]) rfl ((Below.refl wr.heap.size wr).drew) ?_
          intro ι hι F hF
          have a0 := fun n => ((hF n).cell (p := ⟨g, j * 4, none⟩) hgl).trans r0
          have a1 := fun n => ((hF n).cell (p := ⟨g, j * 4 + 1, none⟩) hgl).trans r1
          have a2 := fun n => ((hF n).cell (p := ⟨g, j * 4 + 2, none⟩) hgl).trans r2
          have a3 := fun n => ((hF n).cell (p := ⟨g, j * 4 + 3, none⟩) hgl).trans r3
          have b0 := fun n => ((hF n).cell (p := ⟨U0, 0, none⟩) hul).trans u0
          have b1 := fun n => ((hF n).cell (p := ⟨U0, 1, none⟩) hul).trans u1
          have b2 := fun n => ((hF n).cell (p := ⟨U0, 2, none⟩) hul).trans u2
          have b3 := fun n => ((hF n).cell (p := ⟨U0, 3, none⟩) hul).trans u3
          repeat (first | (refine BigFrame.wpQuiet_want rfl (fun K hK => ?_); refine quiet_load_row 24 (.tmp 6) rfl Q0 rfl 24 (partC ofM0 (N2 : Nat)) (0, 0) _ (fun w' hw' => by obtain ⟨n, rfl⟩ := hw'; exact (hQr.kept (hF n) hQl)) Tryd.underlying24 rfl (sizeP _ _) ?_; refine hK _ ?_; clear hK K; simp only [Act.put, List.setIfInBounds_toArray, List.set_cons_zero, List.set_cons_succ]) | (refine BigFrame.wpQuiet_want rfl (fun K hK => ?_); refine quiet_build 31 #[] rfl #[] (by simp) _ buildS0 ?_; refine hK _ ?_; clear hK K; simp only [Act.put, List.setIfInBounds_toArray, List.set_cons_zero, List.set_cons_succ]) | (go_big_quiet_step (fail)))
          refine wpQuiet_nil ?_
          clear a0 a1 a2 a3 b0 b1 b2 b3 hF hι F
          refine mix_eff (fun K hK => ?_)
          go_wp2_with (go_at_call 20; refine (and_any U S _).mono ?_; rintro e ww201 ⟨rfl, hb201⟩)
          have hB201 : Below wr.heap.size wr ww201 := (Below.refl wr.heap.size wr).drew.trans (hb201.mono ((Below.refl wr.heap.size wr).drew).size)
          clear hb201
          refine mix_on hK hB201 ?_
          clear hK K
          refine mix_seg (seg := [_, _, _, _, _, _, _, _]) rfl hB201 ?_
          intro ι hι F hF
          have a0 := fun n => ((hF n).cell (p := ⟨g, j * 4, none⟩) hgl).trans r0
          have a1 := fun n => ((hF n).cell (p := ⟨g, j * 4 + 1, none⟩) hgl).trans r1
          have a2 := fun n => ((hF n).cell (p := ⟨g, j * 4 + 2, none⟩) hgl).trans r2
          have a3 := fun n => ((hF n).cell (p := ⟨g, j * 4 + 3, none⟩) hgl).trans r3
          have b0 := fun n => ((hF n).cell (p := ⟨U0, 0, none⟩) hul).trans u0
          have b1 := fun n => ((hF n).cell (p := ⟨U0, 1, none⟩) hul).trans u1
          have b2 := fun n => ((hF n).cell (p := ⟨U0, 2, none⟩) hul).trans u2
          have b3 := fun n => ((hF n).cell (p := ⟨U0, 3, none⟩) hul).trans u3
          repeat (first | (refine BigFrame.wpQuiet_want rfl (fun K hK => ?_); refine quiet_load_row 24 (.tmp 6) rfl Q0 rfl 24 (partC ofM0 (N2 : Nat)) (0, 0) _ (fun w' hw' => by obtain ⟨n, rfl⟩ := hw'; exact (hQr.kept (hF n) hQl)) Tryd.underlying24 rfl (sizeP _ _) ?_; refine hK _ ?_; clear hK K; simp only [Act.put, List.setIfInBounds_toArray, List.set_cons_zero, List.set_cons_succ]) | (refine BigFrame.wpQuiet_want rfl (fun K hK => ?_); refine quiet_build 31 #[] rfl #[] (by simp) _ buildS0 ?_; refine hK _ ?_; clear hK K; simp only [Act.put, List.setIfInBounds_toArray, List.set_cons_zero, List.set_cons_succ]) | (go_big_quiet_step (fail)))
          refine wpQuiet_nil ?_
          clear a0 a1 a2 a3 b0 b1 b2 b3 hF hι F
          refine mix_eff (fun K hK => ?_)
          go_wp2_with (go_at_call 14; refine (HSP4.out _).mono ?_; rintro e ww202 ⟨rfl, hb202⟩)
          have hB202 : Below wr.heap.size wr ww202 := hB201.trans (hb202.mono (hB201).size)
          clear hb202
          refine mix_on hK hB202 ?_
          clear hK K
          show wpList _ _ _ _ _ _
          go_wp2
          refine NoPanic.normal ?_
          go_wp2
          have hU6 := hU5.kept hB202 hul
          have hb6 := hB202.size
          have p0 := (hB202.cell (p := ⟨g, j * 4, none⟩) hgl).trans r0
          have p1 := (hB202.cell (p := ⟨g, j * 4 + 1, none⟩) hgl).trans r1
          have p2 := (hB202.cell (p := ⟨g, j * 4 + 2, none⟩) hgl).trans r2
          have p3 := (hB202.cell (p := ⟨g, j * 4 + 3, none⟩) hgl).trans r3
          have q0 := (hB202.cell (p := ⟨U0, 0, none⟩) hul).trans u0
          have q1 := (hB202.cell (p := ⟨U0, 1, none⟩) hul).trans u1
          have q2 := (hB202.cell (p := ⟨U0, 2, none⟩) hul).trans u2
          have q3 := (hB202.cell (p := ⟨U0, 3, none⟩) hul).trans u3
          have hb7 : Below U0 w9 ww202 := hb.trans (hB202.mono (by omega))
          have hgl0 := hgl
          have hul0 := hul
          replace hgl : g < ww202.heap.size := by omega
          replace hul : U0 < ww202.heap.size := by omega
          clear r0 r1 r2 r3 u0 u1 u2 u3 e0 e1 HSP4 hU5 hB201 hB202 hQr hPl hQl hb
          refine region_mix [(false, 0), (false, 1), (false, 2), (false, 3), (false, 4), (true, 5)] (fun w' => Below ww202.heap.size ww202 w') (by kernel_rfl) (by kernel_rfl) ((Below.refl ww202.heap.size ww202).drew) ?_
          simp only [planOps, List.map_cons, List.map_nil, List.getD_cons_zero, List.getD_cons_succ, List.length_cons, List.length_nil, List.drop_succ_cons, List.drop_zero]
          refine mix_seg (seg := [_, _, _, _, _]) rfl ((Below.refl ww202.heap.size ww202).drew) ?_
          intro ι hι F hF
          have a0 := fun n => ((hF n).cell (p := ⟨g, j * 4, none⟩) hgl).trans p0
          have a1 := fun n => ((hF n).cell (p := ⟨g, j * 4 + 1, none⟩) hgl).trans p1
          have a2 := fun n => ((hF n).cell (p := ⟨g, j * 4 + 2, none⟩) hgl).trans p2
          have a3 := fun n => ((hF n).cell (p := ⟨g, j * 4 + 3, none⟩) hgl).trans p3
          have b0 := fun n => ((hF n).cell (p := ⟨U0, 0, none⟩) hul).trans q0
          have b1 := fun n => ((hF n).cell (p := ⟨U0, 1, none⟩) hul).trans q1
          have b2 := fun n => ((hF n).cell (p := ⟨U0, 2, none⟩) hul).trans q2
          have b3 := fun n => ((hF n).cell (p := ⟨U0, 3, none⟩) hul).trans q3
          repeat (first | (go_big_quiet_step (fail)))
          refine wpQuiet_nil ?_
          clear a0 a1 a2 a3 b0 b1 b2 b3 hF hι F
          refine mix_eff (fun K hK => ?_)
          go_wp2_with (go_at_call 21; refine (or_any U S _).mono ?_; rintro e ww203 ⟨rfl, hb203⟩)
          have hB203 : Below ww202.heap.size ww202 ww203 := (Below.refl ww202.heap.size ww202).drew.trans (hb203.mono ((Below.refl ww202.heap.size ww202).drew).size)
          clear hb203
          refine mix_on hK hB203 ?_
          clear hK K
          show wpList _ _ _ _ _ _
          have hB203' := hB203
          have hU7 := hU6.kept hB203 hul
          have c0 : ww203.cell? ⟨U0, 0, none⟩ = some (.int .u64 (wd U 0)) := hU7.cell 0 0 (by simp) (by omega)
          have c1 : ww203.cell? ⟨U0, 1, none⟩ = some (.int .u64 (wd U 1)) := hU7.cell 0 1 (by simp) (by omega)
          have c2 : ww203.cell? ⟨U0, 2, none⟩ = some (.int .u64 (wd U 2)) := hU7.cell 0 2 (by simp) (by omega)
          have c3 : ww203.cell? ⟨U0, 3, none⟩ = some (.int .u64 (wd U 3)) := hU7.cell 0 3 (by simp) (by omega)
          have z0 := hU7.free 0
          have z1 := hU7.free 1
          have z2 := hU7.free 2
          have z3 := hU7.free 3
          have hU8 := hU7.set 0 (U ||| S) (by simp)
          simp only [Nat.zero_mul, Nat.zero_add, List.set_cons_zero] at hU8
          clear p0 p1 p2 p3 q0 q1 q2 q3
          go_wp2
          refine NoPanic.normal ?_
          go_wp2
          exact ⟨⟨j + 1, by go_num, by omega, by rw [← HUS.out]; exact hU8, ((((hb7.trans (hB203.mono (by omega))).setCell (p := ⟨U0, 0, none⟩) (Nat.le_refl _) _).setCell (p := ⟨U0, 1, none⟩) (Nat.le_refl _) _).setCell (p := ⟨U0, 2, none⟩) (Nat.le_refl _) _).setCell (p := ⟨U0, 3, none⟩) (Nat.le_refl _) _⟩, by simp [intOf]; omega⟩
        · have hjN : j = N := by omega
          subst hjN
          rw [uni_all ofL0 j HIN.out] at hUr
          have hBr := HBK.out _ hb
          have hv1r := hv1.kept hBr
          have hv2r := hv2.kept hBr
          have u0 : wr.cell? ⟨U0, 0, none⟩ = some (.int .u64 (wd full 0)) := hUr.cell 0 0 (by simp) (by omega)
          have u1 : wr.cell? ⟨U0, 1, none⟩ = some (.int .u64 (wd full 1)) := hUr.cell 0 1 (by simp) (by omega)
          have u2 : wr.cell? ⟨U0, 2, none⟩ = some (.int .u64 (wd full 2)) := hUr.cell 0 2 (by simp) (by omega)
          have u3 : wr.cell? ⟨U0, 3, none⟩ = some (.int .u64 (wd full 3)) := hUr.cell 0 3 (by simp) (by omega)
          have cP := hPr.cellN
          have cQ := hQr.cellN
          have e0 := setEq_is (S := full) (T := full) (by decide +kernel) (by decide +kernel) true (by simp)
          have e1 := partEq ofL0 (j : Nat)
          have e2 := partEq ofM0 (N2 : Nat)
          have hge : decide ((j : Int) ≤ (N2 : Int)) = true := decide_eq_true (by have := Hge.out; omega)
          have hge2 : decide (j ≤ N2) = true := decide_eq_true Hge.out
          have HREF1 := Lib.hid (fun (w' : World) (h : Below wr.heap.size wr w') => again_any L ofL0 j HO1.out HN.out g w' ((hrow.kept h hgl)) hnl)
          have HREF2 := Lib.hid (fun (v : Value) (w' : World) (h : SetsIn w' v (M ++ L)) => swap_any L M ofM0 N2 HO2.out HN2.out v w' h hL40 hM40)
          have HV1 := Lib.hid (fun (w' : World) (h : Below wr.heap.size wr w') => hv1r.kept h)
          have HV2 := Lib.hid (fun (w' : World) (h : Below wr.heap.size wr w') => hv2r.kept h)
          have HTr := Lib.hid (fun (w' : World) (h : Below wr.heap.size wr w') => And.intro (HTw.out.below (hBr.trans (h.mono hBr.size)) hg) (Nat.lt_of_lt_of_le hg (hBr.trans (h.mono hBr.size)).size))
          have hm1 : ([] : List Nat).length + M.length ≤ 1000 := by simp; omega
          have hm2 : M.length + L.length ≤ 1000 := by omega
          have hm3 : (M ++ L).length ≤ maxLen := by rw [List.length_append]; unfold maxLen; omega
          clear HSP3 HSOME HAG HIN HN HN2 HO1 HO2 hUr hv1 hv2 hv1' hLm hMm HBK hb hv1r hv2r hz HTw
          go_wp2
          refine region_mix [(false, 0), (true, 1), (false, 2), (false, 3), (false, 4), (false, 5), (false, 6), (false, 7), (false, 8), (false, 9), (false, 10), (false, 11), (false, 13), (true, 12), (false, 14), (false, 15), (false, 16), (false, 18), (false, 20), (false, 23), (true, 17), (true, 19), (true, 21), (true, 22), (false, 24), (false, 25), (false, 26), (true, 27), (false, 28)] (fun w' => Below wr.heap.size wr w') (by kernel_rfl) (by kernel_rfl) ((Below.refl wr.heap.size wr).drew) ?_
          simp only [planOps, List.map_cons, List.map_nil, List.getD_cons_zero, List.getD_cons_succ, List.length_cons, List.length_nil, List.drop_succ_cons, List.drop_zero]
          refine mix_seg (seg := [_]) rfl ((Below.refl wr.heap.size wr).drew) ?_
          intro ι hι F hF
          have b0 := fun n => ((hF n).cell (p := ⟨U0, 0, none⟩) hul).trans u0
          have b1 := fun n => ((hF n).cell (p := ⟨U0, 1, none⟩) hul).trans u1
          have b2 := fun n => ((hF n).cell (p := ⟨U0, 2, none⟩) hul).trans u2
          have b3 := fun n => ((hF n).cell (p := ⟨U0, 3, none⟩) hul).trans u3
          have bP := fun n => ((hF n).cell (p := ⟨P0, 256, none⟩) hPl).trans cP
          have bQ := fun n => ((hF n).cell (p := ⟨Q0, 256, none⟩) hQl).trans cQ
          repeat (first | (refine BigFrame.wpQuiet_want rfl (fun K hK => ?_); refine quiet_load_row 24 (.tmp 5) rfl P0 rfl 24 (partC ofL0 (j : Nat)) (0, 0) _ (fun w' hw' => by obtain ⟨n, rfl⟩ := hw'; exact (hPr.kept (hF n) hPl)) Tryd.underlying24 rfl (sizeP _ _) ?_; refine hK _ ?_; clear hK K; simp only [Act.put, List.setIfInBounds_toArray, List.set_cons_zero, List.set_cons_succ]) | (refine BigFrame.wpQuiet_want rfl (fun K hK => ?_); refine quiet_load_row 24 (.tmp 6) rfl Q0 rfl 24 (partC ofM0 (N2 : Nat)) (0, 0) _ (fun w' hw' => by obtain ⟨n, rfl⟩ := hw'; exact (hQr.kept (hF n) hQl)) Tryd.underlying24 rfl (sizeP _ _) ?_; refine hK _ ?_; clear hK K; simp only [Act.put, List.setIfInBounds_toArray, List.set_cons_zero, List.set_cons_succ]) | (go_big_quiet_step (fail)))
          refine wpQuiet_nil ?_
          clear b0 b1 b2 b3 bP bQ hF hι F
          refine mix_eff (fun K hK => ?_)
          go_wp2_with (go_at_call 22; refine (all_any _).mono ?_; rintro e ww301 ⟨rfl, hb301⟩)
          have hB301 : Below wr.heap.size wr ww301 := (Below.refl wr.heap.size wr).drew.trans (hb301.mono ((Below.refl wr.heap.size wr).drew).size)
          clear hb301
          refine mix_on hK hB301 ?_
          clear hK K
          refine mix_seg (seg := [_, _, _, _, _, _, _, _, _, _, _]) rfl hB301 ?_
          intro ι hι F hF
          have b0 := fun n => ((hF n).cell (p := ⟨U0, 0, none⟩) hul).trans u0
          have b1 := fun n => ((hF n).cell (p := ⟨U0, 1, none⟩) hul).trans u1
          have b2 := fun n => ((hF n).cell (p := ⟨U0, 2, none⟩) hul).trans u2
          have b3 := fun n => ((hF n).cell (p := ⟨U0, 3, none⟩) hul).trans u3
          have bP := fun n => ((hF n).cell (p := ⟨P0, 256, none⟩) hPl).trans cP
          have bQ := fun n => ((hF n).cell (p := ⟨Q0, 256, none⟩) hQl).trans cQ
          repeat (first | (refine BigFrame.wpQuiet_want rfl (fun K hK => ?_); refine quiet_load_row 24 (.tmp 5) rfl P0 rfl 24 (partC ofL0 (j : Nat)) (0, 0) _ (fun w' hw' => by obtain ⟨n, rfl⟩ := hw'; exact (hPr.kept (hF n) hPl)) Tryd.underlying24 rfl (sizeP _ _) ?_; refine hK _ ?_; clear hK K; simp only [Act.put, List.setIfInBounds_toArray, List.set_cons_zero, List.set_cons_succ]) | (refine BigFrame.wpQuiet_want rfl (fun K hK => ?_); refine quiet_load_row 24 (.tmp 6) rfl Q0 rfl 24 (partC ofM0 (N2 : Nat)) (0, 0) _ (fun w' hw' => by obtain ⟨n, rfl⟩ := hw'; exact (hQr.kept (hF n) hQl)) Tryd.underlying24 rfl (sizeP _ _) ?_; refine hK _ ?_; clear hK K; simp only [Act.put, List.setIfInBounds_toArray, List.set_cons_zero, List.set_cons_succ]) | (go_big_quiet_step (fail)))
          refine wpQuiet_nil ?_
          clear b0 b1 b2 b3 bP bQ hF hι F
          refine mix_eff (fun K hK => ?_)
          go_wp2_with (go_at_call 10; refine (HREF1.out _ hB301).mono ?_; rintro e ww302 ⟨rfl, hb302⟩)
          have hB302 : Below wr.heap.size wr ww302 := hB301.trans (hb302.mono (hB301).size)
          clear hb302
          refine mix_on hK hB302 ?_
          clear hK K
          refine mix_seg (seg := [_, _, _, _, _, _]) rfl hB302 ?_
          intro ι hι F hF
          have b0 := fun n => ((hF n).cell (p := ⟨U0, 0, none⟩) hul).trans u0
          have b1 := fun n => ((hF n).cell (p := ⟨U0, 1, none⟩) hul).trans u1
          have b2 := fun n => ((hF n).cell (p := ⟨U0, 2, none⟩) hul).trans u2
          have b3 := fun n => ((hF n).cell (p := ⟨U0, 3, none⟩) hul).trans u3
          have bP := fun n => ((hF n).cell (p := ⟨P0, 256, none⟩) hPl).trans cP
          have bQ := fun n => ((hF n).cell (p := ⟨Q0, 256, none⟩) hQl).trans cQ
          repeat (first | (refine BigFrame.wpQuiet_want rfl (fun K hK => ?_); refine quiet_load_row 24 (.tmp 5) rfl P0 rfl 24 (partC ofL0 (j : Nat)) (0, 0) _ (fun w' hw' => by obtain ⟨n, rfl⟩ := hw'; exact (hPr.kept (hF n) hPl)) Tryd.underlying24 rfl (sizeP _ _) ?_; refine hK _ ?_; clear hK K; simp only [Act.put, List.setIfInBounds_toArray, List.set_cons_zero, List.set_cons_succ]) | (refine BigFrame.wpQuiet_want rfl (fun K hK => ?_); refine quiet_load_row 24 (.tmp 6) rfl Q0 rfl 24 (partC ofM0 (N2 : Nat)) (0, 0) _ (fun w' hw' => by obtain ⟨n, rfl⟩ := hw'; exact (hQr.kept (hF n) hQl)) Tryd.underlying24 rfl (sizeP _ _) ?_; refine hK _ ?_; clear hK K; simp only [Act.put, List.setIfInBounds_toArray, List.set_cons_zero, List.set_cons_succ]) | (go_big_quiet_step (fail)))
          refine wpQuiet_nil ?_
          clear b0 b1 b2 b3 bP bQ hF hι F
          refine mix_eff (fun K hK => ?_)
          go_wp2_with (fail)
          have hO3 := owns_none ww302 ww302.heap.size (Nat.le_refl _)
          have hB303 : Below wr.heap.size wr (ww302.alloc (.cells #[] 31)) := hB302.alloc hB302.size _
          have hs303 : ww302.heap.size ≤ (ww302.alloc (.cells #[] 31)).heap.size := by simp
          generalize ww302.alloc (.cells #[] 31) = ww303 at *
          refine mix_on hK hB303 ?_
          clear hK K
          refine mix_eff (fun K hK => ?_)
          go_wp2_with (refine BigFrame.wpList_want rfl (fun K' hK' => ?_); refine wp_append_sets (.tmp 104) (.tmp 105) rfl ww302.heap.size [] M hO3 (HV2.out _ hB303) hm1 hs303 ?_; intro v304 ww304 hO4 hb304; refine hK' _ _ ?_; clear hK' K')
          have hB304 : Below wr.heap.size wr ww304 := hB303.trans (hb304.mono hB302.size)
          have hs304 := Nat.le_trans hs303 hb304.size
          clear hb304
          refine mix_on hK hB304 ?_
          clear hK K
          refine mix_eff (fun K hK => ?_)
          go_wp2_with (refine BigFrame.wpList_want rfl (fun K' hK' => ?_); refine wp_append_sets (.tmp 106) (.tmp 107) rfl ww302.heap.size M L hO4 (HV1.out _ hB304) hm2 hs304 ?_; intro v305 ww305 hO5 hb305; refine hK' _ _ ?_; clear hK' K')
          have hB305 : Below wr.heap.size wr ww305 := hB304.trans (hb305.mono hB302.size)
          have hI5 := owns_setsIn hO5 hm3
          clear hb305
          refine mix_on hK hB305 ?_
          clear hK K
          refine mix_eff (fun K hK => ?_)
          go_wp2_with (go_at_call 10; refine (HREF2.out _ _ hI5).mono ?_; rintro e ww306 ⟨rfl, hb306⟩)
          have hB306 : Below wr.heap.size wr ww306 := hB305.trans (hb306.mono (hB305).size)
          clear hb306
          refine mix_on hK hB306 ?_
          clear hK K
          refine mix_seg (seg := [_, _, _]) rfl hB306 ?_
          intro ι hι F hF
          have b0 := fun n => ((hF n).cell (p := ⟨U0, 0, none⟩) hul).trans u0
          have b1 := fun n => ((hF n).cell (p := ⟨U0, 1, none⟩) hul).trans u1
          have b2 := fun n => ((hF n).cell (p := ⟨U0, 2, none⟩) hul).trans u2
          have b3 := fun n => ((hF n).cell (p := ⟨U0, 3, none⟩) hul).trans u3
          have bP := fun n => ((hF n).cell (p := ⟨P0, 256, none⟩) hPl).trans cP
          have bQ := fun n => ((hF n).cell (p := ⟨Q0, 256, none⟩) hQl).trans cQ
          repeat (first | (refine BigFrame.wpQuiet_want rfl (fun K hK => ?_); refine quiet_load_row 24 (.tmp 5) rfl P0 rfl 24 (partC ofL0 (j : Nat)) (0, 0) _ (fun w' hw' => by obtain ⟨n, rfl⟩ := hw'; exact (hPr.kept (hF n) hPl)) Tryd.underlying24 rfl (sizeP _ _) ?_; refine hK _ ?_; clear hK K; simp only [Act.put, List.setIfInBounds_toArray, List.set_cons_zero, List.set_cons_succ]) | (refine BigFrame.wpQuiet_want rfl (fun K hK => ?_); refine quiet_load_row 24 (.tmp 6) rfl Q0 rfl 24 (partC ofM0 (N2 : Nat)) (0, 0) _ (fun w' hw' => by obtain ⟨n, rfl⟩ := hw'; exact (hQr.kept (hF n) hQl)) Tryd.underlying24 rfl (sizeP _ _) ?_; refine hK _ ?_; clear hK K; simp only [Act.put, List.setIfInBounds_toArray, List.set_cons_zero, List.set_cons_succ]) | (go_big_quiet_step (fail)))
          refine wpQuiet_nil ?_
          clear b0 b1 b2 b3 bP bQ hF hι F
          refine mix_eff (fun K hK => ?_)
          go_wp2_with (go_at_call 17; refine (awake_any _ (HTr.out _ hB306).1 (HTr.out _ hB306).2).mono ?_; rintro e ww307 ⟨rfl, hb307⟩)
          have hB307 : Below wr.heap.size wr ww307 := hB306.trans (hb307.mono (hB306).size)
          clear hb307
          refine mix_on hK hB307 ?_
          clear hK K
          refine mix_seg (seg := [_]) (rest := []) rfl hB307 ?_
          intro ι hι F hF
          have b0 := fun n => ((hF n).cell (p := ⟨U0, 0, none⟩) hul).trans u0
          have b1 := fun n => ((hF n).cell (p := ⟨U0, 1, none⟩) hul).trans u1
          have b2 := fun n => ((hF n).cell (p := ⟨U0, 2, none⟩) hul).trans u2
          have b3 := fun n => ((hF n).cell (p := ⟨U0, 3, none⟩) hul).trans u3
          have bP := fun n => ((hF n).cell (p := ⟨P0, 256, none⟩) hPl).trans cP
          have bQ := fun n => ((hF n).cell (p := ⟨Q0, 256, none⟩) hQl).trans cQ
          repeat (first | (refine BigFrame.wpQuiet_want rfl (fun K hK => ?_); refine quiet_load_row 24 (.tmp 5) rfl P0 rfl 24 (partC ofL0 (j : Nat)) (0, 0) _ (fun w' hw' => by obtain ⟨n, rfl⟩ := hw'; exact (hPr.kept (hF n) hPl)) Tryd.underlying24 rfl (sizeP _ _) ?_; refine hK _ ?_; clear hK K; simp only [Act.put, List.setIfInBounds_toArray, List.set_cons_zero, List.set_cons_succ]) | (refine BigFrame.wpQuiet_want rfl (fun K hK => ?_); refine quiet_load_row 24 (.tmp 6) rfl Q0 rfl 24 (partC ofM0 (N2 : Nat)) (0, 0) _ (fun w' hw' => by obtain ⟨n, rfl⟩ := hw'; exact (hQr.kept (hF n) hQl)) Tryd.underlying24 rfl (sizeP _ _) ?_; refine hK _ ?_; clear hK K; simp only [Act.put, List.setIfInBounds_toArray, List.set_cons_zero, List.set_cons_succ]) | (go_big_quiet_step (fail)))
          refine wpQuiet_nil ?_
          clear b0 b1 b2 b3 bP bQ hF hι F
          show wpList _ _ _ _ _ _
          go_wp2
          refine NoPanic.normal ?_
          go_wp2
          go_ret
          exact ⟨rfl, hBr.trans (hB307.mono hBr.size)⟩
end Go.Proofs.YtdhnaldjofpeeaaDoor
