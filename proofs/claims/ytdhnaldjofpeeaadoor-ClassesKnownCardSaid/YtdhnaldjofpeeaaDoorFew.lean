/- The law ClassesFew, walked. -/
import Derived.Test.YtdhnaldjofpeeaaDoorHds
namespace Go.Proofs.YtdhnaldjofpeeaaDoor
open Go.RowKit Sets Cls
theorem SetsIn.at {w : World} {a : Option Addr} {cap : Nat} {L : List Nat} (h : SetsIn w (.slice a L.length cap) L) (i : Nat) (hi : i < L.length) :
    ∃ b o, a = some ⟨b, o, none⟩ ∧ b < w.heap.size ∧ w.cell? ⟨b, o + i * 4, none⟩ = some (.int .u64 (wd (L.getD i 0) 0)) ∧ w.cell? ⟨b, o + i * 4 + 1, none⟩ = some (.int .u64 (wd (L.getD i 0) 1)) ∧ w.cell? ⟨b, o + i * 4 + 2, none⟩ = some (.int .u64 (wd (L.getD i 0) 2)) ∧ w.cell? ⟨b, o + i * 4 + 3, none⟩ = some (.int .u64 (wd (L.getD i 0) 3)) := by
  obtain ⟨-, a', cap', he, -, hc⟩ := h
  injection he with h1 h2 h3
  subst h1
  obtain ⟨b, o, rfl, hq⟩ := hc i hi
  exact ⟨b, o, rfl, World.block_lt_of_cell? _ _ (hq 0 (by omega)), hq 0 (by omega), hq 1 (by omega), hq 2 (by omega), hq 3 (by omega)⟩
/-- Row i of single bytes. -/
theorem BytesRow.one {w : World} {g n : Nat} {f : Nat → Nat} (h : BytesRow w g ((List.range n).map fun j => [f j])) (i : Nat) (hi : i < n) :
    ∃ b o c, w.cell? ⟨g, i, none⟩ = some (.slice (some ⟨b, o, none⟩) 1 c) ∧ w.cell? ⟨b, o, none⟩ = some (.int .u8 (f i)) ∧ b < w.heap.size := by
  obtain ⟨v, hv, hb⟩ := h.at i (by simpa using hi)
  have e : ((List.range n).map fun j => [f j]).getD i [] = [f i] := by simp [hi]
  rw [e] at hb
  obtain ⟨-, -, a, c, rfl, hc⟩ := hb
  obtain ⟨b, o, rfl, hq⟩ := hc 0 (by simp)
  exact ⟨b, o, c, hv, by simpa using hq, World.block_lt_of_cell? _ _ hq⟩
set_option maxHeartbeats 6400000 in
set_option maxRecDepth 100000 in
theorem few_any (v : Value) (L : List Nat) (w : World) (hv : SetsIn w v L) (hT : Tab w) (hg : 0 < w.heap.size) :
    Calls Tryd.prog 7 #[v] w fun e w' => e = .returned (.bool true) ∧ Below w.heap.size w w' := by
  obtain ⟨a, cap, rfl⟩ : ∃ a cap, v = .slice a L.length cap := by obtain ⟨-, a, cap, h, -⟩ := hv; exact ⟨a, cap, h⟩
  have hLm := hv.1
  unfold maxLen at hLm
  by_cases h40 : 40 < L.length
  · go_enter Tryd.func7, Tryd.ntmps7
    go_wp2_with (go_at_call 17; refine (awake_any _ hT hg).mono ?_; rintro e w' ⟨rfl, hb⟩)
    go_ret
    exact ⟨rfl, hb⟩
  · have hz := zeroP
    go_enter Tryd.func7, Tryd.ntmps7
    go_wp2_with fail
    refine (Refine_any _ L _ hv (by omega)).mono ?_
    rintro e w1 ⟨rfl, hb1⟩
    have hE := same_eqv L
    have hP1 : PartAt (w1.alloc (.cells (partC (fun _ => 0) 0) 24)) w1.heap.size (fun _ => 0) 0 := PartAt.new w1 _ _
    have hP2 := PartAt.new w1 (cls (same L)) (nh (same L) 256 : Nat)
    have hB2 : Below w.heap.size w (w1.alloc (.cells (partC (cls (same L)) (nh (same L) 256 : Nat)) 24)) := hb1.alloc hb1.size _
    have hsr := World.setRow_alloc_new w1 (partC (fun _ => 0) 0) (partC (cls (same L)) (nh (same L) 256 : Nat)) 24
    have hl2 := hP2.lt
    generalize w1.alloc (.cells (partC (cls (same L)) (nh (same L) 256 : Nat)) 24) = w2 at *
    go_wp2_with (first
      | (refine wpList_store_row rfl 24 (.tmp 3) (.tmp 14) rfl w1.heap.size (partC (cls (same L)) (nh (same L) 256 : Nat)) rfl rfl 24 (partC (fun _ => 0) 0) hP1 (sizeP _ _) (by rw [partC_size, partC_size]) (partC_one _ _) ?_; rw [hsr])
      | (refine wpList_load_row rfl 24 (.tmp 3) rfl w1.heap.size rfl 24 (partC (cls (same L)) (nh (same L) 256 : Nat)) (0, 0) _ hP2 Tryd.underlying24 rfl (sizeP _ _) ?_))
    have hle := least_any (cls (same L)) (nh (same L) 256) 1 w2 (nh_le256 L) (fun c hc => cls_in L c hc) (right_same L) (hT.below hB2 hg) (Nat.lt_of_lt_of_le hg hB2.size)
    rw [hd_rows _ hE] at hle
    refine hle.mono ?_
    rintro e w3 ⟨q, rfl, hqq, hrow, hb3⟩
    have hB3 := hB2.trans (hb3.mono hB2.size)
    have hI3 := hv.kept hB3
    have hql := hrow.lt
    have hnl := nh_le256 L
    have Hlt := Lib.hid (fun i k => hd_lt (same L) i k)
    have Hap := Lib.hid (fun i k => hd_apart (same L) hE i k)
    have Hmem := Lib.hid (fun i h => (hd_mem (same L) i h).1)
    generalize nh (same L) 256 = n at *
    clear hle hP1 hP2 hsr hz hb1 hb3 hl2 hqq hB2 hv
    go_wp2
    go_loopw [5] (fun i wr => ∃ j : Nat, i = .int .i64 j ∧ j ≤ n ∧ Below w3.heap.size w3 wr) (fun i _ => (n - intOf i).toNat)
    case atStart => exact ⟨0, rfl, by omega, Below.refl _ _⟩
    case round =>
      obtain ⟨i, rfl, hi, hb⟩ := hrel
      by_cases hlt : i < n
      · have hdi : decide ((i : Int) < (n : Int)) = true := decide_eq_true (by omega)
        go_wp2
        obtain ⟨wo, rfl⟩ : ∃ wo : World, wo = wr := ⟨_, rfl⟩
        go_loopw [6] (fun k wr => ∃ j : Nat, k = .int .i64 j ∧ j ≤ i ∧ Below w3.heap.size w3 wr) (fun k _ => (i - intOf k).toNat)
        case atStart => exact ⟨0, rfl, by omega, hb⟩
        case round =>
          obtain ⟨k, rfl, hk, hb⟩ := hrel
          by_cases hkl : k < i
          · have hdk : decide ((k : Int) < (i : Int)) = true := decide_eq_true (by omega)
            go_wp2
            obtain ⟨wk, rfl⟩ : ∃ wk : World, wk = wr := ⟨_, rfl⟩
            go_loopw [7, 8] (fun x m wr => ∃ j : Nat, m = .int .i64 j ∧ j ≤ L.length ∧ x = .bool (apt L (hd (same L) i) (hd (same L) k) j) ∧ Below w3.heap.size w3 wr) (fun _ m _ => (L.length - intOf m).toNat)
            case atStart => exact ⟨0, rfl, by omega, by rw [apt_zero], hb⟩
            case round =>
              obtain ⟨m, rfl, hm, rfl, hb⟩ := hrel
              by_cases hml : m < L.length
              · have hIw := hI3.kept hb
                obtain ⟨b, o, rfl, hbl, s0, s1, s2, s3⟩ := hIw.at m hml
                have hrw := hrow.kept hb
                obtain ⟨bi, oi, ci, ri, xi, hbi⟩ := hrw.one i hlt
                obtain ⟨bk, ok, ck, rk, xk, hbk⟩ := hrw.one k (by omega)
                have hqw := hrw.lt
                have hi256 := Hmem.out i hlt
                have hk256 := Hmem.out k (by omega)
                have hst := apt_succ L (hd (same L) i) (hd (same L) k) m hml
                have HST := Lib.hid hst
                clear hst
                generalize L.getD m 0 = S at *
                generalize hHi : hd (same L) i = hi0 at *
                generalize hHk : hd (same L) k = hk0 at *
                have hdm : decide ((m : Int) < (L.length : Int)) = true := decide_eq_true (by omega)
                cases hA : apt L hi0 hk0 m
                · rw [hA] at HST
                  have HA := Lib.hid hA
                  have HHi := Lib.hid hHi
                  have HHk := Lib.hid hHk
                  clear hA hHi hHk hrow hI3 hIw hrw
                  go_wp2
                  refine region_mix [(false, 0), (false, 1), (false, 2), (false, 3), (false, 4), (false, 5), (false, 6), (false, 7), (false, 8), (false, 9), (false, 10), (false, 11), (false, 13), (false, 14), (false, 15), (false, 16), (false, 17), (false, 18), (false, 19), (false, 20), (false, 21), (false, 22), (true, 12), (true, 23), (false, 24), (false, 25)] (fun w' => Below wr.heap.size wr w') (by kernel_rfl) (by kernel_rfl) ((Below.refl _ _).drew) ?_
                  simp only [planOps, List.map_cons, List.map_nil, List.getD_cons_zero, List.getD_cons_succ, List.length_cons, List.length_nil, List.drop_succ_cons, List.drop_zero]
                  refine mix_seg (seg := [_, _, _, _, _, _, _, _, _, _, _, _, _, _, _, _, _, _, _, _, _, _]) rfl ((Below.refl _ _).drew) ?_
                  intro ι hι F hF
                  have f0 := fun n => ((hF n).cell (p := ⟨b, o + m * 4, none⟩) hbl).trans s0
                  have f1 := fun n => ((hF n).cell (p := ⟨b, o + m * 4 + 1, none⟩) hbl).trans s1
                  have f2 := fun n => ((hF n).cell (p := ⟨b, o + m * 4 + 2, none⟩) hbl).trans s2
                  have f3 := fun n => ((hF n).cell (p := ⟨b, o + m * 4 + 3, none⟩) hbl).trans s3
                  have f4 := fun n => ((hF n).cell (p := ⟨q, i, none⟩) hqw).trans ri
                  have f5 := fun n => ((hF n).cell (p := ⟨q, k, none⟩) hqw).trans rk
                  have f6 := fun n => ((hF n).cell (p := ⟨bi, oi, none⟩) hbi).trans xi
                  have f7 := fun n => ((hF n).cell (p := ⟨bk, ok, none⟩) hbk).trans xk
                  repeat (go_big_quiet_step (fail))
                  refine wpQuiet_nil ?_
                  clear f0 f1 f2 f3 f4 f5 f6 f7 hF hι F s0 s1 s2 s3 ri rk xi xk
                  refine mix_eff (fun K hK => ?_)
                  go_wp2_with (go_at_call 19; refine (has_nat S hi0 _ hi256).mono ?_; rintro e w5 ⟨rfl, hb5⟩)
                  have hB5 : Below wr.heap.size wr w5 := (Below.refl _ _).drew.trans (hb5.mono (by simp))
                  refine mix_on hK hB5 ?_
                  clear hK K hb5
                  refine mix_eff (fun K hK => ?_)
                  go_wp2_with (go_at_call 19; refine (has_nat S hk0 _ hk256).mono ?_; rintro e w6 ⟨rfl, hb6⟩)
                  have hB6 : Below wr.heap.size wr w6 := hB5.trans (hb6.mono hB5.size)
                  refine mix_on hK hB6 ?_
                  clear hK K hb6 hB5
                  refine mix_seg (seg := [_, _]) (rest := []) rfl hB6 ?_
                  intro ι hι F hF
                  repeat (go_big_quiet_step (fail))
                  refine wpQuiet_nil ?_
                  clear hF hι F
                  show wpList _ _ _ _ _ _
                  go_wp2
                  refine NoPanic.normal ?_
                  go_wp2
                  have hst := HST.out
                  exact ⟨⟨m + 1, by go_num, by omega, by rw [hst]; cases S.testBit hi0 <;> cases S.testBit hk0 <;> rfl, hb.trans (hB6.mono hb.size)⟩, by simp [intOf]; omega⟩
                · rw [hA] at HST
                  have HA := Lib.hid hA
                  clear hA hHi hHk hrow hI3 hIw hrw
                  go_wp2
                  refine region_mix [(false, 0), (false, 1), (false, 2), (false, 3), (false, 4), (false, 5), (false, 6), (false, 7), (false, 8), (false, 9), (false, 10), (false, 11), (false, 13), (false, 14), (false, 15), (false, 16), (false, 17), (false, 18), (false, 19), (false, 20), (false, 21), (false, 22), (true, 12), (true, 23), (false, 24), (false, 25)] (fun w' => Below wr.heap.size wr w') (by kernel_rfl) (by kernel_rfl) ((Below.refl _ _).drew) ?_
                  simp only [planOps, List.map_cons, List.map_nil, List.getD_cons_zero, List.getD_cons_succ, List.length_cons, List.length_nil, List.drop_succ_cons, List.drop_zero]
                  refine mix_seg (seg := [_, _, _, _, _, _, _, _, _, _, _, _, _, _, _, _, _, _, _, _, _, _]) rfl ((Below.refl _ _).drew) ?_
                  intro ι hι F hF
                  repeat (go_big_quiet_step (fail))
                  refine wpQuiet_nil ?_
                  clear hF hι F
                  refine mix_eff (fun K hK => ?_)
                  go_wp2
                  refine mix_on hK (Below.refl _ _).drew ?_
                  clear hK K
                  refine mix_eff (fun K hK => ?_)
                  go_wp2
                  refine mix_on hK (Below.refl _ _).drew ?_
                  clear hK K
                  refine mix_seg (seg := [_, _]) (rest := []) rfl (Below.refl _ _).drew ?_
                  intro ι hι F hF
                  repeat (go_big_quiet_step (fail))
                  refine wpQuiet_nil ?_
                  clear hF hι F
                  show wpList _ _ _ _ _ _
                  go_wp2
                  refine NoPanic.normal ?_
                  go_wp2
                  have hst := HST.out
                  exact ⟨⟨m + 1, by go_num, by omega, by rw [hst]; rfl, hb.drew⟩, by simp [intOf]; omega⟩
              · have hml' : m = L.length := by omega
                subst hml'
                have hA : apt L (hd (same L) i) (hd (same L) k) L.length = true := by rw [apt_all, Hap.out i k hlt hkl]; rfl
                rw [hA]
                have hrw := hrow.kept hb
                obtain ⟨bi, oi, ci, ri, xi, hbi⟩ := hrw.one i hlt
                obtain ⟨bk, ok, ck, rk, xk, hbk⟩ := hrw.one k (by omega)
                have hqw := hrw.lt
                have hlik := Hlt.out i k hlt hkl
                have hge : decide (((hd (same L) i : Nat) : Int) ≤ ((hd (same L) k : Nat) : Int)) = false := decide_eq_false (by omega)
                have hge2 : ¬ (((hd (same L) i : Nat) : Int) ≤ ((hd (same L) k : Nat) : Int)) := by omega
                clear hA
                generalize hd (same L) i = hi0 at *
                generalize hd (same L) k = hk0 at *
                clear hrow hrw hI3
                go_wp2
                refine region_mix [(false, 0), (false, 1), (false, 2), (false, 3), (false, 4), (false, 5), (false, 6), (false, 7), (false, 8), (false, 9), (false, 10), (false, 11), (false, 12), (false, 13), (false, 14), (false, 15)] (fun w' => Below wr.heap.size wr w') (by kernel_rfl) (by kernel_rfl) ((Below.refl _ _).drew) ?_
                simp only [planOps, List.map_cons, List.map_nil, List.getD_cons_zero, List.getD_cons_succ, List.length_cons, List.length_nil, List.drop_succ_cons, List.drop_zero]
                refine mix_seg (seg := [_, _, _, _, _, _, _, _, _, _, _, _, _, _, _, _]) (rest := []) rfl ((Below.refl _ _).drew) ?_
                intro ι hι F hF
                have f4 := fun n => ((hF n).cell (p := ⟨q, i, none⟩) hqw).trans ri
                have f5 := fun n => ((hF n).cell (p := ⟨q, k, none⟩) hqw).trans rk
                have f6 := fun n => ((hF n).cell (p := ⟨bi, oi, none⟩) hbi).trans xi
                have f7 := fun n => ((hF n).cell (p := ⟨bk, ok, none⟩) hbk).trans xk
                repeat (go_big_quiet_step (fail))
                refine wpQuiet_nil ?_
                clear f4 f5 f6 f7 hF hι F
                show wpList _ _ _ _ _ _
                go_wp2
                refine NoPanic.normal ?_
                go_wp2
                exact ⟨⟨k + 1, by go_num, by omega, hb.drew⟩, by simp [intOf]; omega⟩
          · have hki : k = i := by omega
            subst hki
            go_wp2
            exact ⟨⟨k + 1, by go_num, by omega, hb⟩, by simp [intOf]; omega⟩
      · have hin : i = n := by omega
        subst hin
        have hBw := hB3.trans (hb.mono hB3.size)
        have HT := Lib.hid (hT.below hBw hg)
        go_wp2_with (go_at_call 17; refine (awake_any _ HT.out (Nat.lt_of_lt_of_le hg hBw.size)).mono ?_; rintro e w' ⟨rfl, hb9⟩)
        go_ret
        exact ⟨rfl, hBw.trans (hb9.mono hBw.size)⟩
end Go.Proofs.YtdhnaldjofpeeaaDoor
