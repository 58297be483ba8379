/- The law ClassesParts, walked. -/
import Derived.Test.YtdhnaldjofpeeaaDoorParM
import Derived.Test.YtdhnaldjofpeeaaDoorAppB
namespace Go.Proofs.YtdhnaldjofpeeaaDoor
open Go.RowKit Sets Cls
theorem has_is (S c : Nat) (b : Bool) (w : World) (h : c < 256) (hb : S.testBit c = b) :
    Calls Tryd.prog 19 #[.agg #[.int .u64 (wd S 0), .int .u64 (wd S 1), .int .u64 (wd S 2), .int .u64 (wd S 3)], .int .u8 c] w fun e w' =>
      e = .returned (.bool b) ∧ Below w.heap.size w w' := by
  rw [← hb]; exact has_nat S c w h
/-- What the round knows: the set s in block B, the bytes D collected in v. -/
structure St (w4 : World) (B S : Nat) (v : Value) (D : List Nat) (w' : World) : Prop where
  c0 : w'.cell? ⟨B, 0, none⟩ = some (.int .u64 (wd S 0))
  c1 : w'.cell? ⟨B, 1, none⟩ = some (.int .u64 (wd S 1))
  c2 : w'.cell? ⟨B, 2, none⟩ = some (.int .u64 (wd S 2))
  c3 : w'.cell? ⟨B, 3, none⟩ = some (.int .u64 (wd S 3))
  own : w'.ownsRow w4.heap.size 5 1 v D.length (u8s D)
  bl : Below w4.heap.size w4 w'
  lt : B < w4.heap.size
theorem St.kept {w4 w5 w' : World} {B S : Nat} {v : Value} {D : List Nat} (h : St w4 B S v D w5) (hb : Below w5.heap.size w5 w') : St w4 B S v D w' :=
  have hl : B < w5.heap.size := Nat.lt_of_lt_of_le h.lt h.bl.size
  ⟨(hb.cell hl).trans h.c0, (hb.cell hl).trans h.c1, (hb.cell hl).trans h.c2, (hb.cell hl).trans h.c3, owns_below h.own hb, h.bl.trans (hb.mono h.bl.size), h.lt⟩
theorem St.app {w4 w5 w' : World} {B S : Nat} {v v' : Value} {D D' : List Nat} (h : St w4 B S v D w5) (ho : w'.ownsRow w4.heap.size 5 1 v' D'.length (u8s D')) (hb : Below w4.heap.size w5 w') : St w4 B S v' D' w' :=
  ⟨(hb.cell h.lt).trans h.c0, (hb.cell h.lt).trans h.c1, (hb.cell h.lt).trans h.c2, (hb.cell h.lt).trans h.c3, ho, h.bl.trans hb, h.lt⟩
theorem has_st {w4 w5 : World} {B S c : Nat} {v : Value} {D : List Nat} {b : Bool} (hc : c < 256) (hb : S.testBit c = b) (K : St w4 B S v D w5) :
    Calls Tryd.prog 19 #[.agg #[.int .u64 (wd S 0), .int .u64 (wd S 1), .int .u64 (wd S 2), .int .u64 (wd S 3)], .int .u8 c] w5 fun e w' => e = .returned (.bool b) ∧ St w4 B S v D w' :=
  (has_is S c b w5 hc hb).mono fun _ _ h => ⟨h.1, K.kept h.2⟩
set_option maxHeartbeats 6400000 in
set_option maxRecDepth 100000 in
theorem parts_any (v : Value) (L : List Nat) (S : Nat) (kk : Int) (w : World) (hv : SetsIn w v L) (hT : Tab w) (hg : 0 < w.heap.size) :
    Calls Tryd.prog 5 #[v, .agg #[.int .u64 (wd S 0), .int .u64 (wd S 1), .int .u64 (wd S 2), .int .u64 (wd S 3)], .int .i64 kk] w fun e w' => e = .returned (.bool true) ∧ Below w.heap.size w w' := by
  obtain ⟨a, cap, rfl⟩ : ∃ a cap, v = .slice a L.length cap := by obtain ⟨-, a, cap, h, -⟩ := hv; exact ⟨a, cap, h⟩
  have hLm := hv.1
  unfold maxLen at hLm
  have hB0 : Below w.heap.size w (w.alloc (.cells #[.int .u64 (wd S 0), .int .u64 (wd S 1), .int .u64 (wd S 2), .int .u64 (wd S 3)] 31)) := (Below.refl _ _).alloc (Nat.le_refl _) _
  have hs0 : ∀ q, q < 4 → (w.alloc (.cells #[.int .u64 (wd S 0), .int .u64 (wd S 1), .int .u64 (wd S 2), .int .u64 (wd S 3)] 31)).cell? ⟨w.heap.size, q, none⟩ = some (.int .u64 (wd S q)) := by
    intro q hq
    have : q = 0 ∨ q = 1 ∨ q = 2 ∨ q = 3 := by omega
    rcases this with rfl | rfl | rfl | rfl <;> simp
  by_cases h40 : 40 < L.length
  · have HT := Lib.hid (hT.below hB0 hg)
    go_enter Tryd.func5, Tryd.ntmps5
    go_wp2_with (go_at_call 17; refine (awake_any _ HT.out (by simp)).mono ?_; rintro e w' ⟨rfl, hb⟩)
    go_ret
    exact ⟨rfl, hB0.trans (hb.mono hB0.size)⟩
  · have hz := zeroP
    have HS0 := Lib.hid hs0
    clear hs0
    go_enter Tryd.func5, Tryd.ntmps5
    go_wp2_with fail
    refine (Refine_any _ L _ (hv.kept hB0) (by omega)).mono ?_
    rintro e w1 ⟨rfl, hb1⟩
    have hE := same_eqv L
    have hP1 : PartAt (w1.alloc (.cells (partC (fun _ => 0) 0) 24)) w1.heap.size (fun _ => 0) 0 := PartAt.new w1 _ _
    have hP2 := PartAt.new w1 (cls (same L)) (nh (same L) 256 : Nat)
    have hb2 : Below (w.heap.size + 1) (w.alloc (.cells #[.int .u64 (wd S 0), .int .u64 (wd S 1), .int .u64 (wd S 2), .int .u64 (wd S 3)] 31)) (w1.alloc (.cells (partC (cls (same L)) (nh (same L) 256 : Nat)) 24)) := (hb1.mono (by simp)).alloc (by have := hb1.size; simp at this; omega) _
    have hsr := World.setRow_alloc_new w1 (partC (fun _ => 0) 0) (partC (cls (same L)) (nh (same L) 256 : Nat)) 24
    have hl2 := hP2.lt
    have hl1 : w.heap.size < w1.heap.size := by have := hb1.size; simp at this; omega
    generalize w1.alloc (.cells (partC (cls (same L)) (nh (same L) 256 : Nat)) 24) = w2 at *
    have hs2 : ∀ q, q < 4 → w2.cell? ⟨w.heap.size, q, none⟩ = some (.int .u64 (wd S q)) := fun q hq => (hb2.cell (p := ⟨w.heap.size, q, none⟩) (by simp)).trans (HS0.out q hq)
    have hB2 : Below w.heap.size w w2 := hB0.trans (hb2.mono (by omega))
    have HS2 := Lib.hid hs2
    clear hs2 hb1 hb2 HS0
    go_wp2_with (first
      | (refine wpList_store_row rfl 24 (.tmp 7) (.tmp 21) rfl w1.heap.size (partC (cls (same L)) (nh (same L) 256 : Nat)) rfl rfl 24 (partC (fun _ => 0) 0) hP1 (sizeP _ _) (by rw [partC_size, partC_size]) (partC_one _ _) ?_; rw [hsr])
      | (refine wpList_load_row rfl 24 (.tmp 7) rfl w1.heap.size rfl 24 (partC (cls (same L)) (nh (same L) 256 : Nat)) (0, 0) _ hP2 Tryd.underlying24 rfl (sizeP _ _) ?_))
    refine (sets_any (cls (same L)) (nh (same L) 256) w2 (nh_le256 L) (fun c hc => cls_in L c hc) (right_same L)).mono ?_
    rintro e w3 ⟨g, rfl, hgq, hrowS, hb3⟩
    have hP3 := hP2.kept hb3 hl2
    have hs3 : ∀ q, q < 4 → w3.cell? ⟨w.heap.size, q, none⟩ = some (.int .u64 (wd S q)) := fun q hq => (hb3.cell (p := ⟨w.heap.size, q, none⟩) (by simp; omega)).trans (HS2.out q hq)
    have HS3 := Lib.hid hs3
    have hB3 := hB2.trans (hb3.mono hB2.size)
    have hl3 := hP3.lt
    have hgl3 := hrowS.lt
    clear hs3 HS2 hb3 hP1 hP2 hsr hz
    go_wp2_with (refine wpList_load_row rfl 24 (.tmp 7) rfl w1.heap.size rfl 24 (partC (cls (same L)) (nh (same L) 256 : Nat)) (0, 0) _ hP3 Tryd.underlying24 rfl (sizeP _ _) ?_)
    refine (least_any (cls (same L)) (nh (same L) 256) kk w3 (nh_le256 L) (fun c hc => cls_in L c hc) (right_same L) (hT.below hB3 hg) (Nat.lt_of_lt_of_le hg hB3.size)).mono ?_
    rintro e w4 ⟨q, rfl, hqq, hrowB, hb4⟩
    have hP4 := hP3.kept hb4 hl3
    have hrS4 := hrowS.kept hb4 hgl3
    have hs4 : ∀ q, q < 4 → w4.cell? ⟨w.heap.size, q, none⟩ = some (.int .u64 (wd S q)) := fun q hq => (hb4.cell (p := ⟨w.heap.size, q, none⟩) (by simp; omega)).trans (HS3.out q hq)
    have HS4 := Lib.hid hs4
    have hB4 := hB3.trans (hb4.mono hB3.size)
    have hl4 := hP4.lt
    have cN := hP4.cellN
    clear hs4 HS3 hb4 hP3 hrowS hB3
    have hnl := nh_le256 L
    have hof : ∀ c, c < 256 → cls (same L) c < nh (same L) 256 := fun c hc => cls_in L c hc
    have Hof := Lib.hid hof
    have hrow' := Lib.hid hrowB
    have HR := Lib.hid (right_same L)
    have HT4 := Lib.hid (hT.below hB4 hg)
    clear hof hrowB hv hE hT
    generalize nh (same L) 256 = n at *
    generalize cls (same L) = of at *
    have hrowB := hrow'.out
    obtain ⟨P0, hP0⟩ : ∃ P0, P0 = w1.heap.size := ⟨_, rfl⟩
    rw [← hP0] at hP4 cN hl4 ⊢
    clear hP0 hrow'
    go_wp2
    go_loopw [10, 11] (fun x j wr => ∃ i : Nat, j = .int .i64 i ∧ i ≤ n ∧ x = .bool ((List.range i).any (splitB of S)) ∧ Below w4.heap.size w4 wr) (fun _ j _ => (n - intOf j).toNat)
    case atStart => exact ⟨0, rfl, by omega, rfl, Below.refl _ _⟩
    case round =>
      obtain ⟨i, rfl, hi, rfl, hb⟩ := hrel
      have cN1 := (hb.cell (p := ⟨P0, 256, none⟩) hl4).trans cN
      by_cases hlt : i < n
      · have hdi : decide ((i : Int) < (n : Int)) = true := decide_eq_true (by omega)
        go_wp2
        obtain ⟨wo, rfl⟩ : ∃ wo : World, wo = wr := ⟨_, rfl⟩
        go_loopw [12, 13, 14, 15] (fun v x y j wr => ∃ c : Nat, j = .int .i64 c ∧ c ≤ 256 ∧ x = .bool (inB of S i c) ∧ y = .bool (outB of S i c) ∧ wr.ownsRow w4.heap.size 5 1 v (lowN of i kk c).length (u8s (lowN of i kk c)) ∧ Below w4.heap.size w4 wr) (fun _ _ _ j _ => (256 - intOf j).toNat)
        case atStart => exact ⟨0, rfl, by omega, rfl, rfl, by simpa [lowN, u8s] using World.ownsRow_nil wo w4.heap.size 5 1, hb⟩
        case round =>
          obtain ⟨c, rfl, hc, rfl, rfl, hown, hb⟩ := hrel
          by_cases hcl : c < 256
          · have hdc : decide ((c : Int) < 256) = true := decide_eq_true (by omega)
            have pc := (hb.cell (p := ⟨P0, c, none⟩) hl4).trans (hP4.cell c hcl)
            have hrS := hrS4.kept hb (by have := hrS4.lt; omega)
            have hgl := hrS.lt
            have hll := clsSets_length of n 256
            have hc0 := hrS.cell i 0 (by omega) (by omega)
            have hc1 := hrS.cell i 1 (by omega) (by omega)
            have hc2 := hrS.cell i 2 (by omega) (by omega)
            have hc3 := hrS.cell i 3 (by omega) (by omega)
            rw [clsSets_get of n 256 _ hlt] at hc0 hc1 hc2 hc3
            rw [Nat.add_zero] at hc0
            have hlw := lowN_le of i kk c
            have hP0w : P0 < wr.heap.size := Nat.lt_of_lt_of_le hl4 hb.size
            have ho256 := Hof.out c hcl
            clear hll
            by_cases hoi : of c = i
            · have hq1 : (((of c : Nat) : Int) == (i : Int)) = true := beq_iff_eq.2 (by omega)
              have hq2 : (((of c : Nat) : Int) != (i : Int)) = false := by rw [hoi]; simp
              have hbit : (clsSet of 256 i).testBit c = true := by rw [clsSet_bit]; simp [hcl, hoi]
              have HOI := Lib.hid hoi
              have HBT := Lib.hid hbit
              clear hoi hbit
              have HLN := Lib.hid (show (∀ hk : ((lowN of i kk c).length : Int) < kk, lowN of i kk (c + 1) = lowN of i kk c ++ [c]) ∧ (∀ hk : ¬ ((lowN of i kk c).length : Int) < kk, lowN of i kk (c + 1) = lowN of i kk c) from ⟨fun hk => lowN_more of i kk c HOI.out hk, fun hk => lowN_full of i kk c hk⟩)
              have HIN := Lib.hid (inB_succ of S i c)
              have HOUT := Lib.hid (outB_succ of S i c)
              obtain ⟨ra, rc, rfl, hrc⟩ := owns_slice hown
              have Hown := Lib.hid hown
              have hs4 := HS4.out
              have hw4 : w.heap.size < w4.heap.size := World.block_lt_of_cell? _ _ (hs4 0 (by omega))
              have s0 := (hb.cell (p := ⟨w.heap.size, 0, none⟩) (by simp; omega)).trans (hs4 0 (by omega))
              have s1 := (hb.cell (p := ⟨w.heap.size, 1, none⟩) (by simp; omega)).trans (hs4 1 (by omega))
              have s2 := (hb.cell (p := ⟨w.heap.size, 2, none⟩) (by simp; omega)).trans (hs4 2 (by omega))
              have s3 := (hb.cell (p := ⟨w.heap.size, 3, none⟩) (by simp; omega)).trans (hs4 3 (by omega))
              have hsl : w.heap.size < wr.heap.size := by omega
              clear hown hs4
              go_wp2
              refine region_mix [(false, 0), (false, 1), (false, 2), (false, 3), (false, 4), (false, 5), (false, 6), (false, 7), (false, 8), (false, 9), (false, 10), (false, 11), (false, 12), (true, 13)] (fun w' => Below wr.heap.size wr w') (by kernel_rfl) (by kernel_rfl) ((Below.refl _ _).drew) ?_
              simp only [planOps, List.map_cons, List.map_nil, List.getD_cons_zero, List.getD_cons_succ, List.length_cons, List.length_nil, List.drop_succ_cons, List.drop_zero]
              refine mix_seg (seg := [_, _, _, _, _, _, _, _, _, _, _, _, _]) rfl ((Below.refl _ _).drew) ?_
              intro ι hι F hF
              have f0 := fun n => ((hF n).cell (p := ⟨g, i * 4, none⟩) hgl).trans hc0
              have f1 := fun n => ((hF n).cell (p := ⟨g, i * 4 + 1, none⟩) hgl).trans hc1
              have f2 := fun n => ((hF n).cell (p := ⟨g, i * 4 + 2, none⟩) hgl).trans hc2
              have f3 := fun n => ((hF n).cell (p := ⟨g, i * 4 + 3, none⟩) hgl).trans hc3
              have f4 := fun n => ((hF n).cell (p := ⟨P0, c, none⟩) hP0w).trans pc
              repeat (go_big_quiet_step (fail))
              refine wpQuiet_nil ?_
              clear f0 f1 f2 f3 f4 hF hι F
              refine mix_eff (fun K hK => ?_)
              go_wp2_with (go_at_call 19; refine (has_is _ c true _ hcl HBT.out).mono ?_; rintro e w5 ⟨rfl, hb5⟩)
              have hB5 : Below wr.heap.size wr w5 := (Below.refl _ _).drew.trans (hb5.mono (by simp))
              refine mix_on hK hB5 ?_
              clear hK K hb5
              show wpList _ _ _ _ _ _
              go_wp2
              refine NoPanic.normal ?_
              have pc5 := (hB5.cell (p := ⟨P0, c, none⟩) hP0w).trans pc
              have K : St w4 w.heap.size S (.slice ra (lowN of i kk c).length rc) (lowN of i kk c) w5 := St.kept (w5 := wr) ⟨s0, s1, s2, s3, Hown.out, hb, hw4⟩ hB5
              have t0 := K.c0
              have t1 := K.c1
              have t2 := K.c2
              have t3 := K.c3
              have hb5 := K.bl
              clear pc hc0 hc1 hc2 hc3 s0 s1 s2 s3 Hown hrS
              have hw5 := hb5.size
              have hc140 : (lowN of i kk c).length + 1 ≤ 140737488355328 := by omega
              by_cases hk : ((lowN of i kk c).length : Int) < kk
              · have HLK := Lib.hid (HLN.out.1 hk)
                cases hin : inB of S i c <;> cases hout : outB of S i c
                all_goals
                  rw [hin] at HIN
                  rw [hout] at HOUT
                  clear hin hout HLN
                  cases hbS : S.testBit c
                all_goals
                  rw [hbS] at HIN HOUT
                  have HBS := Lib.hid hbS
                  clear hbS
                all_goals
                  go_wp2_with (first
                    | (at_builtin; refine wpList_append_u8 rfl _ _ rfl w4.heap.size (.slice ra (lowN of i kk c).length rc) (lowN of i kk c) c rfl K.own rfl hc140 hw5 ?_; intro v' w6 hown6 hb6; replace K := K.app hown6 hb6; clear hown6 hb6; have z0 := K.c0; have z1 := K.c1; have z2 := K.c2; have z3 := K.c3)
                    | (go_at_call 19; refine (has_st hcl HBS.out K).mono ?_; clear K; rintro e w7 ⟨rfl, K⟩; have z0 := K.c0; have z1 := K.c1; have z2 := K.c2; have z3 := K.c3))
                  exact ⟨⟨c + 1, by go_num, by omega, by rw [HIN.out]; simp [HOI.out], by rw [HOUT.out]; simp [HOI.out], by rw [HLK.out]; exact K.own, K.bl⟩, by simp [intOf]; omega⟩
              · have HLK := Lib.hid (HLN.out.2 (by omega))
                cases hin : inB of S i c <;> cases hout : outB of S i c
                all_goals
                  rw [hin] at HIN
                  rw [hout] at HOUT
                  clear hin hout HLN
                  cases hbS : S.testBit c
                all_goals
                  rw [hbS] at HIN HOUT
                  have HBS := Lib.hid hbS
                  clear hbS
                all_goals
                  go_wp2_with (go_at_call 19; refine (has_st hcl HBS.out K).mono ?_; clear K; rintro e w7 ⟨rfl, K⟩; have z0 := K.c0; have z1 := K.c1; have z2 := K.c2; have z3 := K.c3)
                  exact ⟨⟨c + 1, by go_num, by omega, by rw [HIN.out]; simp [HOI.out], by rw [HOUT.out]; simp [HOI.out], by rw [HLK.out]; exact K.own, K.bl⟩, by simp [intOf]; omega⟩
            · have hq1 : (((of c : Nat) : Int) == (i : Int)) = false := beq_eq_false_iff_ne.2 (by omega)
              have hq2 : (((of c : Nat) : Int) != (i : Int)) = true := by rw [bne_iff_ne]; omega
              have hbit : (clsSet of 256 i).testBit c = false := by rw [clsSet_bit]; simp [hoi]
              have HOI := Lib.hid hoi
              have HBT := Lib.hid hbit
              clear hoi hbit
              go_wp2
              refine region_mix [(false, 0), (false, 1), (false, 2), (false, 3), (false, 4), (false, 5), (false, 6), (false, 7), (false, 8), (false, 9), (false, 10), (false, 11), (false, 12), (true, 13)] (fun w' => Below wr.heap.size wr w') (by kernel_rfl) (by kernel_rfl) ((Below.refl _ _).drew) ?_
              simp only [planOps, List.map_cons, List.map_nil, List.getD_cons_zero, List.getD_cons_succ, List.length_cons, List.length_nil, List.drop_succ_cons, List.drop_zero]
              refine mix_seg (seg := [_, _, _, _, _, _, _, _, _, _, _, _, _]) rfl ((Below.refl _ _).drew) ?_
              intro ι hι F hF
              have f0 := fun n => ((hF n).cell (p := ⟨g, i * 4, none⟩) hgl).trans hc0
              have f1 := fun n => ((hF n).cell (p := ⟨g, i * 4 + 1, none⟩) hgl).trans hc1
              have f2 := fun n => ((hF n).cell (p := ⟨g, i * 4 + 2, none⟩) hgl).trans hc2
              have f3 := fun n => ((hF n).cell (p := ⟨g, i * 4 + 3, none⟩) hgl).trans hc3
              have f4 := fun n => ((hF n).cell (p := ⟨P0, c, none⟩) hP0w).trans pc
              repeat (go_big_quiet_step (fail))
              refine wpQuiet_nil ?_
              clear f0 f1 f2 f3 f4 hF hι F
              refine mix_eff (fun K hK => ?_)
              go_wp2_with (go_at_call 19; refine (has_is _ c false _ hcl HBT.out).mono ?_; rintro e w5 ⟨rfl, hb5⟩)
              have hB5 : Below wr.heap.size wr w5 := (Below.refl _ _).drew.trans (hb5.mono (by simp))
              refine mix_on hK hB5 ?_
              clear hK K hb5
              show wpList _ _ _ _ _ _
              go_wp2
              refine NoPanic.normal ?_
              have pc5 := (hB5.cell (p := ⟨P0, c, none⟩) hP0w).trans pc
              go_wp2
              refine ⟨⟨c + 1, by go_num, by omega, ?_, ?_, ?_, hb.trans (hB5.mono hb.size)⟩, by simp [intOf]; omega⟩
              · rw [inB_succ]; simp [HOI.out]
              · rw [outB_succ]; simp [HOI.out]
              · rw [lowN_not of i kk c HOI.out]; exact owns_below hown hB5
          · have hc256 : c = 256 := by omega
            subst hc256
            have hby := owns_bytes hown (lowN_lt of i kk 256 (Nat.le_refl _)) (by have := lowN_le of i kk 256; unfold maxLen; omega)
            have hrw := hrowB.kept hb
            have hqw := hrw.lt
            obtain ⟨vr, hvr, hyr⟩ := hrw.at i (by simpa using hlt)
            have er : ((List.range n).map fun j => (listN (clsSet of 256 j)).take kk.toNat).getD i [] = lowN of i kk 256 := by rw [lowN_all]; simp [hlt]
            rw [er] at hyr
            have HBY := Lib.hid hby
            have HYR := Lib.hid hyr
            have HSP : Hid ((List.range (i + 1)).any (splitB of S) = ((List.range i).any (splitB of S) || (inB of S i 256 && outB of S i 256))) := Lib.hid (by rw [List.range_succ, List.any_append, ← split_io]; simp)
            clear hby hyr er hown hrw
            generalize lowN of i kk 256 = D at *
            generalize inB of S i 256 = bi at *
            generalize outB of S i 256 = bo at *
            generalize hA : (List.range i).any (splitB of S) = bA at *
            clear hA
            cases bA <;> cases bi <;> cases bo
            all_goals
              go_wp2
              refine region_mix [(false, 0), (false, 1), (false, 2), (false, 3), (false, 4), (false, 5), (false, 6)] (fun w' => Below wr.heap.size wr w') (by kernel_rfl) (by kernel_rfl) ((Below.refl _ _).drew) ?_
              simp only [planOps, List.map_cons, List.map_nil, List.getD_cons_zero, List.getD_cons_succ, List.length_cons, List.length_nil, List.drop_succ_cons, List.drop_zero]
              refine mix_seg (seg := [_, _, _, _, _, _, _]) (rest := []) rfl ((Below.refl _ _).drew) ?_
              intro ι hι F hF
              have f0 := fun n => ((hF n).cell (p := ⟨q, i, none⟩) hqw).trans hvr
              have f1 := fun n => bytes_string (HBY.out.kept (hF n))
              have f2 := fun n => bytes_string (HYR.out.kept (hF n))
              repeat (go_big_quiet_step (fail))
              refine wpQuiet_nil ?_
              clear f0 f1 f2 hF hι F
              show wpList _ _ _ _ _ _
              go_wp2
              refine NoPanic.normal ?_
              go_wp2
              exact ⟨⟨i + 1, by go_num, by omega, by rw [HSP.out]; rfl, hb.drew⟩, by simp [intOf]; omega⟩
      · have hin : i = n := by omega
        subst hin
        have hPw := hP4.kept hb hl4
        have hw4 : w.heap.size < w4.heap.size := World.block_lt_of_cell? _ _ (HS4.out 0 (by omega))
        have s0 := (hb.cell (p := ⟨w.heap.size, 0, none⟩) hw4).trans (HS4.out 0 (by omega))
        have s1 := (hb.cell (p := ⟨w.heap.size, 1, none⟩) hw4).trans (HS4.out 1 (by omega))
        have s2 := (hb.cell (p := ⟨w.heap.size, 2, none⟩) hw4).trans (HS4.out 2 (by omega))
        have s3 := (hb.cell (p := ⟨w.heap.size, 3, none⟩) hw4).trans (HS4.out 3 (by omega))
        have hsp := splits_any of i S wr hnl Hof.out HR.out
        have HT5 := Lib.hid (HT4.out.below hb (Nat.lt_of_lt_of_le hg hB4.size))
        have hBw := hB4.trans (hb.mono hB4.size)
        rw [show (List.range i).any (splitB of S) = splitsB of i S from rfl]
        generalize splitsB of i S = bS at *
        have HSP := Lib.hid hsp
        clear hsp hrowB hrS4
        go_wp2_with (first
          | (refine wpList_load_row rfl 24 (.tmp 7) rfl P0 rfl 24 (partC of i) (0, 0) _ hPw Tryd.underlying24 rfl (sizeP _ _) ?_)
          | (go_at_call 14; refine HSP.out.mono ?_; rintro e w6 ⟨rfl, hb6⟩; have hT6 := Lib.hid (HT5.out.below hb6 (Nat.lt_of_lt_of_le hg hBw.size)); have hB6 := hBw.trans (hb6.mono hBw.size); clear hb6)
          | (go_at_call 17; refine (awake_any _ hT6.out (Nat.lt_of_lt_of_le hg hB6.size)).mono ?_; rintro e w' ⟨rfl, hb9⟩))
        go_ret
        exact ⟨rfl, hB6.trans (hb9.mono hB6.size)⟩
end Go.Proofs.YtdhnaldjofpeeaaDoor
