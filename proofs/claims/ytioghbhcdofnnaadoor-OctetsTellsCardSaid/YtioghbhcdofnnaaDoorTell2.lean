import Derived.Test.YtioghbhcdofnnaaDoorTell
import Derived.Deep.WholeRow
namespace Go.Proofs.YtioghbhcdofnnaaDoor
open Go.RowKit Sets
theorem szArr (p : Nat → Bool) : (Tryd.prog.info? 35).map (·.size) = some (arr p).size := by rw [arr_size]; kernel_rfl
set_option maxHeartbeats 3200000 in
set_option maxRecDepth 100000 in
theorem tells_any (A B : Nat) (f t : Int) (w : World) (hA : A < 2 ^ 256) (hBl : B < 2 ^ 256) (hf0 : 0 ≤ f) (hf1 : f ≤ 255) (ht0 : 0 ≤ t) (ht1 : t ≤ 255) (hT : Tab w) (hg : 0 < w.heap.size) :
    Calls Tryd.prog 4 #[.agg #[.int .u64 (wd A 0), .int .u64 (wd A 1), .int .u64 (wd A 2), .int .u64 (wd A 3)], .agg #[.int .u64 (wd B 0), .int .u64 (wd B 1), .int .u64 (wd B 2), .int .u64 (wd B 3)], .int .u8 f, .int .u8 t] w fun e w' => e = .returned (.bool true) ∧ Below w.heap.size w w' := by
  have hz := zero35
  go_enter Tryd.func4, Tryd.ntmps4
  go_wp2_with fail
  refine (mem_any A _).mono ?_
  rintro e w1 ⟨rfl, hb1⟩
  have sA1 : SetAt w1 w.heap.size A := ((SetAt.new w A _).alloc _).stays hb1
  have sB1 : SetAt w1 (w.heap.size + 1) B := by have h := (SetAt.new (w.alloc (.cells #[.int .u64 (wd A 0), .int .u64 (wd A 1), .int .u64 (wd A 2), .int .u64 (wd A 3)] 24)) B 24).stays hb1; simpa using h
  have old1 : Below w.heap.size w w1 := ((((Below.refl _ _).alloc (Nat.le_refl _) _).alloc (by simp) _)).trans (hb1.mono (by simp; omega))
  have o1 : w.heap.size + 1 < w1.heap.size := by have := hb1.size; simp at this; omega
  clear hb1
  have b0 := sB1.c0; have b1 := sB1.c1; have b2 := sB1.c2; have b3 := sB1.c3
  go_wp2_with (refine wpList_store_row rfl 35 (.tmp 9) (.tmp 24) rfl w1.heap.size (arr A.testBit) rfl rfl 35 (arr fun _ => false) (heap_alloc_new w1 _) (szArr _) (by rw [arr_size, arr_size]) (arr_one _) ?_; rw [World.setRow_alloc_new])
  refine (mem_any B _).mono ?_
  rintro e w2 ⟨rfl, hb2⟩
  have sA2 : SetAt w2 w.heap.size A := (sA1.alloc _).stays hb2
  have sB2 : SetAt w2 (w.heap.size + 1) B := (sB1.alloc _).stays hb2
  have rx2 : Row w2 w1.heap.size A.testBit := (show Row (w1.alloc (.cells (arr A.testBit) 35)) w1.heap.size A.testBit from heap_alloc_new w1 _).stay hb2
  have old2 : Below w.heap.size w w2 := (old1.alloc old1.size _).trans (hb2.mono (by have := old1.size; simp; omega))
  have o2 : w1.heap.size < w2.heap.size := by have := hb2.size; simp at this; omega
  clear hb2 b0 b1 b2 b3 sA1 sB1
  go_wp2_with (refine wpList_store_row rfl 35 (.tmp 10) (.tmp 26) rfl w2.heap.size (arr B.testBit) rfl rfl 35 (arr fun _ => false) (heap_alloc_new w2 _) (szArr _) (by rw [arr_size, arr_size]) (arr_one _) ?_; rw [World.setRow_alloc_new])
  have K := Tl.start (fun d => decide (f ≤ (d : Int)) && decide ((d : Int) ≤ t)) sA2 sB2 rx2 old2 hT hg o1 o2
  generalize (((((w2.alloc (.cells (arr B.testBit) 35)).alloc (.cells (arr fun _ => false) 35)).alloc (.cells (arr fun _ => false) 35)).alloc (.cells (arr fun _ => false) 35)).alloc (.cells (arr fun _ => false) 35)) = W at *
  clear sA2 sB2 rx2 old2 old1 hz hT
  generalize w2.heap.size = n2 at *
  generalize w1.heap.size = n1 at *
  clear w1 w2
  go_loopw [15, 16, 17] (fun n m i wr => ∃ c : Nat, c ≤ 256 ∧ i = .int .i64 c ∧ n = .int .i64 (pc c A) ∧ m = .int .i64 (lst A c) ∧ Tl w n1 n2 A B (fun d => decide (f ≤ (d : Int)) && decide ((d : Int) ≤ t)) c wr) (fun _ _ i _ => (256 - intOf i).toNat)
  case atStart => exact ⟨0, by omega, rfl, rfl, by unfold lst; rfl, K⟩
  case round =>
    obtain ⟨c, hc, rfl, rfl, rfl, K⟩ := hrel
    by_cases hlt : c < 256
    · have cx := K.rx.cell hlt
      have cy := K.ry.cell hlt
      have c1 := K.r1.cell hlt; have c2 := K.r2.cell hlt; have c3 := K.r3.cell hlt; have c4 := K.r4.cell hlt
      have f1 := K.r1.frozen c; have f2 := K.r2.frozen c; have f3 := K.r3.frozen c; have f4 := K.r4.frozen c
      have far : ∀ (b b' : Nat) (_ : b ≠ b') (w : World) (v : Value), (w.setCell ⟨b', c, none⟩ v).cell? ⟨b, c, none⟩ = w.cell? ⟨b, c, none⟩ := fun b b' h w v => World.cell?_of_block (heap_setCell_other w ⟨b', c, none⟩ b v h)
      have s1 := far n1 (n2 + 1) (by omega); have s2 := far n2 (n2 + 1) (by omega); have s3 := far (n2 + 1 + 1) (n2 + 1) (by omega); have s4 := far (n2 + 1 + 1 + 1) (n2 + 1) (by omega); have s5 := far (n2 + 1 + 1 + 1 + 1) (n2 + 1) (by omega)
      have s6 := far n1 (n2 + 1 + 1) (by omega); have s7 := far (n2 + 1 + 1 + 1) (n2 + 1 + 1) (by omega); have s8 := far (n2 + 1 + 1 + 1 + 1) (n2 + 1 + 1) (by omega)
      have s9 := far (n2 + 1 + 1 + 1 + 1) (n2 + 1 + 1 + 1) (by omega)
      clear far
      have lb := lst_bound A c
      have pb := pc_le c A
      have hdk : decide ((c : Int) < 256) = true := decide_eq_true (by omega)
      cases bA : A.testBit c
      all_goals
        rw [bA] at cx
        have HbA := Lib.hid bA
        clear bA
      · by_cases hf : f ≤ (c : Int)
        · have hfd : decide (f ≤ (c : Int)) = true := decide_eq_true hf
          go_wp2
          have K' := K.round (v1 := false) (v2 := (B.testBit c)) (v3 := true) (v4 := (decide ((c : Int) ≤ t))) (by rw [HbA.out]; simp) (by rw [HbA.out]; simp) (by rw [HbA.out]; rfl) (by show _ = (decide (f ≤ (c : Int)) && decide ((c : Int) ≤ t)); rw [hfd]; simp)
          generalize (((wr.setCell ⟨n2 + 1, c, none⟩ (.bool false)).setCell ⟨n2 + 1 + 1, c, none⟩ (.bool (B.testBit c))).setCell ⟨n2 + 1 + 1 + 1, c, none⟩ (.bool true)).setCell ⟨n2 + 1 + 1 + 1 + 1, c, none⟩ (.bool (decide ((c : Int) ≤ t))) = W1 at *
          clear K cx cy c1 c2 c3 c4 f1 f2 f3 f4 s1 s2 s3 s4 s5 s6 s7 s8 s9
          have hbit := HbA.out
          refine region_fam (by kernel_rfl) (by kernel_rfl) ?_
          intro ι hι F hF hX
          have kF := fun n => Lib.hid (K'.call (hF n))
          have a0 := fun n => (kF n).out.sA.c0; have a1 := fun n => (kF n).out.sA.c1; have a2 := fun n => (kF n).out.sA.c2; have a3 := fun n => (kF n).out.sA.c3
          have cx := fun n => (kF n).out.rx.cell hlt
          rw [hbit] at cx
          repeat (go_big_quiet_step (first
            | (go_at_call 17; exact fam_call hF hX (has_any _ _ _ (by omega) (by omega)))))
          refine wpQuiet_nil ?_
          rintro _ ⟨n, rfl⟩
          replace K' := (kF n).out
          replace cx := cx n
          clear a0 a1 a2 a3 kF hbit hX hF
          generalize F n = W3 at *
          go_wp2
          go_roundw
          case rel =>
            refine ⟨c + 1, by omega, by go_num, ?_, ?_, K'⟩
            · rw [pc_succ, HbA.out]; rfl
            · rw [lst_succ, HbA.out]; simp
          case measure => simp [intOf]; omega
        · have hfd : decide (f ≤ (c : Int)) = false := decide_eq_false hf
          go_wp2
          have K' := K.round (v1 := false) (v2 := (B.testBit c)) (v3 := true) (v4 := false) (by rw [HbA.out]; simp) (by rw [HbA.out]; simp) (by rw [HbA.out]; rfl) (by show _ = (decide (f ≤ (c : Int)) && decide ((c : Int) ≤ t)); rw [hfd]; simp)
          generalize (((wr.setCell ⟨n2 + 1, c, none⟩ (.bool false)).setCell ⟨n2 + 1 + 1, c, none⟩ (.bool (B.testBit c))).setCell ⟨n2 + 1 + 1 + 1, c, none⟩ (.bool true)).setCell ⟨n2 + 1 + 1 + 1 + 1, c, none⟩ (.bool false) = W1 at *
          clear K cx cy c1 c2 c3 c4 f1 f2 f3 f4 s1 s2 s3 s4 s5 s6 s7 s8 s9
          have hbit := HbA.out
          refine region_fam (by kernel_rfl) (by kernel_rfl) ?_
          intro ι hι F hF hX
          have kF := fun n => Lib.hid (K'.call (hF n))
          have a0 := fun n => (kF n).out.sA.c0; have a1 := fun n => (kF n).out.sA.c1; have a2 := fun n => (kF n).out.sA.c2; have a3 := fun n => (kF n).out.sA.c3
          have cx := fun n => (kF n).out.rx.cell hlt
          rw [hbit] at cx
          repeat (go_big_quiet_step (first
            | (go_at_call 17; exact fam_call hF hX (has_any _ _ _ (by omega) (by omega)))))
          refine wpQuiet_nil ?_
          rintro _ ⟨n, rfl⟩
          replace K' := (kF n).out
          replace cx := cx n
          clear a0 a1 a2 a3 kF hbit hX hF
          generalize F n = W3 at *
          go_wp2
          go_roundw
          case rel =>
            refine ⟨c + 1, by omega, by go_num, ?_, ?_, K'⟩
            · rw [pc_succ, HbA.out]; rfl
            · rw [lst_succ, HbA.out]; simp
          case measure => simp [intOf]; omega
      · by_cases hf : f ≤ (c : Int)
        · have hfd : decide (f ≤ (c : Int)) = true := decide_eq_true hf
          go_wp2
          have K' := K.round (v1 := (B.testBit c)) (v2 := true) (v3 := false) (v4 := (decide ((c : Int) ≤ t))) (by rw [HbA.out]; simp) (by rw [HbA.out]; simp) (by rw [HbA.out]; rfl) (by show _ = (decide (f ≤ (c : Int)) && decide ((c : Int) ≤ t)); rw [hfd]; simp)
          generalize (((wr.setCell ⟨n2 + 1, c, none⟩ (.bool (B.testBit c))).setCell ⟨n2 + 1 + 1, c, none⟩ (.bool true)).setCell ⟨n2 + 1 + 1 + 1, c, none⟩ (.bool false)).setCell ⟨n2 + 1 + 1 + 1 + 1, c, none⟩ (.bool (decide ((c : Int) ≤ t))) = W1 at *
          clear K cx cy c1 c2 c3 c4 f1 f2 f3 f4 s1 s2 s3 s4 s5 s6 s7 s8 s9
          have hbit := HbA.out
          refine region_fam (by kernel_rfl) (by kernel_rfl) ?_
          intro ι hι F hF hX
          have kF := fun n => Lib.hid (K'.call (hF n))
          have a0 := fun n => (kF n).out.sA.c0; have a1 := fun n => (kF n).out.sA.c1; have a2 := fun n => (kF n).out.sA.c2; have a3 := fun n => (kF n).out.sA.c3
          have cx := fun n => (kF n).out.rx.cell hlt
          rw [hbit] at cx
          repeat (go_big_quiet_step (first
            | (go_at_call 17; exact fam_call hF hX (has_any _ _ _ (by omega) (by omega)))))
          refine wpQuiet_nil ?_
          rintro _ ⟨n, rfl⟩
          replace K' := (kF n).out
          replace cx := cx n
          clear a0 a1 a2 a3 kF hbit hX hF
          generalize F n = W3 at *
          by_cases hl : lst A c < 0
          · go_wp2
            go_roundw
            case rel =>
              refine ⟨c + 1, by omega, by go_num, ?_, ?_, K'⟩
              · rw [pc_succ, HbA.out]; go_num
              · rw [lst_succ, if_pos hl, HbA.out]; rfl
            case measure => simp [intOf]; omega
          · have hl' : decide (lst A c < 0) = false := decide_eq_false hl
            go_wp2
            go_roundw
            case rel =>
              refine ⟨c + 1, by omega, by go_num, ?_, ?_, K'⟩
              · rw [pc_succ, HbA.out]; go_num
              · rw [lst_succ, if_neg hl]
            case measure => simp [intOf]; omega
        · have hfd : decide (f ≤ (c : Int)) = false := decide_eq_false hf
          go_wp2
          have K' := K.round (v1 := (B.testBit c)) (v2 := true) (v3 := false) (v4 := false) (by rw [HbA.out]; simp) (by rw [HbA.out]; simp) (by rw [HbA.out]; rfl) (by show _ = (decide (f ≤ (c : Int)) && decide ((c : Int) ≤ t)); rw [hfd]; simp)
          generalize (((wr.setCell ⟨n2 + 1, c, none⟩ (.bool (B.testBit c))).setCell ⟨n2 + 1 + 1, c, none⟩ (.bool true)).setCell ⟨n2 + 1 + 1 + 1, c, none⟩ (.bool false)).setCell ⟨n2 + 1 + 1 + 1 + 1, c, none⟩ (.bool false) = W1 at *
          clear K cx cy c1 c2 c3 c4 f1 f2 f3 f4 s1 s2 s3 s4 s5 s6 s7 s8 s9
          have hbit := HbA.out
          refine region_fam (by kernel_rfl) (by kernel_rfl) ?_
          intro ι hι F hF hX
          have kF := fun n => Lib.hid (K'.call (hF n))
          have a0 := fun n => (kF n).out.sA.c0; have a1 := fun n => (kF n).out.sA.c1; have a2 := fun n => (kF n).out.sA.c2; have a3 := fun n => (kF n).out.sA.c3
          have cx := fun n => (kF n).out.rx.cell hlt
          rw [hbit] at cx
          repeat (go_big_quiet_step (first
            | (go_at_call 17; exact fam_call hF hX (has_any _ _ _ (by omega) (by omega)))))
          refine wpQuiet_nil ?_
          rintro _ ⟨n, rfl⟩
          replace K' := (kF n).out
          replace cx := cx n
          clear a0 a1 a2 a3 kF hbit hX hF
          generalize F n = W3 at *
          by_cases hl : lst A c < 0
          · go_wp2
            go_roundw
            case rel =>
              refine ⟨c + 1, by omega, by go_num, ?_, ?_, K'⟩
              · rw [pc_succ, HbA.out]; go_num
              · rw [lst_succ, if_pos hl, HbA.out]; rfl
            case measure => simp [intOf]; omega
          · have hl' : decide (lst A c < 0) = false := decide_eq_false hl
            go_wp2
            go_roundw
            case rel =>
              refine ⟨c + 1, by omega, by go_num, ?_, ?_, K'⟩
              · rw [pc_succ, HbA.out]; go_num
              · rw [lst_succ, if_neg hl]
            case measure => simp [intOf]; omega
    · have hc' : c = 256 := by omega
      subst hc'
      have hpc := pc_cnt A
      rw [hpc]
      have hcb := cnt_le A
      have HL := Lib.hid (listN_length A)
      have HLat := Lib.hid (fun c h1 h2 => listN_at A c h1 h2)
      clear hpc hlt hc
      have a0 := K.sA.c0; have a1 := K.sA.c1; have a2 := K.sA.c2; have a3 := K.sA.c3
      rcases lst_spec A 256 with ⟨hl1, hl2⟩ | ⟨d, hd, hl1, hl2, hl3⟩
      · have hA0 := eq_zero_of A hA hl2
        have z : wd A 0 = 0 ∧ wd A 1 = 0 ∧ wd A 2 = 0 ∧ wd A 3 = 0 := by rw [hA0]; exact ⟨wd_zero _, wd_zero _, wd_zero _, wd_zero _⟩
        have hcn : cnt A = 0 := by rw [hA0]; decide +kernel
        have Z := Lib.hid z
        rw [hl1]
        clear z hA0 hl1 hl2
        have hgW := Nat.lt_of_lt_of_le hg K.old.size
        have hcn' := Lib.hid hcn
        go_wp2_with fail
        refine (first_none A _ Z.out.1 Z.out.2.1 Z.out.2.2.1 Z.out.2.2.2).mono ?_
        rintro e W5 ⟨rfl, hb⟩
        replace K := K.call hb
        clear hb a0 a1 a2 a3
        have a0 := K.sA.c0; have a1 := K.sA.c1; have a2 := K.sA.c2; have a3 := K.sA.c3
        go_wp2_with fail
        refine (count_any A _).mono ?_
        rintro e W6 ⟨rfl, hb⟩
        replace K := K.call hb
        clear hb a0 a1 a2 a3
        have a0 := K.sA.c0; have a1 := K.sA.c1; have a2 := K.sA.c2; have a3 := K.sA.c3
        rw [hcn]
        clear hcn
        go_wp2_with fail
        refine (list_bytes A _ K.tab (Nat.lt_of_lt_of_le hg K.old.size)).mono ?_
        rintro e W7 ⟨v, rfl, hby, hb⟩
        replace K := K.call hb
        clear hb a0 a1 a2 a3
        have hlen := HL.out
        generalize listN A = L at *
        obtain ⟨-, -, a, cap, rfl, hcells⟩ := hby
        have HC := Lib.hid hcells
        have hrx := Lib.hid (fun c h => K.rx.cell (c := c) h)
        have hle : L.length ≤ 256 := by omega
        have HE := Lib.hid hlen
        clear hcells hlen
        go_wp2_with fail
        go_loop [21, 22] (fun k i => ∃ c : Nat, c ≤ 256 ∧ i = .int .i64 c ∧ k = .int .i64 (pc c A)) (fun _ i => (256 - intOf i).toNat)
        case atStart => exact ⟨0, by omega, rfl, rfl⟩
        case round =>
          obtain ⟨c, hc, rfl, rfl⟩ := hrel
          have pb := pc_le c A
          by_cases hlt : c < 256
          · have cx := hrx.out c hlt
            have hdk : decide ((c : Int) < 256) = true := decide_eq_true (by omega)
            cases bA : A.testBit c
            · rw [bA] at cx
              have HbA := Lib.hid bA
              clear bA
              go_wp2
              go_round
              case rel => exact ⟨c + 1, by omega, by go_num, by rw [pc_succ, HbA.out]; rfl⟩
              case measure => simp [intOf]; omega
            · obtain ⟨hg1, hg2⟩ := HLat.out c hlt bA
              obtain ⟨b, o, rfl, hck⟩ := HC.out (pc c A) hg2
              rw [hg1] at hck
              rw [bA] at cx
              have HbA := Lib.hid bA
              clear bA hg1
              have hge : decide ((L.length : Int) ≤ (pc c A : Int)) = false := decide_eq_false (by omega)
              go_wp2
              go_round
              case rel => exact ⟨c + 1, by omega, by go_num, by rw [pc_succ, HbA.out]; go_num⟩
              case measure => simp [intOf]; omega
          · have hc' : c = 256 := by omega
            subst hc'
            rw [pc_cnt]
            have hne : ((cnt A : Int) != (L.length : Int)) = false := by rw [HE.out]; simp
            clear hlt hc pb hrx
            go_wp2
            refine region_fam (by kernel_rfl) (by kernel_rfl) ?_
            intro ι hι F hF hX
            have kF := fun n => Lib.hid (K.call (hF n))
            have a0 := fun n => (kF n).out.sA.c0; have a1 := fun n => (kF n).out.sA.c1; have a2 := fun n => (kF n).out.sA.c2; have a3 := fun n => (kF n).out.sA.c3
            have b0 := fun n => (kF n).out.sB.c0; have b1 := fun n => (kF n).out.sB.c1; have b2 := fun n => (kF n).out.sB.c2; have b3 := fun n => (kF n).out.sB.c3
            have q1 : packN (upto (fun d => A.testBit d && B.testBit d) 256) = A &&& B := packN_eq _ _ (lt_and hA) (fun d hd => by rw [upto_full _ _ hd, Nat.testBit_and])
            have q2 : packN (upto (fun d => A.testBit d || B.testBit d) 256) = A ||| B := packN_eq _ _ (lt_or hA hBl) (fun d hd => by rw [upto_full _ _ hd, Nat.testBit_or])
            have q3 : packN (upto (fun d => !A.testBit d) 256) = full ^^^ A := packN_eq _ _ (lt_xor full_lt hA) (fun d hd => by rw [upto_full _ _ hd, Nat.testBit_xor, testBit_full]; simp [hd])
            have q4 : packN (upto (fun d => decide (f ≤ (d : Int)) && decide ((d : Int) ≤ t)) 256) = rangeN f.toNat t.toNat := packN_eq _ _ (rangeN_lt _ _ (by omega)) (fun d hd => by
              rw [upto_full _ _ hd, testBit_rangeN]
              congr 1 <;> rw [decide_eq_decide] <;> omega)
            repeat (first
              | go_big_quiet_step (first
                | (go_at_call 20; exact fam_call hF hX (or_any _ _ _))
                | (go_at_call 18; exact fam_call hF hX (and_any _ _ _))
                | (go_at_call 10; exact fam_call hF hX (not_any _ _))
                | (go_at_call 8; exact fam_call hF hX (range_any _ _ _ hf0 hf1 ht0 ht1))
                | (go_at_call 19; exact fam_call hF hX (pack_any _ _))
                | (go_at_call 15; exact fam_call hF hX (awake_any _ (kF _).out.tab (Nat.lt_of_lt_of_le hg (kF _).out.old.size))))
              | (refine BigFrame.wpQuiet_want rfl (fun K' hK' => ?_); refine quiet_load_row 35 (.tmp 11) rfl (n2 + 1) rfl 35 _ (0, 0) _ (fun w' hw' => by obtain ⟨n, rfl⟩ := hw'; exact (kF n).out.r1) Tryd.underlying35 rfl (szArr _) ?_; refine hK' _ ?_; clear hK' K'; go_simp)
              | (refine BigFrame.wpQuiet_want rfl (fun K' hK' => ?_); refine quiet_load_row 35 (.tmp 12) rfl (n2 + 1 + 1) rfl 35 _ (0, 0) _ (fun w' hw' => by obtain ⟨n, rfl⟩ := hw'; exact (kF n).out.r2) Tryd.underlying35 rfl (szArr _) ?_; refine hK' _ ?_; clear hK' K'; go_simp)
              | (refine BigFrame.wpQuiet_want rfl (fun K' hK' => ?_); refine quiet_load_row 35 (.tmp 13) rfl (n2 + 1 + 1 + 1) rfl 35 _ (0, 0) _ (fun w' hw' => by obtain ⟨n, rfl⟩ := hw'; exact (kF n).out.r3) Tryd.underlying35 rfl (szArr _) ?_; refine hK' _ ?_; clear hK' K'; go_simp)
              | (refine BigFrame.wpQuiet_want rfl (fun K' hK' => ?_); refine quiet_load_row 35 (.tmp 14) rfl (n2 + 1 + 1 + 1 + 1) rfl 35 _ (0, 0) _ (fun w' hw' => by obtain ⟨n, rfl⟩ := hw'; exact (kF n).out.r4) Tryd.underlying35 rfl (szArr _) ?_; refine hK' _ ?_; clear hK' K'; go_simp))
            refine wpQuiet_nil ?_
            intro n
            have HB := (kF n).out.old
            clear a0 a1 a2 a3 b0 b1 b2 b3 q1 q2 q3 q4 kF hF hX
            generalize F n = W8 at *
            go_wp2
            go_ret
            exact ⟨rfl, HB⟩
      · have hpos := pc_pos A 256 d hd hl2
        rw [pc_cnt] at hpos
        rw [hl1]
        have H1 := Lib.hid hl1; have H2 := Lib.hid hl2; have H3 := Lib.hid hl3
        clear hl1 hl2 hl3
        have hgW := Nat.lt_of_lt_of_le hg K.old.size
        go_wp2_with fail
        refine (first_some A d _ hd H2.out H3.out K.tab hgW).mono ?_
        rintro e W5 ⟨rfl, hb⟩
        replace K := K.call hb
        clear hb a0 a1 a2 a3
        have a0 := K.sA.c0; have a1 := K.sA.c1; have a2 := K.sA.c2; have a3 := K.sA.c3
        go_wp2_with fail
        refine (count_any A _).mono ?_
        rintro e W6 ⟨rfl, hb⟩
        replace K := K.call hb
        clear hb a0 a1 a2 a3
        have a0 := K.sA.c0; have a1 := K.sA.c1; have a2 := K.sA.c2; have a3 := K.sA.c3
        have hgt : decide ((0 : Int) < (cnt A : Int)) = true := decide_eq_true (by omega)
        have hgt' : decide (0 < cnt A) = true := decide_eq_true hpos
        go_wp2_with fail
        refine (list_bytes A _ K.tab (Nat.lt_of_lt_of_le hg K.old.size)).mono ?_
        rintro e W7 ⟨v, rfl, hby, hb⟩
        replace K := K.call hb
        clear hb a0 a1 a2 a3
        have hlen := HL.out
        generalize listN A = L at *
        obtain ⟨-, -, a, cap, rfl, hcells⟩ := hby
        have HC := Lib.hid hcells
        have hrx := Lib.hid (fun c h => K.rx.cell (c := c) h)
        have hle : L.length ≤ 256 := by omega
        have HE := Lib.hid hlen
        clear hcells hlen
        go_wp2_with fail
        go_loop [21, 22] (fun k i => ∃ c : Nat, c ≤ 256 ∧ i = .int .i64 c ∧ k = .int .i64 (pc c A)) (fun _ i => (256 - intOf i).toNat)
        case atStart => exact ⟨0, by omega, rfl, rfl⟩
        case round =>
          obtain ⟨c, hc, rfl, rfl⟩ := hrel
          have pb := pc_le c A
          by_cases hlt : c < 256
          · have cx := hrx.out c hlt
            have hdk : decide ((c : Int) < 256) = true := decide_eq_true (by omega)
            cases bA : A.testBit c
            · rw [bA] at cx
              have HbA := Lib.hid bA
              clear bA
              go_wp2
              go_round
              case rel => exact ⟨c + 1, by omega, by go_num, by rw [pc_succ, HbA.out]; rfl⟩
              case measure => simp [intOf]; omega
            · obtain ⟨hg1, hg2⟩ := HLat.out c hlt bA
              obtain ⟨b, o, rfl, hck⟩ := HC.out (pc c A) hg2
              rw [hg1] at hck
              rw [bA] at cx
              have HbA := Lib.hid bA
              clear bA hg1
              have hge : decide ((L.length : Int) ≤ (pc c A : Int)) = false := decide_eq_false (by omega)
              go_wp2
              go_round
              case rel => exact ⟨c + 1, by omega, by go_num, by rw [pc_succ, HbA.out]; go_num⟩
              case measure => simp [intOf]; omega
          · have hc' : c = 256 := by omega
            subst hc'
            rw [pc_cnt]
            have hne : ((cnt A : Int) != (L.length : Int)) = false := by rw [HE.out]; simp
            clear hlt hc pb hrx
            go_wp2
            refine region_fam (by kernel_rfl) (by kernel_rfl) ?_
            intro ι hι F hF hX
            have kF := fun n => Lib.hid (K.call (hF n))
            have a0 := fun n => (kF n).out.sA.c0; have a1 := fun n => (kF n).out.sA.c1; have a2 := fun n => (kF n).out.sA.c2; have a3 := fun n => (kF n).out.sA.c3
            have b0 := fun n => (kF n).out.sB.c0; have b1 := fun n => (kF n).out.sB.c1; have b2 := fun n => (kF n).out.sB.c2; have b3 := fun n => (kF n).out.sB.c3
            have q1 : packN (upto (fun d => A.testBit d && B.testBit d) 256) = A &&& B := packN_eq _ _ (lt_and hA) (fun d hd => by rw [upto_full _ _ hd, Nat.testBit_and])
            have q2 : packN (upto (fun d => A.testBit d || B.testBit d) 256) = A ||| B := packN_eq _ _ (lt_or hA hBl) (fun d hd => by rw [upto_full _ _ hd, Nat.testBit_or])
            have q3 : packN (upto (fun d => !A.testBit d) 256) = full ^^^ A := packN_eq _ _ (lt_xor full_lt hA) (fun d hd => by rw [upto_full _ _ hd, Nat.testBit_xor, testBit_full]; simp [hd])
            have q4 : packN (upto (fun d => decide (f ≤ (d : Int)) && decide ((d : Int) ≤ t)) 256) = rangeN f.toNat t.toNat := packN_eq _ _ (rangeN_lt _ _ (by omega)) (fun d hd => by
              rw [upto_full _ _ hd, testBit_rangeN]
              congr 1 <;> rw [decide_eq_decide] <;> omega)
            repeat (first
              | go_big_quiet_step (first
                | (go_at_call 20; exact fam_call hF hX (or_any _ _ _))
                | (go_at_call 18; exact fam_call hF hX (and_any _ _ _))
                | (go_at_call 10; exact fam_call hF hX (not_any _ _))
                | (go_at_call 8; exact fam_call hF hX (range_any _ _ _ hf0 hf1 ht0 ht1))
                | (go_at_call 19; exact fam_call hF hX (pack_any _ _))
                | (go_at_call 15; exact fam_call hF hX (awake_any _ (kF _).out.tab (Nat.lt_of_lt_of_le hg (kF _).out.old.size))))
              | (refine BigFrame.wpQuiet_want rfl (fun K' hK' => ?_); refine quiet_load_row 35 (.tmp 11) rfl (n2 + 1) rfl 35 _ (0, 0) _ (fun w' hw' => by obtain ⟨n, rfl⟩ := hw'; exact (kF n).out.r1) Tryd.underlying35 rfl (szArr _) ?_; refine hK' _ ?_; clear hK' K'; go_simp)
              | (refine BigFrame.wpQuiet_want rfl (fun K' hK' => ?_); refine quiet_load_row 35 (.tmp 12) rfl (n2 + 1 + 1) rfl 35 _ (0, 0) _ (fun w' hw' => by obtain ⟨n, rfl⟩ := hw'; exact (kF n).out.r2) Tryd.underlying35 rfl (szArr _) ?_; refine hK' _ ?_; clear hK' K'; go_simp)
              | (refine BigFrame.wpQuiet_want rfl (fun K' hK' => ?_); refine quiet_load_row 35 (.tmp 13) rfl (n2 + 1 + 1 + 1) rfl 35 _ (0, 0) _ (fun w' hw' => by obtain ⟨n, rfl⟩ := hw'; exact (kF n).out.r3) Tryd.underlying35 rfl (szArr _) ?_; refine hK' _ ?_; clear hK' K'; go_simp)
              | (refine BigFrame.wpQuiet_want rfl (fun K' hK' => ?_); refine quiet_load_row 35 (.tmp 14) rfl (n2 + 1 + 1 + 1 + 1) rfl 35 _ (0, 0) _ (fun w' hw' => by obtain ⟨n, rfl⟩ := hw'; exact (kF n).out.r4) Tryd.underlying35 rfl (szArr _) ?_; refine hK' _ ?_; clear hK' K'; go_simp))
            refine wpQuiet_nil ?_
            intro n
            have HB := (kF n).out.old
            clear a0 a1 a2 a3 b0 b1 b2 b3 q1 q2 q3 q4 kF hF hX
            generalize F n = W8 at *
            go_wp2
            go_ret
            exact ⟨rfl, HB⟩
end Go.Proofs.YtioghbhcdofnnaaDoor
