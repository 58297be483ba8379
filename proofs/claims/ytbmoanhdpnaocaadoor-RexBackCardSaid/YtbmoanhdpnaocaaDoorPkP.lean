/- Several texts in one. -/
import Derived.Test.YtbmoanhdpnaocaaDoorRexW
import Derived.Test.YtbmoanhdpnaocaaDoorTAl8
import Derived.Test.YtbmoanhdpnaocaaDoorPkN
namespace Go.Proofs.YtbmoanhdpnaocaaDoor
open Go.RowKit Sets Tr Rx
theorem alk_roots {W : World} {nv pv mv qv : Value} {N M : List Nd} {R S : List (Int × Bool)} (hN : NodesAt W nv N) (hM : NodesAt W mv M) (hR : Right N R) (hS : Right M S) {i j : Nat} (hi : i < N.length) (hj : j < M.length) :
    Alk W nv pv mv qv i j (decide (abs N (tr N i) = abs M (tr M j))) := by
  obtain ⟨t, ht, hrt⟩ := is_of_low hR.low i hi
  obtain ⟨u, hu, hru⟩ := is_of_low hS.low j hj
  have h := alike_any W nv pv mv qv N M hN hM hR.snd hS.snd _ t u (Nat.le_refl _) ht hu
  rw [hrt, hru] at h
  have e1 : tr N i = t := by rw [← hrt]; exact tr_of ht
  have e2 : tr M j = u := by rw [← hru]; exact tr_of hu
  rw [e1, e2]
  exact h
set_option maxHeartbeats 6400000 in
set_option maxRecDepth 100000 in
theorem ali_any (na pa ma qa : Option Addr) (nc pc mc qc : Nat) (N M : List Nd) (R S : List (Int × Bool)) (w : World) (hN : NodesAt w (.slice na N.length nc) N) (hP : PartsAt w (.slice pa R.length pc) R) (hM : NodesAt w (.slice ma M.length mc) M) (hQ : PartsAt w (.slice qa S.length qc) S)
    (hR : Right N R) (hS : Right M S) (he : parts N R = parts M S) :
    Calls Tryd.prog 11 #[.agg #[.slice na N.length nc, .slice pa R.length pc], .agg #[.slice ma M.length mc, .slice qa S.length qc]] w fun e w' => e = .returned (.bool true) ∧ Below w.heap.size w w' := by
  have hsame := same_all.2 he
  have hl := hsame.1
  have HR := Lib.hid hR
  have HS := Lib.hid hS
  have HSm := Lib.hid hsame
  have HA := Lib.hid (fun i j hi hj => alk_roots (W := w) (pv := .slice pa R.length pc) (qv := .slice qa S.length qc) hN hM hR hS (i := i) (j := j) hi hj)
  have HP := Lib.hid hP
  have HQ := Lib.hid hQ
  have hb0 := ((Below.refl w.heap.size w).alloc (Nat.le_refl _) (.cells #[.slice na N.length nc, .slice pa R.length pc] 25))
  have hb1 := hb0.alloc hb0.size (.cells #[.slice ma M.length mc, .slice qa S.length qc] 25)
  have HB0 := Lib.hid hb1
  have HX0 := Lib.hid (Box2.new w (.slice na N.length nc) (.slice pa R.length pc) (.slice ma M.length mc) (.slice qa S.length qc))
  have g0 : ((R.length : Int) != (S.length : Int)) = false := by rw [hl]; simp
  have HL := Lib.hid hl
  clear hl hN hP hM hQ hR hS hsame he hb0 hb1
  go_enter Tryd.func11, Tryd.ntmps11
  go_wp2_with fail
  generalize (w.alloc (.cells #[.slice na N.length nc, .slice pa R.length pc] 25)).alloc (.cells #[.slice ma M.length mc, .slice qa S.length qc] 25) = w5 at *
  go_loopw [5] (fun x wr => ∃ i : Nat, x = .int .i64 i ∧ i ≤ R.length ∧ Hid (Below w5.heap.size w5 wr)) (fun x _ => (R.length - intOf x).toNat)
  case atStart => exact ⟨0, rfl, Nat.zero_le _, Lib.hid (Below.refl _ _)⟩
  case round =>
    obtain ⟨i, rfl, hi, HW⟩ := hrel
    generalize hwr : wr = w6 at *
    clear hwr wr
    have HB6 := Lib.hid (HB0.out.trans (HW.out.mono HB0.out.size))
    have HX6 := Lib.hid (HX0.out.kept HW.out)
    obtain ⟨x0, x1, x2, x3, hs7⟩ := HX6.out
    have hs6 : w.heap.size < w6.heap.size := by omega
    by_cases hil : i < R.length
    · have hdi : decide (i < R.length) = true := decide_eq_true hil
      have hil2 : i < S.length := by have := HL.out; omega
      have hdi2 : decide (i < S.length) = true := decide_eq_true hil2
      obtain ⟨pb, po, rfl, hr0, hok⟩ := HP.out.at hil
      obtain ⟨qb, qo, rfl, hq0, hoq⟩ := HQ.out.at hil2
      have hrt := HR.out.rts (R.getD i default).1 (List.mem_map.2 ⟨_, (by rw [List.getD_eq_getElem?_getD, List.getElem?_eq_getElem hil]; exact List.getElem_mem hil), rfl⟩)
      have hst := HS.out.rts (S.getD i default).1 (List.mem_map.2 ⟨_, (by rw [List.getD_eq_getElem?_getD, List.getElem?_eq_getElem hil2]; exact List.getElem_mem hil2), rfl⟩)
      have hstep := HSm.out.2 i hil
      generalize R.getD i default = X at *
      generalize S.getD i default = Y at *
      obtain ⟨rt, nt⟩ := X
      obtain ⟨st, mt⟩ := Y
      simp only at hrt hst hstep
      obtain ⟨k, rfl⟩ : ∃ k : Nat, rt = (k : Int) := ⟨rt.toNat, by omega⟩
      obtain ⟨j, rfl⟩ : ∃ j : Nat, st = (j : Int) := ⟨st.toNat, by omega⟩
      rw [Int.toNat_natCast, Int.toNat_natCast] at hstep
      obtain ⟨rfl, hab⟩ := hstep
      have hal := HA.out k j (by omega) (by omega)
      rw [decide_eq_true hab] at hal
      have HAl := Lib.hid hal
      have HRg := Lib.hid hr0
      have HQg := Lib.hid hq0
      have HLe := Lib.hid hil
      clear hr0 hq0 hok hoq hrt hst hal hab
      go_wp2_with fail
      refine region_mix [(false, 0), (false, 1), (false, 2), (false, 3), (false, 4), (false, 5), (false, 6), (false, 7), (false, 8), (false, 9), (false, 10), (false, 11), (false, 12), (false, 13), (false, 14), (false, 15), (false, 16), (false, 17), (false, 18), (false, 19), (false, 20), (false, 21), (false, 22), (false, 23), (false, 24), (false, 25), (false, 26), (false, 27), (true, 28), (false, 29)] (fun w' => Below w6.heap.size w6 w') (by kernel_rfl) (by kernel_rfl) ((Below.refl _ _).drew) ?_
      simp only [planOps, List.map_cons, List.map_nil, List.getD_cons_zero, List.getD_cons_succ, List.length_cons, List.length_nil, List.drop_succ_cons, List.drop_zero]
      refine mix_seg (seg := [_, _, _, _, _, _, _, _, _, _, _, _, _, _, _, _, _, _, _, _, _, _, _, _, _, _, _, _]) rfl ((Below.refl _ _).drew) ?_
      intro ι hι F hF
      have f0 := fun n => ((hF n).cell (p := ⟨w.heap.size, 0, none⟩) hs6).trans x0
      have f1 := fun n => ((hF n).cell (p := ⟨w.heap.size, 1, none⟩) hs6).trans x1
      have f2 := fun n => ((hF n).cell (p := ⟨w.heap.size + 1, 0, none⟩) hs7).trans x2
      have f3 := fun n => ((hF n).cell (p := ⟨w.heap.size + 1, 1, none⟩) hs7).trans x3
      have f4 := fun n => show (F n).cell? ⟨pb, po + i * 2, none⟩ = some (.int .i64 k) from (range_kept HRg.out (HB6.out.trans ((hF n).mono HB6.out.size))) 0 _ rfl
      have f5 := fun n => show (F n).cell? ⟨pb, po + i * 2 + 1, none⟩ = some (.bool nt) from (range_kept HRg.out (HB6.out.trans ((hF n).mono HB6.out.size))) 1 _ rfl
      have f6 := fun n => show (F n).cell? ⟨qb, qo + i * 2, none⟩ = some (.int .i64 j) from (range_kept HQg.out (HB6.out.trans ((hF n).mono HB6.out.size))) 0 _ rfl
      have f7 := fun n => show (F n).cell? ⟨qb, qo + i * 2 + 1, none⟩ = some (.bool nt) from (range_kept HQg.out (HB6.out.trans ((hF n).mono HB6.out.size))) 1 _ rfl
      repeat (first | (go_big_quiet_step (fail)))
      refine wpQuiet_nil ?_
      clear f0 f1 f2 f3 f4 f5 f6 f7 hF hι F
      refine mix_eff (fun K hK => ?_)
      go_wp2_with (go_at_call 22; refine (HAl.out _ (HB6.out.trans (((Below.refl w6.heap.size w6).drew).mono HB6.out.size))).mono ?_; rintro e v1 ⟨rfl, hb⟩)
      have hB1 : Below w6.heap.size w6 v1 := (Below.refl w6.heap.size w6).drew.trans (hb.mono (Below.refl w6.heap.size w6).drew.size)
      clear hb
      refine mix_on hK hB1 ?_
      clear hK K
      refine mix_seg (seg := [_]) (rest := []) rfl hB1 ?_
      intro ι hι F hF
      repeat (first | (go_big_quiet_step (fail)))
      refine wpQuiet_nil ?_
      clear hF hι F
      show wpList _ _ _ _ _ _
      have hlt := HLe.out
      have hfw := HR.out.few.2.1
      go_wp2
      refine NoPanic.normal ?_
      go_wp2
      go_round
      case rel => exact ⟨i + 1, by go_num, by omega, Lib.hid (HW.out.trans (hB1.mono HW.out.size))⟩
      case measure => simp [intOf]; omega
    · have hdi : decide (i < R.length) = false := decide_eq_false hil
      go_wp2_with fail
      go_ret
      exact ⟨rfl, HB6.out⟩
end Go.Proofs.YtbmoanhdpnaocaaDoor
namespace Go.Proofs.YtbmoanhdpnaocaaDoor
open Go.RowKit Sets Tr Rx
namespace Op7
theorem opn_skip (l : List Nat) (b : Bool) (n m : Int) : opn l true b n m = opn (l.drop 1) false b n m := by cases l <;> rfl
theorem drop_pk {l : List Nat} {k : Nat} (h : k < l.length) : l.drop k = pk l k :: l.drop (k + 1) := by
  rw [List.drop_eq_getElem_cons h]
  unfold pk
  rw [List.getD_eq_getElem?_getD, List.getElem?_eq_getElem h]
  rfl
theorem drop_end {l : List Nat} {k : Nat} (h : l.length ≤ k) : l.drop k = [] := List.drop_eq_nil_of_le h
end Op7
open Op7
set_option maxHeartbeats 6400000 in
set_option maxRecDepth 100000 in
theorem open_any (s : ByteArray) (w : World) (hs : s.size ≤ 1000000) :
    Calls Tryd.prog 10 #[.string s] w fun e w' => e = .returned (.int .i64 (opn (by' s) false false 0 0)) ∧ w' = w := by
  obtain ⟨R, hR⟩ : ∃ R, R = opn (by' s) false false 0 0 := ⟨_, rfl⟩
  rw [← hR]
  have HR := Lib.hid hR.symm
  clear hR
  go_enter Tryd.func10, Tryd.ntmps10
  go_wp2_with fail
  go_loopw [3, 4, 5, 6] (fun x y z v wr => ∃ (k : Nat) (n m : Int) (b : Bool), x = .int .i64 n ∧ y = .int .i64 m ∧ z = .bool b ∧ v = .int .i64 k ∧ wr = w ∧ Hid (k ≤ s.size + 1 ∧ -(k : Int) ≤ n ∧ n ≤ k ∧ 0 ≤ m ∧ m ≤ k ∧ opn ((by' s).drop k) false b n m = R)) (fun _ _ _ v _ => (s.size + 2 - intOf v).toNat)
  case atStart => exact ⟨0, 0, 0, false, rfl, rfl, rfl, rfl, rfl, Lib.hid ⟨by omega, by omega, by omega, by omega, by omega, HR.out⟩⟩
  case round =>
    obtain ⟨k, n, m, b, rfl, rfl, rfl, rfl, rfl, HI⟩ := hrel
    obtain ⟨h1, h2, h3, h4, h5, -⟩ := HI.out
    by_cases hlt : k < s.size
    · have d1 : decide ((k : Int) < (s.size : Int)) = true := decide_eq_true (by omega)
      have d1' : decide (k < s.size) = true := decide_eq_true hlt
      have ix := index_by s k k rfl hlt
      have hd := drop_pk (l := by' s) (k := k) (by rw [by_len]; exact hlt)
      have hc := HI.out.2.2.2.2.2
      rw [hd] at hc
      clear hd
      generalize pk (by' s) k = c at *
      by_cases e1 : c = 92
      · have g1 : ((c : Int) == 92) = true := by rw [beq_iff_eq]; omega
        rw [opn, if_pos e1, opn_skip, List.drop_drop] at hc
        have HC := Lib.hid hc
        clear hc e1
        go_wp2_with fail
        go_round
        case rel => exact ⟨k + 2, n, m, b, rfl, rfl, rfl, by go_num, by first | rfl | trivial, Lib.hid ⟨by omega, by omega, by omega, by omega, by omega, HC.out⟩⟩
        case measure => simp [intOf]; omega
      · have g1 : ((c : Int) == 92) = false := by rw [beq_eq_false_iff_ne]; omega
        rw [opn, if_neg e1] at hc
        clear e1
        cases b with
        | true =>
          rw [if_pos rfl] at hc
          have g2 : ((c : Int) != 93) = decide (c ≠ 93) := by
            by_cases e : c = 93
            · subst e; rfl
            · rw [decide_eq_true e, bne_iff_ne]; omega
          generalize decide (c ≠ 93) = b2 at *
          have HC := Lib.hid hc
          clear hc
          go_wp2_with fail
          go_round
          case rel => exact ⟨k + 1, n, m, b2, rfl, rfl, rfl, by go_num, by first | rfl | trivial, Lib.hid ⟨by omega, by omega, by omega, by omega, by omega, HC.out⟩⟩
          case measure => simp [intOf]; omega
        | false =>
          rw [if_neg (by decide)] at hc
          by_cases e2 : c = 91
          · have g2 : ((c : Int) == 91) = true := by rw [beq_iff_eq]; omega
            rw [if_pos e2] at hc
            have HC := Lib.hid hc
            clear hc e2
            go_wp2_with fail
            go_round
            case rel => exact ⟨k + 1, n, m, true, rfl, rfl, rfl, by go_num, by first | rfl | trivial, Lib.hid ⟨by omega, by omega, by omega, by omega, by omega, HC.out⟩⟩
            case measure => simp [intOf]; omega
          · have g2 : ((c : Int) == 91) = false := by rw [beq_eq_false_iff_ne]; omega
            rw [if_neg e2] at hc
            by_cases e3 : c = 40
            · have g3 : ((c : Int) == 40) = true := by rw [beq_iff_eq]; omega
              rw [if_pos e3] at hc
              have HC := Lib.hid hc
              clear hc e2 e3
              go_wp2_with fail
              go_round
              case rel => exact ⟨k + 1, n + 1, max m (n + 1), false, by go_num, by congr 1; split <;> omega, rfl, by go_num, by first | rfl | trivial, Lib.hid ⟨by omega, by omega, by omega, by omega, by omega, HC.out⟩⟩
              case measure => simp [intOf]; omega
            · have g3 : ((c : Int) == 40) = false := by rw [beq_eq_false_iff_ne]; omega
              rw [if_neg e3] at hc
              by_cases e4 : c = 41
              · have g4 : ((c : Int) == 41) = true := by rw [beq_iff_eq]; omega
                rw [if_pos e4] at hc
                have HC := Lib.hid hc
                clear hc e2 e3 e4
                go_wp2_with fail
                go_round
                case rel => exact ⟨k + 1, n - 1, m, false, by go_num, rfl, rfl, by go_num, by first | rfl | trivial, Lib.hid ⟨by omega, by omega, by omega, by omega, by omega, HC.out⟩⟩
                case measure => simp [intOf]; omega
              · have g4 : ((c : Int) == 41) = false := by rw [beq_eq_false_iff_ne]; omega
                rw [if_neg e4] at hc
                have HC := Lib.hid hc
                clear hc e2 e3 e4
                go_wp2_with fail
                go_round
                case rel => exact ⟨k + 1, n, m, false, rfl, rfl, rfl, by go_num, by first | rfl | trivial, Lib.hid ⟨by omega, by omega, by omega, by omega, by omega, HC.out⟩⟩
                case measure => simp [intOf]; omega
    · have d1 : decide ((k : Int) < (s.size : Int)) = false := decide_eq_false (by omega)
      have d1' : decide (k < s.size) = false := decide_eq_false hlt
      have hE : m = R := by
        have := HI.out.2.2.2.2.2
        rw [drop_end (by rw [by_len]; omega), opn] at this
        exact this
      subst hE
      go_wp2_with fail
      go_ret
      exact ⟨rfl, rfl⟩
end Go.Proofs.YtbmoanhdpnaocaaDoor
namespace Go.Proofs.YtbmoanhdpnaocaaDoor
open Go.RowKit Sets Tr Rx
namespace Bk
theorem by_strN {L : List Nat} (h : ∀ c ∈ L, c < 256) : by' (strN L) = L := by
  unfold by' strN
  simp only [List.map_map]
  refine (List.map_congr_left fun c hc => ?_).trans (List.map_id _)
  have := h c hc
  show (UInt8.ofNat c).toNat = c
  rw [UInt8.toNat_ofNat']
  exact Nat.mod_eq_of_lt this
/-- what is known of a right tree's print -/
structure Facts (N : List Nd) (R : List (Int × Bool)) (s : ByteArray) (d : Nat) : Prop where
  op : opn (by' s) false false 0 0 = (d : Int)
  fit : s.size ≤ 200 → plOf N R ≤ 63 → d ≤ 16 → ∃ q ns ps, cons (by' s) = .ok q ns ps ∧ Right ns ps ∧ parts N R = parts ns ps
  not : ¬ (s.size ≤ 200 ∧ plOf N R ≤ 63 ∧ d ≤ 16) → ∃ q, cons (by' s) = .bad true q
theorem facts {N : List Nd} {R : List (Int × Bool)} (hN : ∀ x ∈ N, NdOk x) (hR : Right N R) : Facts N R (strN (prOf N R)) (dP (parts N R)) := by
  have e1 : prOf N R = prParts 0 (parts N R) := by unfold prOf; rw [rightB_true hR]; rfl
  have hb : ∀ c ∈ prOf N R, c < 256 := fun c hc => by have := (pr_facts (R := R) hN).1 c hc; omega
  have h20 : (parts N R).length ≤ 20 := by unfold parts; rw [List.length_map]; exact hR.few.2.1
  have hP := cons_print (parts_ok hR hN) (parts_ne hR) h20 (by rw [← e1]; exact hb)
  rw [← e1] at hP
  refine ⟨?_, ?_, ?_⟩
  · rw [by_strN hb, e1]
    exact opn_print (parts_ok hR hN)
  · intro h1 h2 h3
    rw [size_strN] at h1
    rw [if_pos ⟨h1, h3⟩] at hP
    obtain ⟨ns, ps, r, p, e⟩ := hP
    have hpl : plOf ns ps = plOf N R := by rw [plOf_X r, plOf_X hR, p]
    rw [hpl, if_neg (by omega)] at e
    exact ⟨_, ns, ps, by rw [by_strN hb]; exact e, r, p.symm⟩
  · intro h
    rw [size_strN] at h
    rw [by_strN hb]
    by_cases hc : (prOf N R).length ≤ 200 ∧ dP (parts N R) ≤ 16
    · rw [if_pos hc] at hP
      obtain ⟨ns, ps, r, p, e⟩ := hP
      have hpl : plOf ns ps = plOf N R := by rw [plOf_X r, plOf_X hR, p]
      rw [hpl, if_pos (by omega)] at e
      exact ⟨_, e⟩
    · rw [if_neg hc] at hP
      exact hP
end Bk
end Go.Proofs.YtbmoanhdpnaocaaDoor
