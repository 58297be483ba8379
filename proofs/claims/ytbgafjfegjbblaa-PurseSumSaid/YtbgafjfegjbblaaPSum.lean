/- PurseSum. -/
import Derived.Test.YtbgafjfegjbblaaPPly
namespace Go.Proofs.Ytbgafjfegjbblaa
open Go.RowKit Dbl
theorem more_sum {s : Nat} {n : Int} (h0 : 0 ≤ n) (h : s + n.toNat ≤ M) : more s n = s + n.toNat := by
  unfold more
  split
  · omega
  · exact Nat.min_eq_right h
theorem u64_bounds {n : Int} (h : (Lit.int .u64 n).wf = true) : 0 ≤ n ∧ n ≤ 18446744073709551615 := by
  simp [Lit.wf, IntKind.min, IntKind.max, IntKind.signed, IntKind.bits] at h
  omega
theorem dbl_int64 (d : Nat) (hd : d < 2 ^ 53) : floatToIntVal .f64 (dbl d) .i64 = some (d : Int) := by
  have h := dbl_int d hd
  unfold floatToIntVal
  have h2 : (FloatKind.f64.decode (dbl d)).toInt .zero = some (d : Int) := h
  rw [h2]
  have h3 : IntKind.i64.min ≤ (d : Int) ∧ (d : Int) ≤ IntKind.i64.max := by
    simp only [IntKind.min, IntKind.max, IntKind.signed, IntKind.bits]
    simp
    omega
  simp only [if_pos h3]
set_option maxHeartbeats 1600000 in
set_option maxRecDepth 100000 in
theorem psum_any (b : Nat) (v : Value) (L : List Int) (w : World) (hL : NumsAt .u64 w v L) :
    Calls Try.prog 7 #[.float .f64 b, v] w fun e w' => e = .returned (.bool true) ∧ Below w.heap.size w w' := by
  obtain ⟨h1, h2, a, c, rfl, h3⟩ := hL
  have HL := Lib.hid h3
  have HW := Lib.hid h1
  clear h1 h2 h3
  by_cases hlen : (300 : Int) < (L.length : Int)
  · have hd : decide ((300 : Int) < (L.length : Int)) = true := decide_eq_true hlen
    clear hlen
    go_enter Try.func7, Try.ntmps7
    go_wp2_with fail
    refine (awake_any _).mono ?_
    rintro e w' ⟨rfl, hB⟩
    go_wp2_with fail
    refine bodyPost_ret (results_tmp rfl _ _ _) rfl ?_
    exact ⟨rfl, hB⟩
  · have hd : decide ((300 : Int) < (L.length : Int)) = false := decide_eq_false hlen
    have hl300 : L.length ≤ 300 := by omega
    clear hlen
    go_enter Try.func7, Try.ntmps7
    go_wp2_with fail
    refine (new_is _ _).mono ?_
    rintro e w0 ⟨rfl, hP, hB⟩
    go_wp2_with fail
    go_loopw [6, 7] (fun s i wr => ∃ k t : Nat, k ≤ L.length ∧ i = .int .i64 k ∧ s = .int .i64 (t : Int) ∧ t ≤ k * 1099511627776 ∧ Hid (t ≤ cap b) ∧ PurseAt wr w.heap.size b t ∧ Below w.heap.size w wr) (fun _ i _ => (L.length - intOf i).toNat)
    case atStart => exact ⟨0, 0, Nat.zero_le _, rfl, rfl, Nat.zero_le _, Lib.hid (Nat.zero_le _), hP, hB⟩
    case round =>
      obtain ⟨k, t, hk, rfl, rfl, ht, HC, hP, hB⟩ := hrel
      by_cases hlt : k < L.length
      · obtain ⟨gb, go, rfl, hc0⟩ := HL.out k hlt
        have hglt : gb < w.heap.size := World.block_lt_of_cell? _ _ hc0
        have hc := (hB.cell (p := ⟨gb, go + k, none⟩) hglt).trans hc0
        obtain ⟨n1, n2⟩ := u64_bounds (HW.out _ (getD_mem hlt))
        clear hc0
        generalize L.getD k 0 = x at *
        have hdk : decide ((k : Int) < (L.length : Int)) = true := decide_eq_true (by omega)
        have htm : x.tmod 1099511627776 = ((x.toNat % 1099511627776 : Nat) : Int) := by
          rw [Int.tmod_eq_emod_of_nonneg n1]; omega
        have hm : x.toNat % 1099511627776 < 1099511627776 := Nat.mod_lt _ (by decide)
        generalize x.toNat % 1099511627776 = m at *
        have hmore : more t (m : Int) = t + m := more_sum (by omega) (by unfold M; omega)
        by_cases ho : t + m ≤ cap b
        · have HO := Lib.hid ho
          go_wp2_with fail
          refine (spends_is _ b t m (t + m) true _ hP (by unfold M; omega) (by omega) (by rw [hmore]; exact decide_eq_true ⟨HC.out, HO.out⟩) (by rw [hmore]; exact if_pos HC.out)).mono ?_
          rintro e w1 ⟨rfl, hP1, hB1⟩
          have hB2 := hB1.below hB (Nat.le_refl _) hB.size
          clear hP hB1 hB hc hmore
          go_wp2_with fail
          go_roundw
          case rel => exact ⟨k + 1, t + m, by omega, by go_num, by go_num, by omega, HO, hP1, hB2⟩
          case measure => simp [intOf]; omega
        · have HO := Lib.hid ho
          go_wp2_with fail
          refine (spends_is _ b t m (t + m) false _ hP (by unfold M; omega) (by omega) (by rw [hmore]; exact decide_eq_false (fun q => HO.out q.2)) (by rw [hmore]; exact if_pos HC.out)).mono ?_
          rintro e w1 ⟨rfl, hP1, hB1⟩
          have hB2 := hB1.below hB (Nat.le_refl _) hB.size
          clear hP hB1 hB hc hmore
          go_wp2_with fail
          refine (awake_any _).mono ?_
          rintro e w' ⟨rfl, hB3⟩
          go_wp2_with fail
          refine bodyPost_ret (results_tmp rfl _ _ _) rfl ?_
          exact ⟨rfl, hB2.trans (hB3.mono hB2.size)⟩
      · have hc' : k = L.length := by omega
        subst hc'
        have ht2 : t < 2 ^ 49 := by omega
        have hmore : more 0 (t : Int) = t := by rw [more_sum (by omega) (by unfold M; omega)]; omega
        obtain ⟨r, hr, hrr, hcase⟩ := left_sum b t ht2 HC.out
        have HT := Lib.hid ht2
        have HR := Lib.hid hr
        have HCASE := Lib.hid hcase
        have HMORE := Lib.hid hmore
        have htM : t ≤ M := by unfold M; omega
        have HTM := Lib.hid htM
        have e1 : (FloatKind.f64.format.order r r != some .eq) = false := by
          have : FloatKind.f64.format.order r r = some .eq := hrr
          rw [this]; rfl
        clear ht ht2 hr hcase hmore htM hrr hk hlt
        go_wp2_with fail
        refine (new_is _ _).mono ?_
        rintro e w1 ⟨rfl, hQ, hB1⟩
        have hPQ := hP.lt
        replace hP := hP.kept (hB1.block _ hP.lt)
        have hwq := hB.size
        replace hB := hB.trans (hB1.mono hB.size)
        clear hB1
        generalize wr.heap.size = Q at *
        have hwt : IntKind.u64.wrap (t : Int) = (t : Int) := by
          have := HT.out
          unfold IntKind.wrap; simp [IntKind.signed, IntKind.bits]; omega
        go_wp2_with fail
        refine (spends_is _ b 0 t t true _ hQ (by decide) (by have := HT.out; omega) (by rw [HMORE.out]; exact decide_eq_true ⟨Nat.zero_le _, HC.out⟩) (by rw [HMORE.out]; exact if_pos (Nat.zero_le _))).mono ?_
        rintro e w2 ⟨rfl, hQ2, hB2⟩
        have hP2 := hB2.purse hP (Nat.ne_of_lt hPQ)
        replace hB := hB2.below hB hwq hB.size
        clear hP hQ hB2
        go_wp2_with fail
        refine (spent_any _ _ t _ hQ2).mono ?_
        rintro e w' ⟨rfl, rfl⟩
        go_wp2_with fail
        refine (spent_any _ _ t _ hP2).mono ?_
        rintro e w' ⟨rfl, rfl⟩
        go_wp2_with fail
        refine (spent_any _ _ t _ hQ2).mono ?_
        rintro e w' ⟨rfl, rfl⟩
        go_wp2_with fail
        refine (left_any _ _ t r _ hP2 HTM.out HR.out).mono ?_
        rintro e w3 ⟨rfl, hB3⟩
        have hP := hP2.kept (hB3.block _ hP2.lt)
        have hQ := hQ2.kept (hB3.block _ hQ2.lt)
        replace hB := hB.trans (hB3.mono hB.size)
        clear hP2 hQ2 hB3
        go_wp2_with fail
        refine (left_any _ _ t r _ hQ HTM.out HR.out).mono ?_
        rintro e w4 ⟨rfl, hB4⟩
        have hP2 := hP.kept (hB4.block _ hP.lt)
        replace hB := hB.trans (hB4.mono hB.size)
        clear hP hQ hB4
        go_wp2_with fail
        refine (left_any _ _ t r _ hP2 HTM.out HR.out).mono ?_
        rintro e w5 ⟨rfl, hB5⟩
        have hP := hP2.kept (hB5.block _ hP2.lt)
        replace hB := hB.trans (hB5.mono hB.size)
        clear hP2 hB5
        by_cases hg : (FloatKind.f64.format.order r 4832362400168542208 == some .gt) = true
        · go_wp2_with fail
          refine (awake_any _).mono ?_
          rintro e w6 ⟨rfl, hB6⟩
          go_wp2_with fail
          refine bodyPost_ret (results_tmp rfl _ _ _) rfl ?_
          exact ⟨rfl, hB.trans (hB6.mono hB.size)⟩
        · have hg' : (FloatKind.f64.format.order r 4832362400168542208 == some .gt) = false := by simpa using hg
          obtain ⟨d, hd53, hrd, hcap⟩ := HCASE.out.resolve_left (fun q => hg (beq_iff_eq.2 q))
          subst hrd
          have hlt0 : (FloatKind.f64.format.order (dbl d) 0 == some .lt) = false := by
            have := dbl_not_neg d hd53
            rw [beq_eq_false_iff_ne]
            exact this
          have hfl := floor_any (dbl d) (dbl_nan d hd53)
          rw [dbl_floor d hd53] at hfl
          have hnan := isnan_is (dbl d) false e1
          have hcv := fun w => run_convert_float_int (P := Try.prog) w 24 3 .f64 .i64 (dbl d) _ (by kernel_rfl) Try.underlying3 (dbl_int64 d hd53)
          have hm1 : more t (d : Int) = t + d := by rw [more_sum (by omega) (by have := HT.out; unfold M; omega)]; omega
          have hm2 : more (t + d) 1 = t + d + 1 := by rw [more_sum (by omega) (by have := HT.out; unfold M; omega)]; rfl
          have HM1 := Lib.hid hm1
          have HM2 := Lib.hid hm2
          have HCAP := Lib.hid hcap
          have HFL := Lib.hid hfl
          have HNAN := Lib.hid hnan
          clear hg HCASE hm1 hm2 hcap hfl hnan
          go_wp2_with fail
          refine (HNAN.out _).mono ?_
          rintro e w' ⟨rfl, rfl⟩
          go_wp2_with fail
          refine (HFL.out _).mono ?_
          rintro e w' ⟨rfl, rfl⟩
          go_wp2_with fail
          refine (spends_is _ b t d (t + d) true _ hP HTM.out (by omega) (by rw [HM1.out, HCAP.out]; exact decide_eq_true ⟨by omega, by omega⟩) (by rw [HM1.out, HCAP.out]; exact if_pos (by omega))).mono ?_
          rintro e w6 ⟨rfl, hP6, hB6⟩
          replace hB := hB6.below hB (Nat.le_refl _) hB.size
          clear hP hB6
          go_wp2_with fail
          refine (spends_is _ b (t + d) 1 (t + d + 1) false _ hP6 (by have := HT.out; unfold M; omega) (by omega) (by rw [HM2.out, HCAP.out]; exact decide_eq_false (fun q => by omega)) (by rw [HM2.out, HCAP.out]; exact if_pos (by omega))).mono ?_
          rintro e w7 ⟨rfl, hP7, hB7⟩
          replace hB := hB7.below hB (Nat.le_refl _) hB.size
          clear hP6 hP7 hB7
          go_wp2_with fail
          refine (awake_any _).mono ?_
          rintro e w8 ⟨rfl, hB8⟩
          replace hB := hB.trans (hB8.mono hB.size)
          go_wp2_with fail
          go_ret
          exact ⟨rfl, hB⟩
end Go.Proofs.Ytbgafjfegjbblaa
