/- PursePlays. -/
import Derived.Test.YtbgafjfegjbblaaRAff
import Derived.Test.YtbgafjfegjbblaaNums
namespace Go.Proofs.Ytbgafjfegjbblaa
open Go.RowKit Dbl
theorem ref_more (s : Nat) (n : Int) (w : World) (hs : s ≤ M) (hn1 : -9223372036854775808 ≤ n) (hn2 : n ≤ 9223372036854775807) :
    Calls Try.prog 24 #[.int .u64 (s : Int), .int .i64 n] w fun e w' => e = .returned (.int .u64 (more s n : Int)) ∧ w = w' := by
  by_cases hn : n < 1
  · have hd : decide (n < 1) = true := decide_eq_true hn
    have hm : more s n = s := if_pos hn
    rw [hm]
    clear hm
    go_enter Try.func24, Try.ntmps24
    go_wp2_with fail
    refine bodyPost_ret (results_tmp rfl _ _ _) rfl ?_
    exact ⟨rfl, rfl⟩
  · have hd : decide (n < 1) = false := decide_eq_false hn
    have hwn : IntKind.u64.wrap n = n := by
      unfold IntKind.wrap; simp [IntKind.signed, IntKind.bits]; omega
    have hw1 : IntKind.u64.wrap (18446744073709551615 - (s : Int)) = 18446744073709551615 - (s : Int) := by
      unfold IntKind.wrap; unfold M at hs; simp [IntKind.signed, IntKind.bits]; omega
    by_cases hg : 18446744073709551615 - (s : Int) < n
    · have hd2 : decide (18446744073709551615 - (s : Int) < n) = true := decide_eq_true hg
      have hm : more s n = 18446744073709551615 := by unfold more; rw [if_neg hn]; unfold M; omega
      rw [hm]
      clear hm
      go_enter Try.func24, Try.ntmps24
      go_wp2_with fail
      refine bodyPost_ret (results_tmp rfl _ _ _) rfl ?_
      exact ⟨rfl, rfl⟩
    · have hd2 : decide (18446744073709551615 - (s : Int) < n) = false := decide_eq_false hg
      have hw2 : IntKind.u64.wrap ((s : Int) + n) = (more s n : Int) := by
        unfold more; rw [if_neg hn]; unfold M
        unfold IntKind.wrap; simp [IntKind.signed, IntKind.bits]; omega
      generalize more s n = t at *
      go_enter Try.func24, Try.ntmps24
      go_wp2_with fail
      go_ret
      exact ⟨rfl, rfl⟩
theorem i64_bounds {n : Int} (h : (Lit.int .i64 n).wf = true) : -9223372036854775808 ≤ n ∧ n ≤ 9223372036854775807 := by
  simp [Lit.wf, IntKind.min, IntKind.max, IntKind.signed, IntKind.bits] at h
  omega
theorem getD_mem {L : List Int} {k : Nat} (h : k < L.length) : L.getD k 0 ∈ L := by
  rw [List.getD_eq_getElem?_getD, List.getElem?_eq_getElem h]
  exact List.getElem_mem h
theorem affords_is (b n : Nat) (r : Bool) (w : World) (hb : b < 2 ^ 64) (hn : n ≤ M) (hr : decide (n ≤ cap b) = r) :
    Calls Try.prog 23 #[.float .f64 b, .int .u64 (n : Int)] w fun e w' => e = .returned (.bool r) ∧ w = w' := by subst hr; exact ref_affords b n w hb hn
theorem NumsAt.below {k : IntKind} {w w' : World} {v : Value} {l : List Int} (h : NumsAt k w v l) (hb : Below w.heap.size w w') : NumsAt k w' v l := by
  obtain ⟨h1, h2, a, c, rfl, h3⟩ := h
  refine ⟨h1, h2, a, c, rfl, fun i hi => ?_⟩
  obtain ⟨b, o, rfl, hc⟩ := h3 i hi
  exact ⟨b, o, rfl, (hb.cell (p := ⟨b, o + i, none⟩) (World.block_lt_of_cell? _ _ hc)).trans hc⟩
set_option maxHeartbeats 1600000 in
set_option maxRecDepth 100000 in
theorem pplays_any (b : Nat) (v : Value) (L : List Int) (w : World) (hb : b < 2 ^ 64) (hL : NumsAt .i64 w v L) :
    Calls Try.prog 4 #[.float .f64 b, v] w fun e w' => e = .returned (.bool true) ∧ Below w.heap.size w w' := by
  obtain ⟨h1, h2, a, c, rfl, h3⟩ := hL
  have HL := Lib.hid h3
  have HW := Lib.hid h1
  clear h1 h2 h3
  by_cases hlen : (300 : Int) < (L.length : Int)
  · have hd : decide ((300 : Int) < (L.length : Int)) = true := decide_eq_true hlen
    clear hlen
    go_enter Try.func4, Try.ntmps4
    go_wp2_with fail
    refine (awake_any _).mono ?_
    rintro e w' ⟨rfl, hB⟩
    go_wp2_with fail
    refine bodyPost_ret (results_tmp rfl _ _ _) rfl ?_
    exact ⟨rfl, hB⟩
  · have hd : decide ((300 : Int) < (L.length : Int)) = false := decide_eq_false hlen
    have hl300 : L.length ≤ 300 := by omega
    clear hlen
    go_enter Try.func4, Try.ntmps4
    go_wp2_with fail
    refine (new_is _ _).mono ?_
    rintro e w0 ⟨rfl, hP, hB⟩
    go_wp2_with fail
    go_loopw [6, 7] (fun s i wr => ∃ k t : Nat, k ≤ L.length ∧ i = .int .i64 k ∧ s = .int .u64 (t : Int) ∧ t ≤ M ∧ PurseAt wr w.heap.size b t ∧ Below w.heap.size w wr) (fun _ i _ => (L.length - intOf i).toNat)
    case atStart => exact ⟨0, 0, Nat.zero_le _, rfl, rfl, Nat.zero_le _, hP, hB⟩
    case round =>
      obtain ⟨k, t, hk, rfl, rfl, ht, hP, hB⟩ := hrel
      by_cases hlt : k < L.length
      · obtain ⟨gb, go, rfl, hc0⟩ := HL.out k hlt
        have hglt : gb < w.heap.size := World.block_lt_of_cell? _ _ hc0
        have hc := (hB.cell (p := ⟨gb, go + k, none⟩) hglt).trans hc0
        obtain ⟨n1, n2⟩ := i64_bounds (HW.out _ (getD_mem hlt))
        clear hc0
        generalize L.getD k 0 = n at *
        have hdk : decide ((k : Int) < (L.length : Int)) = true := decide_eq_true (by omega)
        have hm := more_le ht n
        by_cases hin : t ≤ cap b
        · by_cases ho : more t n ≤ cap b
          · go_wp2_with fail
            refine (affords_is b t true _ hb ht (decide_eq_true hin)).mono ?_
            rintro e w' ⟨rfl, rfl⟩
            go_wp2_with fail
            refine (spends_is _ b t n (more t n) true _ hP ht n2 (decide_eq_true ⟨hin, ho⟩) (if_pos hin)).mono ?_
            rintro e w1 ⟨rfl, hP1, hB1⟩
            have hB2 := hB1.below hB (Nat.le_refl _) hB.size
            replace hc := hB1.cell hc (Nat.ne_of_lt hglt)
            clear hP hB1 hB
            go_wp2_with fail
            refine (ref_more t n _ ht n1 n2).mono ?_
            rintro e w' ⟨rfl, rfl⟩
            generalize more t n = u at *
            go_wp2_with fail
            refine (affords_is b u true _ hb hm (decide_eq_true ho)).mono ?_
            rintro e w' ⟨rfl, rfl⟩
            go_wp2_with fail
            refine (spent_any _ _ u _ hP1).mono ?_
            rintro e w' ⟨rfl, rfl⟩
            go_wp2_with fail
            refine (over_is _ _ u false _ hP1 hm (by rw [decide_eq_true ho]; rfl)).mono ?_
            rintro e w' ⟨rfl, rfl⟩
            go_wp2_with fail
            go_roundw
            case rel => exact ⟨k + 1, u, by omega, by go_num, rfl, hm, hP1, hB2⟩
            case measure => simp [intOf]; omega
          · go_wp2_with fail
            refine (affords_is b t true _ hb ht (decide_eq_true hin)).mono ?_
            rintro e w' ⟨rfl, rfl⟩
            go_wp2_with fail
            refine (spends_is _ b t n (more t n) false _ hP ht n2 (decide_eq_false (fun q => ho q.2)) (if_pos hin)).mono ?_
            rintro e w1 ⟨rfl, hP1, hB1⟩
            have hB2 := hB1.below hB (Nat.le_refl _) hB.size
            replace hc := hB1.cell hc (Nat.ne_of_lt hglt)
            clear hP hB1 hB
            go_wp2_with fail
            refine (ref_more t n _ ht n1 n2).mono ?_
            rintro e w' ⟨rfl, rfl⟩
            generalize more t n = u at *
            go_wp2_with fail
            refine (affords_is b u false _ hb hm (decide_eq_false ho)).mono ?_
            rintro e w' ⟨rfl, rfl⟩
            go_wp2_with fail
            refine (spent_any _ _ u _ hP1).mono ?_
            rintro e w' ⟨rfl, rfl⟩
            go_wp2_with fail
            refine (over_is _ _ u true _ hP1 hm (by rw [decide_eq_false ho]; rfl)).mono ?_
            rintro e w' ⟨rfl, rfl⟩
            go_wp2_with fail
            go_roundw
            case rel => exact ⟨k + 1, u, by omega, by go_num, rfl, hm, hP1, hB2⟩
            case measure => simp [intOf]; omega
        · go_wp2_with fail
          refine (affords_is b t false _ hb ht (decide_eq_false hin)).mono ?_
          rintro e w' ⟨rfl, rfl⟩
          go_wp2_with fail
          refine (spends_is _ b t n t false _ hP ht n2 (decide_eq_false (fun q => hin q.1)) (if_neg hin)).mono ?_
          rintro e w1 ⟨rfl, hP1, hB1⟩
          have hB2 := hB1.below hB (Nat.le_refl _) hB.size
          clear hP hB1 hB hm
          go_wp2_with fail
          refine (spent_any _ _ t _ hP1).mono ?_
          rintro e w' ⟨rfl, rfl⟩
          go_wp2_with fail
          go_roundw
          case rel => exact ⟨k + 1, t, by omega, by go_num, rfl, ht, hP1, hB2⟩
          case measure => simp [intOf]; omega
      · have hc' : k = L.length := by omega
        subst hc'
        go_wp2_with fail
        refine (awake_any _).mono ?_
        rintro e w' ⟨rfl, hB2⟩
        go_wp2_with fail
        go_ret
        exact ⟨rfl, hB.trans (hB2.mono hB.size)⟩
end Go.Proofs.Ytbgafjfegjbblaa
