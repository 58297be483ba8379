/- TreePlain. -/
import Derived.Test.YtpchahlnnbgpkaaDoorTreY
import Derived.Test.YtpchahlnnbgpkaaDoorTreG
namespace Go.Proofs.YtpchahlnnbgpkaaDoor
open Go.RowKit Sets Tr
theorem parts_ok {N : List Nd} {R : List (Int × Bool)} (h : Right N R) (hN : ∀ x ∈ N, NdOk x) : ∀ p ∈ parts N R, OkX p.1 := by
  intro p hp
  obtain ⟨q, hq, rfl⟩ := List.mem_map.1 hp
  have hq2 := h.rts q.1 (List.mem_map.2 ⟨q, hq, rfl⟩)
  obtain ⟨t, ht, hrt⟩ := is_of_low h.low q.1.toNat (by omega)
  show OkX (abs N (tr N q.1.toNat))
  rw [← hrt, tr_of ht]
  refine okX_abs h.snd (fun i hi => ?_) t ht
  exact (hN _ (by rw [List.getD_eq_getElem?_getD, List.getElem?_eq_getElem hi]; exact List.getElem_mem hi)).s
theorem parts_ne {N : List Nd} {R : List (Int × Bool)} (h : Right N R) : parts N R ≠ [] := by
  intro e
  have := congrArg List.length e
  have h1 := h.few.1
  unfold parts at this
  rw [List.length_map] at this
  simp at this
  rw [this] at h1
  simp at h1
/-- What TreePlain asks of a print. -/
theorem pr_facts {N : List Nd} {R : List (Int × Bool)} (hN : ∀ x ∈ N, NdOk x) : (∀ c ∈ prOf N R, 33 ≤ c ∧ c ≤ 126) ∧ scan (prOf N R) 0 false false = some (0, false) ∧ ((prOf N R).isEmpty = !rightB N R) ∧ dpOf N R ≤ N.length ∧ plOf N R ≤ 1073741824 := by
  by_cases h : Right N R
  · have hb := rightB_true h
    have e : prOf N R = prParts 0 (parts N R) := by unfold prOf; rw [hb]; rfl
    have hok := parts_ok h hN
    rw [e, hb]
    refine ⟨prParts_plain _ 0 hok, scan_all hok, ?_, ?_, ?_⟩
    · have := prParts_ne (parts_ne h)
      cases hh : prParts 0 (parts N R) with
      | nil => exact absurd hh this
      | cons a t => rfl
    · unfold dpOf; rw [hb]; exact depth_le h
    · unfold plOf; rw [hb]; exact Nat.min_le_right _ _
  · have hb := rightB_false h
    have e : prOf N R = [] := by unfold prOf; rw [hb]; rfl
    rw [e, hb]
    refine ⟨fun c hc => (by cases hc), rfl, rfl, ?_, ?_⟩
    · unfold dpOf; rw [hb]; exact Nat.zero_le _
    · unfold plOf; rw [hb]; exact Nat.zero_le _
theorem size_strN (P : List Nat) : (strN P).size = P.length := by
  unfold strN
  show (List.toArray _).size = _
  simp
theorem index_strN (P : List Nat) (hP : ∀ c ∈ P, c < 256) (k : Nat) (h : k < P.length) (w : World) : (Instr.index 9 (.string (strN P)) (.int .i64 k)).run Tryd.prog w = .ok (.int .u8 (P.getD k 0 : Nat)) w := by
  rw [run_index_string w _ _ _ _ Tryd.underlying9, dif_pos ⟨by omega, by rw [size_strN]; omega⟩]
  congr 3
  have hc := hP (P.getD k 0) (by rw [List.getD_eq_getElem?_getD, List.getElem?_eq_getElem h]; exact List.getElem_mem h)
  rw [List.getD_eq_getElem?_getD, List.getElem?_eq_getElem h, Option.getD_some] at hc ⊢
  have e : ((strN P)[k]'(by rw [size_strN]; exact h)).toNat = P[k] := by
    show ((P.map UInt8.ofNat).toArray[k]'(by simpa using h)).toNat = _
    simp only [List.getElem_toArray, List.getElem_map, UInt8.toNat_ofNat']
    omega
  simp only [Int.toNat_natCast]
  omega
theorem scan_step (c : Nat) (r : List Nat) (o : Nat) (b : Bool) : scan (c :: r) o b false = if c = 92 then scan r o b true else if b then scan r o (decide (c ≠ 93)) false else if c = 91 then scan r o true false else if c = 40 then scan r (o + 1) b false else if c = 41 then (if o = 0 then none else scan r (o - 1) b false) else scan r o b false := rfl
theorem scan_skip (c : Nat) (r : List Nat) (o : Nat) (b : Bool) : scan (c :: r) o b true = scan r o b false := rfl
theorem isEmpty_strN (P : List Nat) : (strN P).toList.isEmpty = P.isEmpty := by
  rw [ByteArray.toList_eq]
  unfold strN
  cases P <;> rfl
def Uns (w : World) (na pa : Option Addr) (nc pc : Nat) (N : List Nd) (R : List (Int × Bool)) : Prop :=
  greatB N.length R.length = false → NodesAt w (.slice na N.length nc) N ∧ PartsAt w (.slice pa R.length pc) R
set_option maxHeartbeats 6400000 in
set_option maxRecDepth 100000 in
theorem plain_any (na pa : Option Addr) (nc pc : Nat) (N : List Nd) (R : List (Int × Bool)) (w : World) (hU : Uns w na pa nc pc N R) (hT : Tab w) :
    Calls Tryd.prog 6 #[.agg #[.slice na N.length nc, .slice pa R.length pc]] w fun e w' => e = .returned (.bool true) ∧ Below w.heap.size w w' := by
  have HT := Lib.hid hT
  have hg := fun w => great_any na pa N.length nc R.length pc w
  have hb0 := (Below.refl w.heap.size w).alloc (Nat.le_refl _) (.cells #[.slice na N.length nc, .slice pa R.length pc] 33)
  have HB0 := Lib.hid hb0
  have HS0 : Hid (w.heap.size < (w.alloc (.cells #[.slice na N.length nc, .slice pa R.length pc] 33)).heap.size) := Lib.hid (by simp)
  have HC0 : Hid ((w.alloc (.cells #[.slice na N.length nc, .slice pa R.length pc] 33)).cell? ⟨w.heap.size, 0, none⟩ = some (.slice na N.length nc)) := Lib.hid (by simp)
  have HC1 : Hid ((w.alloc (.cells #[.slice na N.length nc, .slice pa R.length pc] 33)).cell? ⟨w.heap.size, 1, none⟩ = some (.slice pa R.length pc)) := Lib.hid (by simp)
  clear hT hb0
  go_enter Tryd.func6, Tryd.ntmps6
  cases hgr : greatB N.length R.length
  case true =>
    rw [hgr] at hg
    have HG := Lib.hid hg
    clear hg hgr
    go_wp2_with fail
    refine (HG.out _).mono ?_
    rintro e w2 ⟨rfl, hB2⟩
    have HB2 := Lib.hid (HB0.out.trans (hB2.mono HB0.out.size))
    clear hB2
    go_wp2_with fail
    refine (awake_any _ (HT.out.below HB2.out (tab_lt HT.out))).mono ?_
    rintro e w3 ⟨rfl, hB3⟩
    have HB3 := Lib.hid (HB2.out.trans (hB3.mono HB2.out.size))
    clear hB3
    go_wp2_with fail
    go_ret
    exact ⟨rfl, HB3.out⟩
  case false =>
    obtain ⟨hN, hP⟩ := hU hgr
    rw [hgr] at hg
    have HG := Lib.hid hg
    obtain ⟨hp1, hp2, hp3, hp4, hp5⟩ := pr_facts (R := R) hN.1
    have HN := Lib.hid hN
    have HP := Lib.hid hP
    clear hg hgr hN hP
    go_wp2_with fail
    refine (HG.out _).mono ?_
    rintro e w2 ⟨rfl, hB2⟩
    have HB2 := Lib.hid (HB0.out.trans (hB2.mono HB0.out.size))
    have hS2 : w.heap.size < w2.heap.size := Nat.lt_of_lt_of_le HS0.out hB2.size
    have hc0 := (hB2.cell HS0.out).trans HC0.out
    have hc1 := (hB2.cell HS0.out).trans HC1.out
    have HPr := Lib.hid (print_any _ _ N R w2 (HN.out.kept HB2.out) (HP.out.kept HB2.out) (HT.out.below HB2.out (tab_lt HT.out)) (tab_lt (HT.out.below HB2.out (tab_lt HT.out))))
    clear hB2
    go_wp2_with fail
    refine HPr.out.mono ?_
    rintro e w3 ⟨rfl, hB3⟩
    have HB3 := Lib.hid (HB2.out.trans (hB3.mono HB2.out.size))
    have hd0 := (hB3.cell hS2).trans hc0
    have hd1 := (hB3.cell hS2).trans hc1
    have hS3 : w.heap.size < w3.heap.size := Nat.lt_of_lt_of_le hS2 hB3.size
    have HRt := Lib.hid (right_any _ _ N R w3 (HN.out.kept HB3.out) (HP.out.kept HB3.out))
    have hsz := size_strN (prOf N R)
    have hq : ((!(strN (prOf N R)).toList.isEmpty) == rightB N R) = true := by rw [isEmpty_strN, hp3, Bool.not_not]; exact beq_self_eq_true _
    clear hB3 hc0 hc1 hS2 HPr HB2
    go_wp2_with fail
    refine HRt.out.mono ?_
    rintro e w4 ⟨rfl, hB4⟩
    have HB4 := Lib.hid (HB3.out.trans (hB4.mono HB3.out.size))
    have he0 := (hB4.cell hS3).trans hd0
    have he1 := (hB4.cell hS3).trans hd1
    have hS4 : w.heap.size < w4.heap.size := Nat.lt_of_lt_of_le hS3 hB4.size
    clear hB4 hd0 hd1 hS3 HRt HB3
    go_wp2_with fail
    have hix := index_strN (prOf N R) (fun c hc => by have := hp1 c hc; omega)
    have hpl : (prOf N R).length ≤ 100000000 := by
      unfold prOf
      split
      · rename_i hb
        have hr := rightB_iff.1 hb
        have h1 := prParts_len N R 0
        have h2 := sSum_all hr
        have h3 := hr.few
        show (prParts 0 (parts N R)).length ≤ _
        omega
      · exact Nat.zero_le _
    have HP1 := Lib.hid hp1
    have HP4 := Lib.hid hp4
    have HP5 := Lib.hid hp5
    have HIX := Lib.hid hix
    have HD := Lib.hid (depth_any (.slice na N.length nc) (.slice pa R.length pc) N R)
    have HL := Lib.hid (places_any (.slice na N.length nc) (.slice pa R.length pc) N R)
    generalize prOf N R = P at *
    clear hp1 hp3 hp4 hp5 hix hq hU
    go_loopw [6, 4, 5] (fun x y z wr => ∃ (k o : Nat) (b : Bool), x = .int .i64 k ∧ y = .int .i64 o ∧ z = .bool b ∧ k ≤ P.length + 1 ∧ o ≤ k ∧ Hid (scan (P.drop k) o b false = some (0, false)) ∧ wr = w4) (fun x _ _ _ => (P.length + 1 - intOf x).toNat)
    case atStart => exact ⟨0, 0, false, rfl, rfl, rfl, Nat.zero_le _, Nat.le_refl _, Lib.hid hp2, rfl⟩
    case round =>
      obtain ⟨k, o, b, rfl, rfl, rfl, hk, hok, HS, rfl⟩ := hrel
      generalize hwr : wr = w5 at *
      clear hwr wr
      by_cases hkl : k < P.length
      · have hd := List.drop_eq_getElem_cons hkl
        have hi := HIX.out k hkl
        have hpc := HP1.out (P.getD k 0) (by rw [List.getD_eq_getElem?_getD, List.getElem?_eq_getElem hkl]; exact List.getElem_mem hkl)
        have hg : P[k] = P.getD k 0 := by rw [List.getD_eq_getElem?_getD, List.getElem?_eq_getElem hkl]; rfl
        rw [hg] at hd
        have hs := HS.out
        rw [hd] at hs
        generalize P.getD k 0 = c at *
        have hdk : decide ((k : Int) < (P.length : Int)) = true := decide_eq_true (by omega)
        have d33 : decide ((c : Int) < 33) = false := decide_eq_false (by omega)
        have d126 : decide ((126 : Int) < c) = false := decide_eq_false (by omega)
        rw [scan_step] at hs
        have HS2 := Lib.hid hs
        clear hs hd hg HS
        by_cases h92 : c = 92
        · have g : ((c : Int) == 92) = true := by rw [beq_iff_eq]; omega
          have e := HS2.out
          rw [if_pos h92] at e
          have HE := Lib.hid e
          clear e h92
          go_wp2_with fail
          go_roundw
          case rel =>
            refine ⟨k + 2, o, b, by go_num, rfl, rfl, by omega, by omega, Lib.hid ?_, by first | rfl | trivial⟩
            have := HE.out
            cases hdd : P.drop (k + 1) with
            | nil =>
              rw [hdd] at this
              rw [show k + 2 = k + 1 + 1 from rfl, ← List.drop_drop, hdd]
              exact this
            | cons d r =>
              rw [hdd, scan_skip] at this
              rw [show k + 2 = k + 1 + 1 from rfl, ← List.drop_drop, hdd]
              exact this
          case measure => simp only [intOf]; omega
        · have g92 : ((c : Int) == 92) = false := by rw [beq_eq_false_iff_ne]; omega
          have e := HS2.out
          rw [if_neg h92] at e
          have HE := Lib.hid e
          clear e h92
          cases b
          · have e2 := HE.out
            rw [if_neg (by decide)] at e2
            have HE2 := Lib.hid e2
            clear e2 HE
            by_cases h91 : c = 91
            · have g : ((c : Int) == 91) = true := by rw [beq_iff_eq]; omega
              have e := HE2.out
              rw [if_pos h91] at e
              have HE := Lib.hid e
              clear e h91 HE2
              go_wp2_with fail
              go_roundw
              case rel => exact ⟨k + 1, o, true, by go_num, by first | rfl | go_num, rfl, by omega, by omega, Lib.hid HE.out, by first | rfl | trivial⟩
              case measure => simp only [intOf]; omega
            · have g91 : ((c : Int) == 91) = false := by rw [beq_eq_false_iff_ne]; omega
              have e := HE2.out
              rw [if_neg h91] at e
              have HE3 := Lib.hid e
              clear e h91 HE2
              by_cases h40 : c = 40
              · have g : ((c : Int) == 40) = true := by rw [beq_iff_eq]; omega
                have e := HE3.out
                rw [if_pos h40] at e
                have HE := Lib.hid e
                have d0 : decide ((o : Int) + 1 < 0) = false := decide_eq_false (by omega)
                clear e h40 HE3
                go_wp2_with fail
                go_roundw
                case rel => exact ⟨k + 1, (o + 1), false, by go_num, by first | rfl | go_num, rfl, by omega, by omega, Lib.hid HE.out, by first | rfl | trivial⟩
                case measure => simp only [intOf]; omega
              · have g40 : ((c : Int) == 40) = false := by rw [beq_eq_false_iff_ne]; omega
                have e := HE3.out
                rw [if_neg h40] at e
                have HE4 := Lib.hid e
                clear e h40 HE3
                by_cases h41 : c = 41
                · have g : ((c : Int) == 41) = true := by rw [beq_iff_eq]; omega
                  have e := HE4.out
                  rw [if_pos h41] at e
                  obtain ⟨q, rfl⟩ : ∃ q, o = q + 1 := by
                    by_cases ho : o = 0
                    · rw [if_pos ho] at e; cases e
                    · exact ⟨o - 1, by omega⟩
                  rw [if_neg (by omega), Nat.add_sub_cancel] at e
                  have HE := Lib.hid e
                  clear e h41 HE4
                  go_wp2_with fail
                  go_roundw
                  case rel => exact ⟨k + 1, q, false, by go_num, by first | rfl | go_num, rfl, by omega, by omega, Lib.hid HE.out, by first | rfl | trivial⟩
                  case measure => simp only [intOf]; omega
                · have g41 : ((c : Int) == 41) = false := by rw [beq_eq_false_iff_ne]; omega
                  have e := HE4.out
                  rw [if_neg h41] at e
                  have HE := Lib.hid e
                  clear e h41 HE4
                  go_wp2_with fail
                  go_roundw
                  case rel => exact ⟨k + 1, o, false, by go_num, by first | rfl | go_num, rfl, by omega, by omega, Lib.hid HE.out, by first | rfl | trivial⟩
                  case measure => simp only [intOf]; omega
          · have e2 := HE.out
            rw [if_pos rfl] at e2
            have HE2 := Lib.hid e2
            clear e2 HE
            by_cases h93 : c = 93
            · have g : ((c : Int) != 93) = false := by rw [bne_eq_false_iff_eq]; omega
              have e := HE2.out
              rw [decide_eq_false (by omega)] at e
              have HE := Lib.hid e
              clear e h93 HE2
              go_wp2_with fail
              go_roundw
              case rel => exact ⟨k + 1, o, false, by go_num, by first | rfl | go_num, rfl, by omega, by omega, Lib.hid HE.out, by first | rfl | trivial⟩
              case measure => simp only [intOf]; omega
            · have g : ((c : Int) != 93) = true := by rw [bne_iff_ne]; omega
              have e := HE2.out
              rw [decide_eq_true (by omega)] at e
              have HE := Lib.hid e
              clear e h93 HE2
              go_wp2_with fail
              go_roundw
              case rel => exact ⟨k + 1, o, true, by go_num, by first | rfl | go_num, rfl, by omega, by omega, Lib.hid HE.out, by first | rfl | trivial⟩
              case measure => simp only [intOf]; omega
      · have hdr : P.drop k = [] := List.drop_eq_nil_of_le (by omega)
        have hs := HS.out
        rw [hdr] at hs
        have hdk : decide (k < P.length) = false := decide_eq_false (by omega)
        unfold scan at hs
        injection hs with hs
        injection hs with ho hb
        subst ho hb
        clear hdr HS hkl
        go_wp2_with fail
        refine (HD.out _ (HN.out.kept HB4.out) (HP.out.kept HB4.out)).mono ?_
        rintro e w6 ⟨rfl, hB6⟩
        have HB6 := Lib.hid (HB4.out.trans (hB6.mono HB4.out.size))
        have hf0 := (hB6.cell hS4).trans he0
        have hf1 := (hB6.cell hS4).trans he1
        have hS6 : w.heap.size < w6.heap.size := Nat.lt_of_lt_of_le hS4 hB6.size
        have hdd : decide (((dpOf N R : Nat) : Int) ≤ (N.length : Int)) = true := decide_eq_true (by have := HP4.out; omega)
        have hdd2 : decide (dpOf N R ≤ N.length) = true := decide_eq_true HP4.out
        clear hB6 he0 he1 hS4
        go_wp2_with fail
        refine (HL.out _ (HN.out.kept HB6.out) (HP.out.kept HB6.out)).mono ?_
        rintro e w7 ⟨rfl, hB7⟩
        have HB7 := Lib.hid (HB6.out.trans (hB7.mono HB6.out.size))
        have hf2 := (hB7.cell hS6).trans hf0
        have hf3 := (hB7.cell hS6).trans hf1
        have hS7 : w.heap.size < w7.heap.size := Nat.lt_of_lt_of_le hS6 hB7.size
        have hl0 : decide ((0 : Int) ≤ ((plOf N R : Nat) : Int)) = true := decide_eq_true (by omega)
        clear hB7 hf0 hf1 hS6
        go_wp2_with fail
        refine (HL.out _ (HN.out.kept HB7.out) (HP.out.kept HB7.out)).mono ?_
        rintro e w8 ⟨rfl, hB8⟩
        have HB8 := Lib.hid (HB7.out.trans (hB8.mono HB7.out.size))
        have hl1 : decide (((plOf N R : Nat) : Int) ≤ 1073741824) = true := decide_eq_true (by have := HP5.out; omega)
        clear hB8 hf2 hf3 hS7
        go_wp2_with fail
        refine (awake_any _ (HT.out.below HB8.out (tab_lt HT.out))).mono ?_
        rintro e w9 ⟨rfl, hB9⟩
        have HB9 := Lib.hid (HB8.out.trans (hB9.mono HB8.out.size))
        clear hB9
        go_wp2_with fail
        go_ret
        exact ⟨rfl, HB9.out⟩
end Go.Proofs.YtpchahlnnbgpkaaDoor
