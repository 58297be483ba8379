/- RexPlace, walked. -/
import Derived.Test.YtbmoanhdpnaocaaRexW
import Derived.Deep.Cut
namespace Go.Proofs.Ytbmoanhdpnaocaa
open Go.RowKit Sets Tr Rx
namespace Pla
theorem size_cut (s : ByteArray) (n : Nat) : (s.extract 0 n).size ≤ n := by rw [size_tx, tx_extract]; simp; omega
/-- what Parse says, in one form -/
theorem parse_un (s : ByteArray) (w : World) : Calls Try.prog 5 #[.string s] w fun e w' =>
    ∃ na n nc pa m pc, ∃ a er : Int, e = .returned (.tuple #[.agg #[.slice na n nc, .slice pa m pc], .int .i64 a, .int .i64 er]) ∧ (∀ lg p, cons (by' s) = .bad lg p → a = p ∧ er = if lg then 3 else 8) ∧ Below w.heap.size w w' := by
  refine (parse_any s w).mono ?_
  intro e w' h
  unfold PO at h
  cases hc : cons (by' s) with
  | ok q ns ps =>
    rw [hc] at h
    obtain ⟨⟨nv, pv, rfl, hN, hP⟩, hB⟩ := h
    obtain ⟨-, -, na, nc, rfl, -⟩ := hN
    obtain ⟨-, -, pa, pc, rfl, -⟩ := hP
    exact ⟨na, _, nc, pa, _, pc, 0, 0, rfl, (fun lg p e => by cases e), hB⟩
  | bad lg p =>
    rw [hc] at h
    obtain ⟨rfl, hB⟩ := h
    exact ⟨none, 0, 0, none, 0, 0, p, _, rfl, (fun lg' p' e => by cases e; exact ⟨rfl, rfl⟩), hB⟩
theorem by_cat (s t : ByteArray) (n : Nat) : by' (s.extract 0 n ++ t) = (by' s).take n ++ by' t := by
  have : by' (s.extract 0 n ++ t) = (tx (s.extract 0 n ++ t)).map UInt8.toNat := rfl
  rw [this, tx_append, tx_extract, List.map_append, Nat.sub_zero, List.drop_zero, List.map_take]
  rfl
theorem pk_cat {l t : List Nat} {n i : Nat} (hi : i < n) (hn : n ≤ l.length) : pk (l.take n ++ t) i = pk l i := by
  unfold pk
  rw [List.getD_eq_getElem?_getD, List.getElem?_append_left (by rw [List.length_take]; omega), List.getElem?_take_of_lt hi, List.getD_eq_getElem?_getD]
theorem bg_cat {s t : ByteArray} {p : Nat} (hp : p < s.size) (h92 : pk (by' s) p ≠ 92) (hd : ¬ (48 ≤ pk (by' s) p ∧ pk (by' s) p ≤ 57)) (h45 : 0 < p → pk (by' s) (p - 1) ≠ 45) : Bg (by' s) (by' (s.extract 0 (p + 1) ++ t)) p := by
  refine ⟨fun i hi => ?_, by rw [by_len]; exact hp, ?_, h92, hd, h45⟩
  · rw [by_cat, pk_cat (by omega) (by rw [by_len]; omega)]
  · rw [by_cat, List.length_append, List.length_take, by_len]
    omega
end Pla
open Pla
set_option maxHeartbeats 6400000 in
set_option maxRecDepth 100000 in
theorem rplace_any (s t : ByteArray) (w : World) :
    Calls Try.prog 4 #[.string s, .string t] w fun e w' => e = .returned (.bool true) ∧ Below w.heap.size w w' := by
  go_enter Try.func4, Try.ntmps4
  go_upto_if 13 with fail
  go_cut [0] from 11 (fun v wr => wr = w ∧ ∃ q : ByteArray, v = .string q ∧ q.size ≤ 200)
  case first =>
    by_cases hl : 200 < s.size
    · have hx := size_cut s 200
      have hd : decide ((200 : Int) < (s.size : Int)) = true := decide_eq_true (by omega)
      have hd' : decide (200 < s.size) = true := decide_eq_true (by omega)
      go_wp2_with fail
      go_meet
      case rel => exact ⟨rfl, _, rfl, hx⟩
    · have hd : decide ((200 : Int) < (s.size : Int)) = false := decide_eq_false (by omega)
      have hd' : decide (200 < s.size) = false := decide_eq_false (by omega)
      go_wp2_with fail
      go_meet
      case rel => exact ⟨rfl, _, rfl, by omega⟩
  case rest =>
    obtain ⟨rfl, s', rfl, hs⟩ := hcut
    go_upto_if 18 with fail
    go_cut [1] from 11 (fun v wr => wr = wc ∧ ∃ q : ByteArray, v = .string q ∧ q.size ≤ 100)
    case first =>
      by_cases hl : 100 < t.size
      · have hx := size_cut t 100
        have hd : decide ((100 : Int) < (t.size : Int)) = true := decide_eq_true (by omega)
        have hd' : decide (100 < t.size) = true := decide_eq_true (by omega)
        go_wp2_with fail
        go_meet
        case rel => exact ⟨rfl, _, rfl, hx⟩
      · have hd : decide ((100 : Int) < (t.size : Int)) = false := decide_eq_false (by omega)
        have hd' : decide (100 < t.size) = false := decide_eq_false (by omega)
        go_wp2_with fail
        go_meet
        case rel => exact ⟨rfl, _, rfl, by omega⟩
    case rest =>
      obtain ⟨rfl, t', rfl, ht⟩ := hcut
      have HP := Lib.hid (parse_any s' wc)
      cases hc : cons (by' s') with
      | ok q ns ps =>
        have hp0 := cons_parts hc
        have HC := Lib.hid hc
        have d0 : decide ((0 : Int) < (ps.length : Int)) = true := decide_eq_true (by omega)
        have d0' : decide (0 < ps.length) = true := decide_eq_true hp0
        clear hc
        go_wp2_with fail
        refine HP.out.mono ?_
        clear HP
        intro e w1 hP
        unfold PO at hP
        rw [HC.out] at hP
        obtain ⟨⟨nv, pv, rfl, hN, hP⟩, hB⟩ := hP
        obtain ⟨-, -, na, nc, rfl, -⟩ := hN
        obtain ⟨-, -, pa, pc, rfl, -⟩ := hP
        have HSR := Lib.hid (World.setRow_alloc_new w1 #[.slice none 0 0, .slice none 0 0] #[.slice na ns.length nc, .slice pa ps.length pc] 27)
        have H0 := Lib.hid (heap_alloc_new w1 (.cells #[.slice none 0 0, .slice none 0 0] 27))
        have HB := Lib.hid (hB.trans (((Below.refl w1.heap.size w1).alloc (Nat.le_refl _) (.cells #[.slice na ns.length nc, .slice pa ps.length pc] 27)).mono hB.size))
        have HAw := Lib.hid rawake_any
        clear hB
        go_wp2_with (first
          | (refine wpList_put_tree rfl _ _ rfl w1.heap.size _ _ _ _ _ _ rfl rfl (.slice none 0 0) (.slice none 0 0) H0.out ?_; rw [HSR.out])
          | (go_at_call 10; refine (HAw.out _).mono ?_; rintro e w8 ⟨rfl, hB8⟩; have HB8 := Lib.hid (HB.out.trans (hB8.mono HB.out.size)); clear hB8))
        go_ret
        exact ⟨rfl, HB8.out⟩
      | bad lg p =>
        have hx := fun m => cons_x (l := by' s') (m := m) (by_lt s') (by rw [by_len]; exact hs)
        have hple : p ≤ s'.size := by have := (hx [] (by simp) hc).1; rwa [by_len] at this
        have HX := Lib.hid (fun m (hm : m.length ≤ 200) => (hx m hm hc).2)
        have HC := Lib.hid hc
        clear hx hc
        have d2 : decide ((p : Int) < 0) = false := decide_eq_false (by omega)
        have d3 : decide ((s'.size : Int) < (p : Int)) = false := decide_eq_false (by omega)
        have d3' : decide (s'.size < p) = false := decide_eq_false (by omega)
        have HAw := Lib.hid rawake_any
        by_cases hA : p = s'.size
        · have g1 : ((p : Int) == (s'.size : Int)) = true := by simp; omega
          clear hA
          cases lg
          all_goals
            go_wp2_with fail
            refine HP.out.mono ?_
            clear HP
            intro e w1 hP
            unfold PO at hP
            rw [HC.out] at hP
            obtain ⟨rfl, hB⟩ := hP
            have HB := Lib.hid (hB.trans (((Below.refl w1.heap.size w1).alloc (Nat.le_refl _) (.cells #[.slice none 0 0, .slice none 0 0] 27)).mono hB.size))
            clear hB
            go_wp2_with (go_at_call 10; refine (HAw.out _).mono ?_; rintro e w8 ⟨rfl, hB8⟩; have HB8 := Lib.hid (HB.out.trans (hB8.mono HB.out.size)); clear hB8)
            go_ret
            exact ⟨rfl, HB8.out⟩
        · have g1 : ((p : Int) == (s'.size : Int)) = false := by rw [beq_eq_false_iff_ne]; omega
          have ix := index_by s' p p rfl (by omega)
          by_cases hB : pk (by' s') p = 92
          · have g2 : ((pk (by' s') p : Int) == (92 : Int)) = true := by simp; omega
            generalize pk (by' s') p = k at *
            cases lg
            all_goals
              go_wp2_with fail
              refine HP.out.mono ?_
              clear HP
              intro e w1 hP
              unfold PO at hP
              rw [HC.out] at hP
              obtain ⟨rfl, hB⟩ := hP
              have HB := Lib.hid (hB.trans (((Below.refl w1.heap.size w1).alloc (Nat.le_refl _) (.cells #[.slice none 0 0, .slice none 0 0] 27)).mono hB.size))
              clear hB
              go_wp2_with (go_at_call 10; refine (HAw.out _).mono ?_; rintro e w8 ⟨rfl, hB8⟩; have HB8 := Lib.hid (HB.out.trans (hB8.mono HB.out.size)); clear hB8)
              go_ret
              exact ⟨rfl, HB8.out⟩
          · have g2 : ((pk (by' s') p : Int) == (92 : Int)) = false := by rw [beq_eq_false_iff_ne]; omega
            by_cases hD : 200 < p + 1 + t'.size
            · have g3 : decide ((200 : Int) < (p : Int) + 1 + (t'.size : Int)) = true := decide_eq_true (by omega)
              generalize pk (by' s') p = k at *
              cases lg
              all_goals
                go_wp2_with fail
                refine HP.out.mono ?_
                clear HP
                intro e w1 hP
                unfold PO at hP
                rw [HC.out] at hP
                obtain ⟨rfl, hB⟩ := hP
                have HB := Lib.hid (hB.trans (((Below.refl w1.heap.size w1).alloc (Nat.le_refl _) (.cells #[.slice none 0 0, .slice none 0 0] 27)).mono hB.size))
                clear hB
                go_wp2_with (go_at_call 10; refine (HAw.out _).mono ?_; rintro e w8 ⟨rfl, hB8⟩; have HB8 := Lib.hid (HB.out.trans (hB8.mono HB.out.size)); clear hB8)
                go_ret
                exact ⟨rfl, HB8.out⟩
            · have g3 : decide ((200 : Int) < (p : Int) + 1 + (t'.size : Int)) = false := decide_eq_false (by omega)
              have hp1 : p + 1 ≤ s'.size := by omega
              have hcs : (s'.extract 0 (p + 1)).size + t'.size ≤ 200 := by have := size_cut s' (p + 1); omega
              have hno : ¬ 9223372036854775807 < (s'.extract 0 (p + 1)).size + t'.size := by omega
              have HC2 := Lib.hid (parse_un (s'.extract 0 (p + 1) ++ t'))
              have HY := Lib.hid (HX.out (by' (s'.extract 0 (p + 1) ++ t')) (by rw [by_len, ByteArray.size_append]; exact hcs))
              rcases (by omega : (48 ≤ pk (by' s') p ∧ pk (by' s') p ≤ 57) ∨ pk (by' s') p < 48 ∨ 57 < pk (by' s') p) with hk | hk
              · have k1 : decide ((48 : Int) ≤ (pk (by' s') p : Int)) = true := decide_eq_true (by omega)
                have k1' : decide (48 ≤ pk (by' s') p) = true := decide_eq_true (by omega)
                have k2 : decide ((pk (by' s') p : Int) ≤ (57 : Int)) = true := decide_eq_true (by omega)
                have k2' : decide (pk (by' s') p ≤ 57) = true := decide_eq_true (by omega)
                clear hk
                clear HY
                generalize pk (by' s') p = k at *
                cases lg
                all_goals
                  go_wp2_with fail
                  refine HP.out.mono ?_
                  clear HP
                  intro e w1 hP
                  unfold PO at hP
                  rw [HC.out] at hP
                  obtain ⟨rfl, hB⟩ := hP
                  have HB := Lib.hid (hB.trans (((Below.refl w1.heap.size w1).alloc (Nat.le_refl _) (.cells #[.slice none 0 0, .slice none 0 0] 27)).mono hB.size))
                  clear hB
                  go_wp2_with fail
                  refine (HC2.out _).mono ?_
                  rintro e w2 ⟨na, n, nc, pa, m, pc, a, er, rfl, hin, hB2⟩
                  have HSR := Lib.hid (World.setRow_alloc_new w2 #[.slice none 0 0, .slice none 0 0] #[.slice na n nc, .slice pa m pc] 27)
                  have H0 := Lib.hid (heap_alloc_new w2 (.cells #[.slice none 0 0, .slice none 0 0] 27))
                  have hB3 := HB.out.trans (hB2.mono HB.out.size)
                  have HB3 := Lib.hid (hB3.trans (((Below.refl w2.heap.size w2).alloc (Nat.le_refl _) (.cells #[.slice na n nc, .slice pa m pc] 27)).mono hB3.size))
                  clear hB2 hB3 HB
                  clear hin
                  go_wp2_with (first
                    | (refine wpList_put_tree rfl _ _ rfl w2.heap.size _ _ _ _ _ _ rfl rfl (.slice none 0 0) (.slice none 0 0) H0.out ?_; rw [HSR.out])
                    | (go_at_call 10; refine (HAw.out _).mono ?_; rintro e w8 ⟨rfl, hB8⟩; have HB8 := Lib.hid (HB3.out.trans (hB8.mono HB3.out.size)); clear hB8))
                  go_ret
                  exact ⟨rfl, HB8.out⟩
              · have HD : Hid (¬ (48 ≤ pk (by' s') p ∧ pk (by' s') p ≤ 57)) := Lib.hid (by omega)
                have HB9 := Lib.hid hB
                have hkk : (decide ((48 : Int) ≤ (pk (by' s') p : Int)) = false ∧ decide (48 ≤ pk (by' s') p) = false) ∨ (decide ((48 : Int) ≤ (pk (by' s') p : Int)) = true ∧ decide (48 ≤ pk (by' s') p) = true ∧ decide ((pk (by' s') p : Int) ≤ (57 : Int)) = false ∧ decide (pk (by' s') p ≤ 57) = false) := by
                  rcases hk with hk | hk
                  · exact .inl ⟨decide_eq_false (by omega), decide_eq_false (by omega)⟩
                  · exact .inr ⟨decide_eq_true (by omega), decide_eq_true (by omega), decide_eq_false (by omega), decide_eq_false (by omega)⟩
                have HK := Lib.hid hkk
                clear hk hkk
                by_cases hp0 : 0 < p
                · have q1 : decide ((0 : Int) < (p : Int)) = true := decide_eq_true (by omega)
                  have q1' : decide (0 < p) = true := decide_eq_true hp0
                  have ix2 := index_by s' (p - 1) ((p : Int) - 1) (by omega) (by omega)
                  by_cases h45 : pk (by' s') (p - 1) = 45
                  · have g4 : ((pk (by' s') (p - 1) : Int) == (45 : Int)) = true := by simp; omega
                    clear h45 HD HB9 HY
                    generalize pk (by' s') (p - 1) = j at *
                    generalize pk (by' s') p = k at *
                    rcases HK.out with ⟨k1, k1'⟩ | ⟨k1, k1', k2, k2'⟩
                    all_goals
                      cases lg
                      all_goals
                        go_wp2_with fail
                        refine HP.out.mono ?_
                        clear HP
                        intro e w1 hP
                        unfold PO at hP
                        rw [HC.out] at hP
                        obtain ⟨rfl, hB⟩ := hP
                        have HB := Lib.hid (hB.trans (((Below.refl w1.heap.size w1).alloc (Nat.le_refl _) (.cells #[.slice none 0 0, .slice none 0 0] 27)).mono hB.size))
                        clear hB
                        go_wp2_with fail
                        refine (HC2.out _).mono ?_
                        rintro e w2 ⟨na, n, nc, pa, m, pc, a, er, rfl, hin, hB2⟩
                        have HSR := Lib.hid (World.setRow_alloc_new w2 #[.slice none 0 0, .slice none 0 0] #[.slice na n nc, .slice pa m pc] 27)
                        have H0 := Lib.hid (heap_alloc_new w2 (.cells #[.slice none 0 0, .slice none 0 0] 27))
                        have hB3 := HB.out.trans (hB2.mono HB.out.size)
                        have HB3 := Lib.hid (hB3.trans (((Below.refl w2.heap.size w2).alloc (Nat.le_refl _) (.cells #[.slice na n nc, .slice pa m pc] 27)).mono hB3.size))
                        clear hB2 hB3 HB
                        clear hin
                        go_wp2_with (first
                          | (refine wpList_put_tree rfl _ _ rfl w2.heap.size _ _ _ _ _ _ rfl rfl (.slice none 0 0) (.slice none 0 0) H0.out ?_; rw [HSR.out])
                          | (go_at_call 10; refine (HAw.out _).mono ?_; rintro e w8 ⟨rfl, hB8⟩; have HB8 := Lib.hid (HB3.out.trans (hB8.mono HB3.out.size)); clear hB8))
                        go_ret
                        exact ⟨rfl, HB8.out⟩
                  · have g4 : ((pk (by' s') (p - 1) : Int) == (45 : Int)) = false := by rw [beq_eq_false_iff_ne]; omega
                    have HYc := Lib.hid (HY.out (bg_cat (by omega) HB9.out HD.out (fun _ => h45)))
                    clear h45 HD HB9 HY
                    generalize pk (by' s') (p - 1) = j at *
                    generalize pk (by' s') p = k at *
                    rcases HK.out with ⟨k1, k1'⟩ | ⟨k1, k1', k2, k2'⟩
                    all_goals
                      cases lg
                      all_goals
                        go_wp2_with fail
                        refine HP.out.mono ?_
                        clear HP
                        intro e w1 hP
                        unfold PO at hP
                        rw [HC.out] at hP
                        obtain ⟨rfl, hB⟩ := hP
                        have HB := Lib.hid (hB.trans (((Below.refl w1.heap.size w1).alloc (Nat.le_refl _) (.cells #[.slice none 0 0, .slice none 0 0] 27)).mono hB.size))
                        clear hB
                        go_wp2_with fail
                        refine (HC2.out _).mono ?_
                        rintro e w2 ⟨na, n, nc, pa, m, pc, a, er, rfl, hin, hB2⟩
                        have HSR := Lib.hid (World.setRow_alloc_new w2 #[.slice none 0 0, .slice none 0 0] #[.slice na n nc, .slice pa m pc] 27)
                        have H0 := Lib.hid (heap_alloc_new w2 (.cells #[.slice none 0 0, .slice none 0 0] 27))
                        have hB3 := HB.out.trans (hB2.mono HB.out.size)
                        have HB3 := Lib.hid (hB3.trans (((Below.refl w2.heap.size w2).alloc (Nat.le_refl _) (.cells #[.slice na n nc, .slice pa m pc] 27)).mono hB3.size))
                        clear hB2 hB3 HB
                        obtain ⟨rfl, rfl⟩ := hin _ _ HYc.out
                        clear hin
                        have g5 : ((p : Int) == (p : Int)) = true := by simp
                        go_wp2_with (first
                          | (refine wpList_put_tree rfl _ _ rfl w2.heap.size _ _ _ _ _ _ rfl rfl (.slice none 0 0) (.slice none 0 0) H0.out ?_; rw [HSR.out])
                          | (go_at_call 10; refine (HAw.out _).mono ?_; rintro e w8 ⟨rfl, hB8⟩; have HB8 := Lib.hid (HB3.out.trans (hB8.mono HB3.out.size)); clear hB8))
                        go_ret
                        exact ⟨rfl, HB8.out⟩
                · have hpz : p = 0 := by omega
                  have q1 : decide ((0 : Int) < (p : Int)) = false := decide_eq_false (by omega)
                  have q1' : decide (0 < p) = false := decide_eq_false hp0
                  have HYc := Lib.hid (HY.out (bg_cat (by omega) HB9.out HD.out (fun h => absurd h hp0)))
                  clear HD HB9 HY hp0 hpz
                  generalize pk (by' s') p = k at *
                  rcases HK.out with ⟨k1, k1'⟩ | ⟨k1, k1', k2, k2'⟩
                  all_goals
                    cases lg
                    all_goals
                      go_wp2_with fail
                      refine HP.out.mono ?_
                      clear HP
                      intro e w1 hP
                      unfold PO at hP
                      rw [HC.out] at hP
                      obtain ⟨rfl, hB⟩ := hP
                      have HB := Lib.hid (hB.trans (((Below.refl w1.heap.size w1).alloc (Nat.le_refl _) (.cells #[.slice none 0 0, .slice none 0 0] 27)).mono hB.size))
                      clear hB
                      go_wp2_with fail
                      refine (HC2.out _).mono ?_
                      rintro e w2 ⟨na, n, nc, pa, m, pc, a, er, rfl, hin, hB2⟩
                      have HSR := Lib.hid (World.setRow_alloc_new w2 #[.slice none 0 0, .slice none 0 0] #[.slice na n nc, .slice pa m pc] 27)
                      have H0 := Lib.hid (heap_alloc_new w2 (.cells #[.slice none 0 0, .slice none 0 0] 27))
                      have hB3 := HB.out.trans (hB2.mono HB.out.size)
                      have HB3 := Lib.hid (hB3.trans (((Below.refl w2.heap.size w2).alloc (Nat.le_refl _) (.cells #[.slice na n nc, .slice pa m pc] 27)).mono hB3.size))
                      clear hB2 hB3 HB
                      obtain ⟨rfl, rfl⟩ := hin _ _ HYc.out
                      clear hin
                      have g5 : ((p : Int) == (p : Int)) = true := by simp
                      go_wp2_with (first
                        | (refine wpList_put_tree rfl _ _ rfl w2.heap.size _ _ _ _ _ _ rfl rfl (.slice none 0 0) (.slice none 0 0) H0.out ?_; rw [HSR.out])
                        | (go_at_call 10; refine (HAw.out _).mono ?_; rintro e w8 ⟨rfl, hB8⟩; have HB8 := Lib.hid (HB3.out.trans (hB8.mono HB3.out.size)); clear hB8))
                      go_ret
                      exact ⟨rfl, HB8.out⟩
end Go.Proofs.Ytbmoanhdpnaocaa
