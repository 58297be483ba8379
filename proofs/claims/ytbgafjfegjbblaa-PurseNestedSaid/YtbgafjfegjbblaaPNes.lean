/- PurseNested, walked. -/
import Derived.Test.YtbgafjfegjbblaaPNst
namespace Go.Proofs.Ytbgafjfegjbblaa
open Go.RowKit Dbl
theorem IntAt.new (w : World) (v : Int) : IntAt (w.alloc (.cells #[.int .i64 v] 3)) w.heap.size v := by
  show (w.heap.push _)[w.heap.size]? = _
  simp
theorem IntAt.ne {w : World} {k j : Nat} {v : Int} {q : Option Addr} (h : IntAt w k v) (hc : w.cell? ⟨j, 0, none⟩ = some (.pointer q)) : j ≠ k := by
  rintro rfl; rw [h.c] at hc; simp at hc
set_option maxHeartbeats 1600000 in
set_option maxRecDepth 100000 in
theorem pnested_any (a b : Nat) (m n : Int) (w : World) (hm2 : m ≤ 9223372036854775807) (hn2 : n ≤ 9223372036854775807) :
    Calls Try.prog 8 #[.float .f64 a, .float .f64 b, .int .i64 m, .int .i64 n] w fun e w' => e = .returned (.bool true) ∧ Below w.heap.size w w' := by
  have hmf : ∀ (fn : Fn) (first cap : Array Value) (w : World), (Instr.makeFunc fn first cap).run Try.prog w = .ok (.func fn first cap) w := fun _ _ _ _ => rfl
  go_enter Try.func8, Try.ntmps8
  go_wp2_with fail
  have cm : ((w.alloc (.cells #[.int .i64 m] 3)).alloc (.cells #[.int .i64 n] 3)).cell? ⟨w.heap.size, 0, none⟩ = some (.int .i64 m) := by
    rw [World.cell?_alloc_past _ _ _ (by simp), World.cell?_alloc_at _ _ _ _ rfl]; rfl
  have cn : ((w.alloc (.cells #[.int .i64 m] 3)).alloc (.cells #[.int .i64 n] 3)).cell? ⟨w.heap.size + 1, 0, none⟩ = some (.int .i64 n) := by
    rw [World.cell?_alloc_at _ _ _ _ (by simp)]; rfl
  have hB := ((Below.refl w.heap.size w).alloc (Nat.le_refl _) (.cells #[.int .i64 m] 3)).alloc (by simp) (.cells #[.int .i64 n] 3)
  generalize ((w.alloc (.cells #[.int .i64 m] 3)).alloc (.cells #[.int .i64 n] 3)) = w1 at *
  have HMF := Lib.hid hmf
  refine (new_is _ _).mono ?_
  rintro e w2 ⟨rfl, pp, hB2⟩
  replace cm := (ButS.of_below [] hB2).cell cm (by simp)
  replace cn := (ButS.of_below [] hB2).cell cn (by simp)
  have hwP := hB.size
  replace hB := hB.trans (hB2.mono hB.size)
  clear hB2
  generalize w1.heap.size = P at *
  go_wp2_with fail
  have hA3 := (Below.refl w2.heap.size w2).alloc (Nat.le_refl _) (.cells #[.pointer (some ⟨P, 0, none⟩)] 22)
  have cp : (w2.alloc (.cells #[.pointer (some ⟨P, 0, none⟩)] 22)).cell? ⟨w2.heap.size, 0, none⟩ = some (.pointer (some ⟨P, 0, none⟩)) := by rw [World.cell?_alloc_at _ _ _ _ rfl]; rfl
  replace cm := (ButS.of_below [] hA3).cell cm (by simp)
  replace cn := (ButS.of_below [] hA3).cell cn (by simp)
  replace pp := (ButS.of_below [] hA3).purse pp (by simp)
  replace hB := hB.trans (hA3.mono hB.size)
  clear hA3
  generalize (w2.alloc (.cells #[.pointer (some ⟨P, 0, none⟩)] 22)) = w3 at *
  refine (new_is _ _).mono ?_
  rintro e w4 ⟨rfl, pq, hB4⟩
  have hPQ := pp.lt
  replace cm := (ButS.of_below [] hB4).cell cm (by simp)
  replace cn := (ButS.of_below [] hB4).cell cn (by simp)
  replace cp := (ButS.of_below [] hB4).cell cp (by simp)
  replace pp := (ButS.of_below [] hB4).purse pp (by simp)
  have hwQ := hB.size
  replace hB := hB.trans (hB4.mono hB.size)
  clear hB4
  generalize w3.heap.size = Q at *
  generalize w2.heap.size = kp at *
  clear w1 w2 w3
  have hkn0 : w.heap.size + 1 < w4.heap.size := World.block_lt_of_cell? w4 ⟨w.heap.size + 1, 0, none⟩ cn
  have hA6 := ((Below.refl w4.heap.size w4).alloc (Nat.le_refl _) (.cells #[.pointer (some ⟨Q, 0, none⟩)] 22)).alloc (by simp) (.cells #[.int .i64 0] 3)
  have cq : ((w4.alloc (.cells #[.pointer (some ⟨Q, 0, none⟩)] 22)).alloc (.cells #[.int .i64 0] 3)).cell? ⟨w4.heap.size, 0, none⟩ = some (.pointer (some ⟨Q, 0, none⟩)) := by
    rw [World.cell?_alloc_past _ _ _ (by simp), World.cell?_alloc_at _ _ _ _ rfl]; rfl
  have hI : IntAt ((w4.alloc (.cells #[.pointer (some ⟨Q, 0, none⟩)] 22)).alloc (.cells #[.int .i64 0] 3)) (w4.heap.size + 1) 0 := by
    have := IntAt.new (w4.alloc (.cells #[.pointer (some ⟨Q, 0, none⟩)] 22)) 0
    rwa [World.size_alloc] at this
  replace cm := (ButS.of_below [] hA6).cell cm (by simp)
  replace cn := (ButS.of_below [] hA6).cell cn (by simp)
  replace cp := (ButS.of_below [] hA6).cell cp (by simp)
  have hE : Env ((w4.alloc (.cells #[.pointer (some ⟨Q, 0, none⟩)] 22)).alloc (.cells #[.int .i64 0] 3)) w4.heap.size (w.heap.size + 1) kp w.heap.size P Q a b n m :=
    ⟨cq, cn, cp, cm, (ButS.of_below [] hA6).purse pp (by simp), (ButS.of_below [] hA6).purse pq (by simp), Nat.ne_of_lt hPQ, hn2, hm2⟩
  have hwq4 := hB.size
  have hkn : w.heap.size + 1 < w4.heap.size := hkn0
  have hB6 := hB.trans (hA6.mono hB.size)
  have HE := Lib.hid hE
  have HI := Lib.hid hI
  clear hE hI pp pq hA6 cm cn hB
  go_wp2_with fail
  have hE := HE.out
  have hI := HI.out
  clear HE HI
  generalize ((w4.alloc (.cells #[.pointer (some ⟨Q, 0, none⟩)] 22)).alloc (.cells #[.int .i64 0] 3)) = w6 at *
  generalize w4.heap.size = kq at *
  clear w4 cp cq
  have hR7 : True := trivial
  have nkp1 := ne_ptr hE.pp hE.cp
  have nkp2 := ne_ptr hE.pq hE.cp
  have nkp3 := hI.ne hE.cp
  have nkq1 := ne_ptr hE.pp hE.cq
  have nkq2 := ne_ptr hE.pq hE.cq
  have nkq3 := hI.ne hE.cq
  have nn1 := ne_int hE.pp hE.cn
  have nn2 := ne_int hE.pq hE.cn
  have nm1 := ne_int hE.pp hE.cm
  have nm2 := ne_int hE.pq hE.cm
  have NE := Lib.hid (And.intro nkp1 (And.intro nkp2 (And.intro nkp3 (And.intro nkq1 (And.intro nkq2 (And.intro nkq3 (And.intro nn1 (And.intro nn2 (And.intro nm1 nm2)))))))))
  clear nkp1 nkp2 nkp3 nkq1 nkq2 nkq3 nn1 nn2 nm1 nm2 hR7
  by_cases ho : more 0 n ≤ cap b
  · by_cases hi : more 0 m ≤ cap a
    · refine (run30_in hE hI ho hi).mono ?_
      rintro e w7 ⟨rfl, hQ, hP, hI7, hB7⟩
      obtain ⟨nkp1, nkp2, nkp3, nkq1, nkq2, nkq3, nn1, nn2, nm1, nm2⟩ := NE.out
      have cp := hB7.cell hE.cp (by simp; omega)
      have cq := hB7.cell hE.cq (by simp; omega)
      have cn := hB7.cell hE.cn (by simp; omega)
      have cm := hB7.cell hE.cm (by simp; omega)
      have hB := hB7.below hB6 (by simp; omega) hB6.size
      clear hE hI hB7 nkp1 nkp2 nkp3 nkq1 nkq2 nkq3 nn1 nn2 nm1 nm2 hB6
      go_wp2_with fail
      refine (new_is _ _).mono ?_
      rintro e w8 ⟨rfl, hX, hB8⟩
      have lP := hP.lt
      have lQ := hQ.lt
      have lI := hI7.lt
      have lp := World.block_lt_of_cell? _ _ cp
      have lq := World.block_lt_of_cell? _ _ cq
      have lm := World.block_lt_of_cell? _ _ cm
      replace cp := (ButS.of_below [] hB8).cell cp (by simp)
      replace cq := (ButS.of_below [] hB8).cell cq (by simp)
      replace cn := (ButS.of_below [] hB8).cell cn (by simp)
      replace cm := (ButS.of_below [] hB8).cell cm (by simp)
      replace hP := (ButS.of_below [] hB8).purse hP (by simp)
      replace hQ := (ButS.of_below [] hB8).purse hQ (by simp)
      replace hI7 : IntAt _ _ _ := (hB8.block _ hI7.lt).trans hI7
      have hwX := hB.size
      replace hB := hB.trans (hB8.mono hB.size)
      clear hB8
      generalize w7.heap.size = X at *
      go_wp2_with fail
      refine (new_is _ _).mono ?_
      rintro e w9 ⟨rfl, hY, hB9⟩
      have lX := hX.lt
      replace cp := (ButS.of_below [] hB9).cell cp (by simp)
      replace cq := (ButS.of_below [] hB9).cell cq (by simp)
      replace cn := (ButS.of_below [] hB9).cell cn (by simp)
      replace cm := (ButS.of_below [] hB9).cell cm (by simp)
      replace hP := (ButS.of_below [] hB9).purse hP (by simp)
      replace hQ := (ButS.of_below [] hB9).purse hQ (by simp)
      replace hI7 : IntAt _ _ _ := (hB9.block _ hI7.lt).trans hI7
      replace hX := (ButS.of_below [] hB9).purse hX (by simp)
      have hwY := hB.size
      replace hB := hB.trans (hB9.mono hB.size)
      clear hB9
      have HI9 := Lib.hid hI7
      clear hI7
      generalize w8.heap.size = Y at *
      go_wp2_with fail
      refine (spends_is _ b 0 n (more 0 n) true _ hY (by decide) hn2 (decide_eq_true ⟨Nat.zero_le _, ho⟩) (if_pos (Nat.zero_le _))).mono ?_
      rintro e w10 ⟨rfl, -, hB10⟩
      replace cp := hB10.cell cp (by show _ ≠ _; simp only at *; omega)
      replace cq := hB10.cell cq (by show _ ≠ _; simp only at *; omega)
      replace cn := hB10.cell cn (by show _ ≠ _; simp only at *; omega)
      replace cm := hB10.cell cm (by show _ ≠ _; simp only at *; omega)
      replace hP := hB10.purse hP (by omega)
      replace hQ := hB10.purse hQ (by omega)
      have hI10 : IntAt _ _ _ := (hB10.block _ HI9.out.lt (by omega)).trans HI9.out
      clear HI9
      have HI9 := Lib.hid hI10
      clear hI10
      replace hX := hB10.purse hX (by omega)
      replace hB := hB10.below hB hwY hB.size
      clear hB10 hY
      go_wp2_with fail
      refine (spends_is _ a 0 m (more 0 m) true _ hX (by decide) hm2 (decide_eq_true ⟨Nat.zero_le _, hi⟩) (if_pos (Nat.zero_le _))).mono ?_
      rintro e w11 ⟨rfl, -, hB11⟩
      replace cp := hB11.cell cp (by show _ ≠ _; simp only at *; omega)
      replace cq := hB11.cell cq (by show _ ≠ _; simp only at *; omega)
      replace cn := hB11.cell cn (by show _ ≠ _; simp only at *; omega)
      replace cm := hB11.cell cm (by show _ ≠ _; simp only at *; omega)
      replace hP := hB11.purse hP (by omega)
      replace hQ := hB11.purse hQ (by omega)
      have hI11 : IntAt _ _ _ := (hB11.block _ HI9.out.lt (by omega)).trans HI9.out
      clear HI9
      have HI9 := Lib.hid hI11
      clear hI11
      replace hB := hB11.below hB hwX hB.size
      clear hB11 hX
      have ci := HI9.out.c
      go_wp2_with fail
      refine (over_is _ a (more 0 m) false _ hP (more_le (by decide) m) (by rw [decide_eq_true hi]; rfl)).mono ?_
      rintro e w' ⟨rfl, rfl⟩
      go_wp2_with fail
      refine (over_is _ b (more 0 n) false _ hQ (more_le (by decide) n) (by rw [decide_eq_true ho]; rfl)).mono ?_
      rintro e w' ⟨rfl, rfl⟩
      go_wp2_with fail
      refine (awake_any _).mono ?_
      rintro e w12 ⟨rfl, hB12⟩
      go_wp2_with fail
      go_ret
      exact ⟨rfl, hB.trans (hB12.mono hB.size)⟩
    · refine (run30_p hE hI ho hi).mono ?_
      rintro e w7 ⟨rfl, hQ, hP, hI7, hB7⟩
      obtain ⟨nkp1, nkp2, nkp3, nkq1, nkq2, nkq3, nn1, nn2, nm1, nm2⟩ := NE.out
      have cp := hB7.cell hE.cp (by simp; omega)
      have cq := hB7.cell hE.cq (by simp; omega)
      have cn := hB7.cell hE.cn (by simp; omega)
      have cm := hB7.cell hE.cm (by simp; omega)
      have hB := hB7.below hB6 (by simp; omega) hB6.size
      clear hE hI hB7 nkp1 nkp2 nkp3 nkq1 nkq2 nkq3 nn1 nn2 nm1 nm2 hB6
      go_wp2_with fail
      refine (new_is _ _).mono ?_
      rintro e w8 ⟨rfl, hX, hB8⟩
      have lP := hP.lt
      have lQ := hQ.lt
      have lI := hI7.lt
      have lp := World.block_lt_of_cell? _ _ cp
      have lq := World.block_lt_of_cell? _ _ cq
      have lm := World.block_lt_of_cell? _ _ cm
      replace cp := (ButS.of_below [] hB8).cell cp (by simp)
      replace cq := (ButS.of_below [] hB8).cell cq (by simp)
      replace cn := (ButS.of_below [] hB8).cell cn (by simp)
      replace cm := (ButS.of_below [] hB8).cell cm (by simp)
      replace hP := (ButS.of_below [] hB8).purse hP (by simp)
      replace hQ := (ButS.of_below [] hB8).purse hQ (by simp)
      replace hI7 : IntAt _ _ _ := (hB8.block _ hI7.lt).trans hI7
      have hwX := hB.size
      replace hB := hB.trans (hB8.mono hB.size)
      clear hB8
      generalize w7.heap.size = X at *
      go_wp2_with fail
      refine (new_is _ _).mono ?_
      rintro e w9 ⟨rfl, hY, hB9⟩
      have lX := hX.lt
      replace cp := (ButS.of_below [] hB9).cell cp (by simp)
      replace cq := (ButS.of_below [] hB9).cell cq (by simp)
      replace cn := (ButS.of_below [] hB9).cell cn (by simp)
      replace cm := (ButS.of_below [] hB9).cell cm (by simp)
      replace hP := (ButS.of_below [] hB9).purse hP (by simp)
      replace hQ := (ButS.of_below [] hB9).purse hQ (by simp)
      replace hI7 : IntAt _ _ _ := (hB9.block _ hI7.lt).trans hI7
      replace hX := (ButS.of_below [] hB9).purse hX (by simp)
      have hwY := hB.size
      replace hB := hB.trans (hB9.mono hB.size)
      clear hB9
      have HI9 := Lib.hid hI7
      clear hI7
      generalize w8.heap.size = Y at *
      go_wp2_with fail
      refine (spends_is _ b 0 n (more 0 n) true _ hY (by decide) hn2 (decide_eq_true ⟨Nat.zero_le _, ho⟩) (if_pos (Nat.zero_le _))).mono ?_
      rintro e w10 ⟨rfl, -, hB10⟩
      replace cp := hB10.cell cp (by show _ ≠ _; simp only at *; omega)
      replace cq := hB10.cell cq (by show _ ≠ _; simp only at *; omega)
      replace cn := hB10.cell cn (by show _ ≠ _; simp only at *; omega)
      replace cm := hB10.cell cm (by show _ ≠ _; simp only at *; omega)
      replace hP := hB10.purse hP (by omega)
      replace hQ := hB10.purse hQ (by omega)
      have hI10 : IntAt _ _ _ := (hB10.block _ HI9.out.lt (by omega)).trans HI9.out
      clear HI9
      have HI9 := Lib.hid hI10
      clear hI10
      replace hX := hB10.purse hX (by omega)
      replace hB := hB10.below hB hwY hB.size
      clear hB10 hY
      go_wp2_with fail
      refine (spends_is _ a 0 m (more 0 m) false _ hX (by decide) hm2 (decide_eq_false (fun q => hi q.2)) (if_pos (Nat.zero_le _))).mono ?_
      rintro e w11 ⟨rfl, -, hB11⟩
      replace cp := hB11.cell cp (by show _ ≠ _; simp only at *; omega)
      replace cq := hB11.cell cq (by show _ ≠ _; simp only at *; omega)
      replace cn := hB11.cell cn (by show _ ≠ _; simp only at *; omega)
      replace cm := hB11.cell cm (by show _ ≠ _; simp only at *; omega)
      replace hP := hB11.purse hP (by omega)
      replace hQ := hB11.purse hQ (by omega)
      have hI11 : IntAt _ _ _ := (hB11.block _ HI9.out.lt (by omega)).trans HI9.out
      clear HI9
      have HI9 := Lib.hid hI11
      clear hI11
      replace hB := hB11.below hB hwX hB.size
      clear hB11 hX
      have ci := HI9.out.c
      go_wp2_with fail
      refine (over_is _ a (more 0 m) true _ hP (more_le (by decide) m) (by rw [decide_eq_false hi]; rfl)).mono ?_
      rintro e w' ⟨rfl, rfl⟩
      go_wp2_with fail
      refine (over_is _ b (more 0 n) false _ hQ (more_le (by decide) n) (by rw [decide_eq_true ho]; rfl)).mono ?_
      rintro e w' ⟨rfl, rfl⟩
      go_wp2_with fail
      refine (awake_any _).mono ?_
      rintro e w12 ⟨rfl, hB12⟩
      go_wp2_with fail
      go_ret
      exact ⟨rfl, hB.trans (hB12.mono hB.size)⟩
  · refine (run30_q hE hI ho).mono ?_
    rintro e w7 ⟨rfl, hQ, hP, hI7, hB7⟩
    obtain ⟨nkp1, nkp2, nkp3, nkq1, nkq2, nkq3, nn1, nn2, nm1, nm2⟩ := NE.out
    have cp := hB7.cell hE.cp (by simp; omega)
    have cq := hB7.cell hE.cq (by simp; omega)
    have cn := hB7.cell hE.cn (by simp; omega)
    have cm := hB7.cell hE.cm (by simp; omega)
    have hB := hB7.below hB6 (by simp; omega) hB6.size
    clear hE hI hB7 nkp1 nkp2 nkp3 nkq1 nkq2 nkq3 nn1 nn2 nm1 nm2 hB6
    go_wp2_with fail
    refine (new_is _ _).mono ?_
    rintro e w8 ⟨rfl, hX, hB8⟩
    have lP := hP.lt
    have lQ := hQ.lt
    have lI := hI7.lt
    have lp := World.block_lt_of_cell? _ _ cp
    have lq := World.block_lt_of_cell? _ _ cq
    have lm := World.block_lt_of_cell? _ _ cm
    replace cp := (ButS.of_below [] hB8).cell cp (by simp)
    replace cq := (ButS.of_below [] hB8).cell cq (by simp)
    replace cn := (ButS.of_below [] hB8).cell cn (by simp)
    replace cm := (ButS.of_below [] hB8).cell cm (by simp)
    replace hP := (ButS.of_below [] hB8).purse hP (by simp)
    replace hQ := (ButS.of_below [] hB8).purse hQ (by simp)
    replace hI7 : IntAt _ _ _ := (hB8.block _ hI7.lt).trans hI7
    have hwX := hB.size
    replace hB := hB.trans (hB8.mono hB.size)
    clear hB8
    generalize w7.heap.size = X at *
    go_wp2_with fail
    refine (new_is _ _).mono ?_
    rintro e w9 ⟨rfl, hY, hB9⟩
    have lX := hX.lt
    replace cp := (ButS.of_below [] hB9).cell cp (by simp)
    replace cq := (ButS.of_below [] hB9).cell cq (by simp)
    replace cn := (ButS.of_below [] hB9).cell cn (by simp)
    replace cm := (ButS.of_below [] hB9).cell cm (by simp)
    replace hP := (ButS.of_below [] hB9).purse hP (by simp)
    replace hQ := (ButS.of_below [] hB9).purse hQ (by simp)
    replace hI7 : IntAt _ _ _ := (hB9.block _ hI7.lt).trans hI7
    replace hX := (ButS.of_below [] hB9).purse hX (by simp)
    have hwY := hB.size
    replace hB := hB.trans (hB9.mono hB.size)
    clear hB9
    have HI9 := Lib.hid hI7
    clear hI7
    generalize w8.heap.size = Y at *
    go_wp2_with fail
    refine (spends_is _ b 0 n (more 0 n) false _ hY (by decide) hn2 (decide_eq_false (fun q => ho q.2)) (if_pos (Nat.zero_le _))).mono ?_
    rintro e w10 ⟨rfl, -, hB10⟩
    replace cp := hB10.cell cp (by show _ ≠ _; simp only at *; omega)
    replace cq := hB10.cell cq (by show _ ≠ _; simp only at *; omega)
    replace cn := hB10.cell cn (by show _ ≠ _; simp only at *; omega)
    replace cm := hB10.cell cm (by show _ ≠ _; simp only at *; omega)
    replace hP := hB10.purse hP (by omega)
    replace hQ := hB10.purse hQ (by omega)
    have hI10 : IntAt _ _ _ := (hB10.block _ HI9.out.lt (by omega)).trans HI9.out
    clear HI9
    have HI9 := Lib.hid hI10
    clear hI10
    replace hX := hB10.purse hX (by omega)
    replace hB := hB10.below hB hwY hB.size
    clear hB10 hY
    have ci := HI9.out.c
    go_wp2_with fail
    refine (over_is _ a 0 false _ hP (by decide) (by rw [decide_eq_true (Nat.zero_le _)]; rfl)).mono ?_
    rintro e w' ⟨rfl, rfl⟩
    go_wp2_with fail
    refine (over_is _ b (more 0 n) true _ hQ (more_le (by decide) n) (by rw [decide_eq_false ho]; rfl)).mono ?_
    rintro e w' ⟨rfl, rfl⟩
    go_wp2_with fail
    refine (awake_any _).mono ?_
    rintro e w12 ⟨rfl, hB12⟩
    go_wp2_with fail
    go_ret
    exact ⟨rfl, hB.trans (hB12.mono hB.size)⟩
end Go.Proofs.Ytbgafjfegjbblaa
