import Derived.Test.YtioghbhcdofnnaaDoorFam
import Derived.Test.YtioghbhcdofnnaaDoorAwk
import Derived.WalkSpells
namespace Go.Proofs.YtioghbhcdofnnaaDoor
open Go.RowKit Sets
theorem SetAt.stay {w w' : World} {B S : Nat} (h : SetAt w B S) (hb : Below w.heap.size w w') : SetAt w' B S := h.kept hb h.lt
/-- What the walk keeps: the set in its block, its list, what was there, the library's table. -/
structure Bk (w0 : World) (g S : Nat) (v : Value) (L : List Nat) (w : World) : Prop where
  set : SetAt w g S
  list : BytesAt w v L
  old : Below w0.heap.size w0 w
  tab : Tab w
  pos : 0 < w.heap.size
theorem Bk.call {w0 w w' : World} {g S : Nat} {v : Value} {L : List Nat} (k : Bk w0 g S v L w) (hb : Below w.heap.size w w') : Bk w0 g S v L w' :=
  ⟨k.set.stay hb, k.list.kept hb, k.old.trans (hb.mono k.old.size), k.tab.below hb k.pos, Nat.lt_of_lt_of_le k.pos hb.size⟩
theorem sorted_get {L : List Nat} (h : L.Pairwise (· < ·)) (j : Nat) (hj : j + 1 < L.length) : L.getD j 0 < L.getD (j + 1) 0 := by
  rw [List.getD_eq_getElem?_getD, List.getD_eq_getElem?_getD, List.getElem?_eq_getElem (show j < L.length by omega), List.getElem?_eq_getElem hj]
  exact List.pairwise_iff_getElem.1 h j (j + 1) (by omega) hj (by omega)
theorem list_first (S : Nat) (h : 0 < (listN S).length) (d : Nat) (hd : d < (listN S).getD 0 0) : S.testBit d = false := by
  have hq : (listN S).getD 0 0 < 256 := by
    rw [List.getD_eq_getElem?_getD, List.getElem?_eq_getElem h]
    exact ((mem_listN S _).1 (List.getElem_mem h)).1
  cases hb : S.testBit d with
  | false => rfl
  | true =>
    have hm : d ∈ listN S := (mem_listN S d).2 ⟨by omega, hb⟩
    obtain ⟨j, hj, rfl⟩ := List.getElem_of_mem hm
    have hs := listN_sorted S
    rw [List.getD_eq_getElem?_getD, List.getElem?_eq_getElem h] at hd
    simp only [Option.getD_some] at hd
    rcases Nat.eq_zero_or_pos j with rfl | hj0
    · omega
    · have := List.pairwise_iff_getElem.1 hs 0 j h hj hj0
      omega
theorem list_get (S j : Nat) (hj : j < (listN S).length) : (listN S).getD j 0 < 256 ∧ S.testBit ((listN S).getD j 0) = true := by
  rw [List.getD_eq_getElem?_getD, List.getElem?_eq_getElem hj]
  exact (mem_listN S _).1 (List.getElem_mem hj)
set_option maxHeartbeats 1600000 in
set_option maxRecDepth 100000 in
theorem back_any (S : Nat) (w : World) (hS : S < 2 ^ 256) (hT : Tab w) (hg : 0 < w.heap.size) :
    Calls Tryd.prog 7 #[.agg #[.int .u64 (wd S 0), .int .u64 (wd S 1), .int .u64 (wd S 2), .int .u64 (wd S 3)]] w fun e w' => e = .returned (.bool true) ∧ Below w.heap.size w w' := by
  have HS := Lib.hid (ofN_listN S hS)
  have HL := Lib.hid (listN_length S)
  have HP := Lib.hid (listN_sorted S)
  have HG := Lib.hid (list_get S)
  have HF := Lib.hid (list_first S)
  have hlen := listN_len S
  clear hS
  go_enter Tryd.func7, Tryd.ntmps7
  go_wp2_with fail
  have hb0 : Below w.heap.size w (w.alloc (.cells #[.int .u64 (wd S 0), .int .u64 (wd S 1), .int .u64 (wd S 2), .int .u64 (wd S 3)] 24)) := (Below.refl _ _).alloc (Nat.le_refl _) _
  refine (list_bytes S _ (hT.below hb0 hg) (by simp)).mono ?_
  rintro e w1 ⟨v, rfl, hby, hb1⟩
  have K : Bk w w.heap.size S v (listN S) w1 := ⟨(SetAt.new w S _).stay hb1, hby, hb0.trans (hb1.mono (by simp)), (hT.below hb0 hg).below hb1 (by simp), by have := hb1.size; simp at this; omega⟩
  clear hb0 hb1 hT hg
  generalize listN S = L at *
  obtain ⟨-, -, a, cap, rfl, -⟩ := hby
  go_wp2_with fail
  refine region_fam (by kernel_rfl) (by kernel_rfl) ?_
  intro ι hι F hF hX
  have kF := fun n => Lib.hid (K.call (hF n))
  have a0 := fun n => (kF n).out.set.c0; have a1 := fun n => (kF n).out.set.c1; have a2 := fun n => (kF n).out.set.c2; have a3 := fun n => (kF n).out.set.c3
  have e1 := HS.out
  have e2 : ((L.length : Int) != (cnt S : Int)) = false := by rw [HL.out]; simp
  repeat (go_big_quiet_step (first
    | (go_at_call 11; exact fam_call hF hX (of_any _ L _ (kF _).out.list))
    | (go_at_call 12; exact fam_call hF hX (count_any _ _))))
  refine wpQuiet_nil ?_
  rintro _ ⟨n, rfl⟩
  replace K := (kF n).out
  clear a0 a1 a2 a3 kF e1 e2
  generalize F n = W2 at *
  clear hF hX n F hι
  go_wp2_with fail
  have hleni : L.length ≤ 9223372036854775807 := by omega
  go_loopw [4] (fun i wr => ∃ k : Nat, i = .int .i64 k ∧ k ≤ L.length ∧ Bk w w.heap.size S (.slice a L.length cap) L wr) (fun i _ => (L.length - intOf i).toNat)
  case atStart => exact ⟨0, rfl, Nat.zero_le _, K⟩
  case round =>
    obtain ⟨k, rfl, hk, K⟩ := hrel
    by_cases hlt : k < L.length
    · have hq := HG.out k hlt
      obtain ⟨-, -, a', cap', he, hcells⟩ := K.list
      obtain ⟨rfl, -, rfl⟩ := Value.slice.inj he
      clear he
      obtain ⟨b, o, rfl, hck⟩ := hcells k hlt
      by_cases hk0 : k = 0
      · subst hk0
        generalize L.getD 0 0 = q at *
        obtain ⟨hq1, hq2⟩ := hq
        clear hcells
        go_wp2
        refine region_fam (by kernel_rfl) (by kernel_rfl) ?_
        intro ι hι F hF hX
        have kF := fun n => Lib.hid (K.call (hF n))
        have a0 := fun n => (kF n).out.set.c0; have a1 := fun n => (kF n).out.set.c1; have a2 := fun n => (kF n).out.set.c2; have a3 := fun n => (kF n).out.set.c3
        have ck := fun n => cell_later (hF n) hck
        simp only [Nat.add_zero] at ck
        repeat (go_big_quiet_step (first
          | (go_at_call 17; exact fam_call hF hX (has_any _ _ _ (by omega) (by omega)))))
        refine wpQuiet_nil ?_
        rintro _ ⟨n, rfl⟩
        replace K := (kF n).out
        clear a0 a1 a2 a3 kF ck
        generalize F n = W3 at *
        go_wp2
        go_roundw
        case rel => exact ⟨1, by go_num, by omega, K⟩
        case measure => simp [intOf]; omega
      · obtain ⟨j, rfl⟩ : ∃ j, k = j + 1 := ⟨k - 1, by omega⟩
        have hs := sorted_get HP.out j hlt
        obtain ⟨b', o', he, hcj⟩ := hcells j (by omega)
        obtain ⟨rfl, rfl⟩ : b' = b ∧ o' = o := by simpa using he.symm
        generalize L.getD (j + 1) 0 = q at *
        generalize L.getD j 0 = p at *
        obtain ⟨hq1, hq2⟩ := hq
        clear hcells he
        have hgt : decide ((0 : Int) < (j : Int) + 1) = true := decide_eq_true (by omega)
        have hpq : decide (q ≤ p) = false := decide_eq_false (by omega)
        have hdl : decide ((j : Int) + 1 < (L.length : Int)) = true := decide_eq_true (by omega)
        go_wp2
        refine region_fam (by kernel_rfl) (by kernel_rfl) ?_
        intro ι hι F hF hX
        have kF := fun n => Lib.hid (K.call (hF n))
        have a0 := fun n => (kF n).out.set.c0; have a1 := fun n => (kF n).out.set.c1; have a2 := fun n => (kF n).out.set.c2; have a3 := fun n => (kF n).out.set.c3
        have ck := fun n => cell_later (hF n) hck
        have cj := fun n => cell_later (hF n) hcj
        repeat (go_big_quiet_step (first
          | (go_at_call 17; exact fam_call hF hX (has_any _ _ _ (by omega) (by omega)))))
        refine wpQuiet_nil ?_
        rintro _ ⟨n, rfl⟩
        replace K := (kF n).out
        clear a0 a1 a2 a3 kF ck cj
        generalize F n = W3 at *
        go_wp2
        go_roundw
        case rel => exact ⟨j + 1 + 1, by go_num, by omega, K⟩
        case measure => simp [intOf]; omega
    · have hk' : k = L.length := by omega
      subst hk'
      have HT := Lib.hid K.tab
      have hpos := K.pos
      have a0 := K.set.c0; have a1 := K.set.c1; have a2 := K.set.c2; have a3 := K.set.c3
      have hcnt := HL.out
      by_cases hz : L.length = 0
      · have z : wd S 0 = 0 ∧ wd S 1 = 0 ∧ wd S 2 = 0 ∧ wd S 3 = 0 := by
          have hLn : L = [] := List.length_eq_zero_iff.1 hz
          have hS0 : S = 0 := by rw [← HS.out, hLn]; rfl
          subst hS0
          exact ⟨wd_zero _, wd_zero _, wd_zero _, wd_zero _⟩
        obtain ⟨z0, z1, z2, z3⟩ := z
        have Z := Lib.hid (And.intro z0 (And.intro z1 (And.intro z2 z3)))
        have hlen0 : decide (0 < (L.length : Int)) = false := decide_eq_false (by omega)
        have hlen0' : decide (0 < L.length) = false := decide_eq_false (by omega)
        clear z0 z1 z2 z3 hz hcnt
        go_wp2_with fail
        refine (first_none S _ Z.out.1 Z.out.2.1 Z.out.2.2.1 Z.out.2.2.2).mono ?_
        rintro e w5 ⟨rfl, hb⟩
        replace K := K.call hb
        clear hb a0 a1 a2 a3 HT hpos
        have HT := Lib.hid K.tab
        have hpos := K.pos
        go_wp2_with (go_at_call 15; refine (awake_any _ HT.out hpos).mono ?_; rintro e w' ⟨rfl, hb⟩; replace K := K.call hb)
        go_ret
        exact ⟨rfl, K.old⟩
      · obtain ⟨hq1, hq2⟩ := HG.out 0 (by omega)
        have hq3 := HF.out (by omega)
        obtain ⟨-, -, a', cap', he, hcells⟩ := K.list
        obtain ⟨rfl, -, rfl⟩ := Value.slice.inj he
        obtain ⟨b, o, rfl, hck⟩ := hcells 0 (by omega)
        clear he hcells
        generalize L.getD 0 0 = q at *
        have H3 := Lib.hid hq3
        have hlen0 : decide (0 < (L.length : Int)) = true := decide_eq_true (by omega)
        have hlen0' : decide (0 < L.length) = true := decide_eq_true (by omega)
        have hlen1 : 0 < L.length := by omega
        clear hq3 hz hcnt
        go_wp2_with fail
        refine (first_some S q _ hq1 hq2 H3.out HT.out hpos).mono ?_
        rintro e w5 ⟨rfl, hb⟩
        replace K := K.call hb
        replace hck := cell_later hb hck
        clear hb a0 a1 a2 a3 HT hpos
        have HT := Lib.hid K.tab
        have hpos := K.pos
        simp only [Nat.add_zero] at hck
        go_wp2_with (go_at_call 15; refine (awake_any _ HT.out hpos).mono ?_; rintro e w' ⟨rfl, hb⟩; replace K := K.call hb)
        go_ret
        exact ⟨rfl, K.old⟩
end Go.Proofs.YtioghbhcdofnnaaDoor
