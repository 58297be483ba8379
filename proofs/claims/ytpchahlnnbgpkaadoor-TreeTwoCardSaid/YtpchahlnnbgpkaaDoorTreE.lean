/- tree.run, tree.addRun. -/
import Derived.Test.YtpchahlnnbgpkaaDoorTreC
namespace Go.Proofs.YtpchahlnnbgpkaaDoor
open Go.RowKit Sets Tr
theorem drop_two (l : List Nat) (n : Nat) (h : n + 1 < l.length) : l.drop n = l.getD n 0 :: l.getD (n + 1) 0 :: l.drop (n + 2) := by
  rw [List.drop_eq_getElem_cons (by omega), List.drop_eq_getElem_cons h, List.getD_eq_getElem?_getD, List.getElem?_eq_getElem (by omega), List.getD_eq_getElem?_getD, List.getElem?_eq_getElem h]; rfl
theorem drop_one (l : List Nat) (n : Nat) (h : n + 1 = l.length) : l.drop n = [l.getD n 0] := by
  rw [List.drop_eq_getElem_cons (by omega), List.getD_eq_getElem?_getD, List.getElem?_eq_getElem (by omega), List.drop_eq_nil_of_le (by omega)]; rfl
theorem bytes_cell {w : World} {a : Option Addr} {n c : Nat} {l : List Nat} (h : BytesAt w (.slice a n c) l) {i : Nat} (hi : i < l.length) : ∃ b o, a = some ⟨b, o, none⟩ ∧ w.cell? ⟨b, o + i, none⟩ = some (.int .u8 (l.getD i 0)) ∧ l.getD i 0 < 256 := by
  obtain ⟨h1, -, a', cap, e, h4⟩ := h
  cases e
  obtain ⟨b, o, e, hc⟩ := h4 i hi
  exact ⟨b, o, e, hc, h1 _ (by rw [List.getD_eq_getElem?_getD, List.getElem?_eq_getElem hi]; exact List.getElem_mem hi)⟩
set_option maxHeartbeats 3200000 in
set_option maxRecDepth 100000 in
theorem run_any (v : Value) (l : List Nat) (w : World) (hv : BytesAt w v l) (hl : l ≠ []) (hs : l.Pairwise (· < ·)) (hn : l.length ≤ 256) :
    Calls Tryd.prog 43 #[v] w fun e w' => e = .returned (.int .i64 (runLen l)) ∧ Below w.heap.size w w' := by
  obtain ⟨a, c, rfl⟩ : ∃ a c, v = .slice a l.length c := by obtain ⟨-, -, a, c, e, -⟩ := hv; exact ⟨a, c, e⟩
  have HV := Lib.hid hv
  have HS := Lib.hid hs
  have hl1 : 1 ≤ l.length := by cases l with | nil => exact absurd rfl hl | cons x y => simp
  clear hv hs hl
  go_enter Tryd.func43, Tryd.ntmps43
  go_wp2_with fail
  go_loopw [3] (fun x wr => ∃ m : Nat, x = .int .i64 ((m : Int) + 1) ∧ m < l.length ∧ Hid (runLen l = m + runLen (l.drop m)) ∧ Hid (Below w.heap.size w wr)) (fun x _ => (l.length - intOf x).toNat)
  case atStart => exact ⟨0, rfl, hl1, Lib.hid (by simp), Lib.hid (Below.refl _ _)⟩
  case round =>
    obtain ⟨m, rfl, hm, HR, HB⟩ := hrel
    generalize hwr : wr = w1 at *
    clear hwr wr
    by_cases hml : m + 1 < l.length
    · have hdm : decide ((m : Int) + 1 < (l.length : Int)) = true := decide_eq_true (by omega)
      obtain ⟨b, o, rfl, hx0, hxb⟩ := bytes_cell HV.out hml
      obtain ⟨b', o', e, hy0, hyb⟩ := bytes_cell HV.out (i := m) (by omega)
      cases e
      have hx := (HB.out.cell (World.block_lt_of_cell? _ _ hx0)).trans hx0
      have hy := (HB.out.cell (World.block_lt_of_cell? _ _ hy0)).trans hy0
      have hbl := Nat.lt_of_lt_of_le (World.block_lt_of_cell? _ _ hx0) HB.out.size
      have hlt : l.getD m 0 < l.getD (m + 1) 0 := by
        rw [List.getD_eq_getElem?_getD, List.getElem?_eq_getElem hm, List.getD_eq_getElem?_getD, List.getElem?_eq_getElem hml]
        exact List.pairwise_iff_getElem.1 HS.out m (m + 1) (by omega) hml (by omega)
      have hd2 := drop_two l m (by omega)
      have hdd : l.drop (m + 1) = l.getD (m + 1) 0 :: l.drop (m + 2) := by
        rw [List.drop_eq_getElem_cons hml, List.getD_eq_getElem?_getD, List.getElem?_eq_getElem hml]; rfl
      have hrun : runLen (l.drop m) = if l.getD (m + 1) 0 = l.getD m 0 + 1 then runLen (l.drop (m + 1)) + 1 else 1 := by rw [hd2, hdd]; rfl
      have HRun := Lib.hid hrun
      clear hx0 hy0 hd2 hdd hrun
      generalize l.getD (m + 1) 0 = x at *
      generalize l.getD m 0 = y at *
      have hsub : IntKind.u8.wrap ((x : Int) - (y : Int)) = (x : Int) - (y : Int) := by rw [IntKind.wrap_u8]; omega
      have HSub := Lib.hid hsub
      clear hsub
      go_wp2_with fail
      refine region_mix [(false, 0), (false, 1), (false, 2), (false, 3), (false, 4), (false, 5), (false, 6), (false, 7), (false, 8), (false, 9), (false, 10), (false, 11), (false, 12), (false, 13), (false, 14), (false, 15)] (fun w' => Below w1.heap.size w1 w') (by kernel_rfl) (by kernel_rfl) ((Below.refl _ _).drew) ?_
      simp only [planOps, List.map_cons, List.map_nil, List.getD_cons_zero, List.getD_cons_succ, List.length_cons, List.length_nil, List.drop_succ_cons, List.drop_zero]
      refine mix_seg (seg := [_, _, _, _, _, _, _, _, _, _, _, _, _, _, _, _]) (rest := []) rfl ((Below.refl _ _).drew) ?_
      intro ι hι F hF
      have f0 := fun n => ((hF n).cell (p := ⟨b, o + (m + 1), none⟩) hbl).trans hx
      have f1 := fun n => ((hF n).cell (p := ⟨b, o + m, none⟩) hbl).trans hy
      have f2 := HSub.out
      repeat (go_big_quiet_step (fail))
      refine wpQuiet_nil ?_
      clear f0 f1 f2 hF hι F
      show wpList _ _ _ _ _ _
      by_cases he : x = y + 1
      · have hq : (((x : Int) - (y : Int)) == 1) = true := by rw [beq_iff_eq]; omega
        rw [hq]
        have HE := Lib.hid he
        clear he hq
        go_wp2
        refine NoPanic.normal ?_
        go_wp2
        go_roundw
        case rel =>
          refine ⟨m + 1, by go_num, hml, Lib.hid ?_, Lib.hid (HB.out.drew)⟩
          rw [HR.out, HRun.out, if_pos HE.out]; omega
        case measure => simp only [intOf]; omega
      · have hq : (((x : Int) - (y : Int)) == 1) = false := by rw [beq_eq_false_iff_ne]; omega
        rw [hq]
        have HE := Lib.hid he
        clear he hq
        go_wp2
        refine NoPanic.normal ?_
        go_wp2
        go_ret
        refine ⟨?_, HB.out.drew⟩
        rw [HR.out, HRun.out, if_neg HE.out]; rfl
    · have hd1 := drop_one l m (by omega)
      have HR2 : Hid (runLen l = m + 1) := Lib.hid (by rw [HR.out, hd1]; rfl)
      have hdm : decide ((m : Int) + 1 < (l.length : Int)) = false := decide_eq_false (by omega)
      clear hd1
      go_wp2_with fail
      refine region_mix [(false, 0), (false, 1), (false, 2), (false, 3), (false, 4), (false, 5), (false, 6), (false, 7), (false, 8), (false, 9), (false, 10), (false, 11), (false, 12), (false, 13), (false, 14), (false, 15)] (fun w' => Below w1.heap.size w1 w') (by kernel_rfl) (by kernel_rfl) ((Below.refl _ _).drew) ?_
      simp only [planOps, List.map_cons, List.map_nil, List.getD_cons_zero, List.getD_cons_succ, List.length_cons, List.length_nil, List.drop_succ_cons, List.drop_zero]
      refine mix_seg (seg := [_, _, _, _, _, _, _, _, _, _, _, _, _, _, _, _]) (rest := []) rfl ((Below.refl _ _).drew) ?_
      intro ι hι F hF
      repeat (go_big_quiet_step (fail))
      refine wpQuiet_nil ?_
      clear hF hι F
      show wpList _ _ _ _ _ _
      go_wp2
      refine NoPanic.normal ?_
      go_wp2
      go_ret
      refine ⟨?_, HB.out.drew⟩
      rw [HR2.out]; rfl
set_option maxHeartbeats 3200000 in
set_option maxRecDepth 100000 in
theorem addRun_any (B : Nat) (v x : Value) (D l : List Nat) (w : World) (hO : Out B w v D) (hx : BytesAt w x l) (hsep : ∀ g, x.ownBlock = some g → v.ownBlock ≠ some g) (hl : l ≠ []) (hn : l.length ≤ 256) (hD : D.length ≤ 500000000) (hB : B ≤ w.heap.size) :
    Calls Tryd.prog 44 #[v, x] w (OutAp B w v (D ++ oneRun l)) := by
  obtain ⟨a, c, rfl⟩ : ∃ a c, x = .slice a l.length c := by obtain ⟨-, -, a, c, e, -⟩ := hx; exact ⟨a, c, e⟩
  have hl1 : 1 ≤ l.length := by cases l with | nil => exact absurd rfl hl | cons x y => simp
  obtain ⟨b, o, rfl, hc0, hb0⟩ := bytes_cell hx (i := 0) (by omega)
  have HX := Lib.hid hx
  have HO := Lib.hid hO
  have HSep := Lib.hid hsep
  have hE1 := esc_len inner (l.getD 0 0)
  have HA := Lib.hid (addByte_any B v D (l.getD 0 0) sInner inner w hb0 hasInner hO (by omega) hB)
  have hone : oneRun l = esc inner (l.getD 0 0) ++ ((if 2 < l.length then [45] else []) ++ (if 1 < l.length then esc inner (l.getD (l.length - 1) 0) else [])) := rfl
  have HOne := Lib.hid hone
  clear hx hO hsep hl hone
  rw [Nat.add_zero] at hc0
  generalize l.getD 0 0 = y at *
  go_enter Tryd.func44, Tryd.ntmps44
  by_cases h1 : 1 < l.length
  · obtain ⟨b', o', e, hcz0, hbz⟩ := bytes_cell HX.out (i := l.length - 1) (by omega)
    cases e
    obtain ⟨p, hp⟩ : ∃ p, l.length = p + 1 := ⟨l.length - 1, by omega⟩
    have hE2 := esc_len inner (l.getD (l.length - 1) 0)
    rw [hp] at hcz0 hbz HOne h1 hE2 ⊢
    rw [Nat.add_sub_cancel] at hcz0 hbz HOne hE2
    generalize l.getD p 0 = z at *
    have hzb : b < w.heap.size := World.block_lt_of_cell? _ _ hcz0
    have HC := Lib.hid hcz0
    have HSl : Hid (∀ w' v', Ap w v w' v' → w'.cell? ⟨b, o + p, none⟩ = some (.int .u8 z)) := Lib.hid (fun w' v' h => by
      rw [← hcz0]
      exact World.cell?_of_block (w := w) (h.block b hzb (HSep.out b rfl)))
    clear hcz0 hzb
    have hD1 : (D ++ esc inner y).length ≤ 500000004 := by rw [List.length_append]; omega
    have HD1 := Lib.hid hD1
    have HE2 := Lib.hid hE2
    clear hD1 hE1 hE2
    go_wp2_with fail
    refine HA.out.mono ?_
    rintro e w2 ⟨v2, rfl, hO2, hB2, hA2⟩
    have HO2 := Lib.hid hO2
    have HB2 := Lib.hid hB2
    have HA2 := Lib.hid hA2
    have hz2 := HSl.out _ _ hA2
    have HBw2 : Hid (B ≤ w2.heap.size) := Lib.hid (Nat.le_trans hB hB2.size)
    clear hO2 hB2 hA2
    by_cases h2 : 2 < p + 1
    · have d2 : decide ((2 : Int) < (p : Int) + 1) = true := decide_eq_true (by omega)
      have HH := Lib.hid h2
      clear h2
      go_wp2_with (refine wpList_out rfl _ _ rfl B v2 _ [45] _ rfl rfl HO2.out rfl (by have := HD1.out; simp at this ⊢; omega) HBw2.out ?_; intro v3 w3 hO3 hB3 hA3; have HO3 := Lib.hid hO3; have HB3 := Lib.hid (HB2.out.trans hB3); have HA3 := Lib.hid (HA2.out.trans hA3); have hz3 := HSl.out _ _ (HA2.out.trans hA3); have HBw3 : Hid (B ≤ w3.heap.size) := Lib.hid (Nat.le_trans HBw2.out hB3.size); clear hO3 hB3 hA3)
      refine (addByte_any B v3 _ z sInner inner w3 hbz hasInner HO3.out (by have := HD1.out; simp at this ⊢; omega) HBw3.out).mono ?_
      rintro e w4 ⟨v4, rfl, hO4, hB4, hA4⟩
      have HO4 := Lib.hid hO4
      have HB4 := Lib.hid (HB3.out.trans hB4)
      have HA4 := Lib.hid (HA3.out.trans hA4)
      clear hO4 hB4 hA4
      go_wp2_with fail
      go_ret
      refine ⟨_, rfl, ?_, HB4.out, HA4.out⟩
      rw [HOne.out, if_pos HH.out, if_pos h1, ← List.append_assoc, ← List.append_assoc]
      exact HO4.out
    · have d2 : decide ((2 : Int) < (p : Int) + 1) = false := decide_eq_false (by omega)
      have HH := Lib.hid h2
      clear h2
      go_wp2_with fail
      refine (addByte_any B v2 _ z sInner inner w2 hbz hasInner HO2.out (by have := HD1.out; simp at this ⊢; omega) HBw2.out).mono ?_
      rintro e w4 ⟨v4, rfl, hO4, hB4, hA4⟩
      have HO4 := Lib.hid hO4
      have HB4 := Lib.hid (HB2.out.trans hB4)
      have HA4 := Lib.hid (HA2.out.trans hA4)
      clear hO4 hB4 hA4
      go_wp2_with fail
      go_ret
      refine ⟨_, rfl, ?_, HB4.out, HA4.out⟩
      rw [HOne.out, if_neg HH.out, if_pos h1, List.nil_append, ← List.append_assoc]
      exact HO4.out
  · have d2 : decide ((2 : Int) < (l.length : Int)) = false := decide_eq_false (by omega)
    have d1 : decide ((1 : Int) < (l.length : Int)) = false := decide_eq_false (by omega)
    go_wp2_with (go_at_call 42; refine HA.out.mono ?_; rintro e w2 ⟨v2, rfl, hO2, hB2, hA2⟩; have HO2 := Lib.hid hO2; have HB2 := Lib.hid hB2; have HA2 := Lib.hid hA2; clear hO2 hB2 hA2)
    go_ret
    refine ⟨_, rfl, ?_, HB2.out, HA2.out⟩
    rw [HOne.out, if_neg (by omega), if_neg (by omega), List.append_nil, List.append_nil]
    exact HO2.out
end Go.Proofs.YtpchahlnnbgpkaaDoor
