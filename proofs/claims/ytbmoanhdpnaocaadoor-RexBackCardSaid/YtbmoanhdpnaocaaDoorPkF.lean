/- Several texts in one. -/
import Derived.Test.YtbmoanhdpnaocaaDoorPkD
import Derived.Test.YtbmoanhdpnaocaaDoorPkC
import Derived.Test.YtbmoanhdpnaocaaDoorPkE
namespace Go.Proofs.YtbmoanhdpnaocaaDoor
open Go.RowKit Sets Tr
theorem esc_hex (m : List Nat) (c : Nat) (h1 : m.contains c = false) (h2 : c < 33 ∨ 126 < c) : esc m c = [92, 120, hex (c / 16), hex (c % 16)] := by
  unfold esc; rw [h1, if_neg (by decide), if_pos h2]
theorem esc_mark (m : List Nat) (c : Nat) (h1 : m.contains c = true) : esc m c = [92, c] := by
  unfold esc; rw [h1, if_pos rfl]
theorem esc_self (m : List Nat) (c : Nat) (h1 : m.contains c = false) (h2 : ¬ (c < 33 ∨ 126 < c)) : esc m c = [c] := by
  unfold esc; rw [h1, if_neg (by decide), if_neg h2]
set_option maxHeartbeats 3200000 in
set_option maxRecDepth 100000 in
theorem addByte_any (B : Nat) (v : Value) (D : List Nat) (c : Nat) (s : ByteArray) (m : List Nat) (w : World) (hc : c < 256) (hs : HasB s m) (hO : Out B w v D) (hD : D.length ≤ 1000000000) (hB : B ≤ w.heap.size) :
    Calls Tryd.prog 33 #[v, .int .u8 c, .string s] w (OutAp B w v (D ++ esc m c)) := by
  have hi := hs c hc
  have HI := fun w => index_bytes s c w
  generalize Lib.indexByte s.data.toList ((c : Int)).toNat.toUInt8 = k at hi HI
  have HI := Lib.hid HI
  have HO := Lib.hid hO
  clear hO hs
  go_enter Tryd.func33, Tryd.ntmps33
  cases hm : m.contains c
  · rw [hm] at hi
    by_cases h2 : c < 33 ∨ 126 < c
    · have HE := Lib.hid (esc_hex m c hm h2)
      clear hm
      have hx1 := fun w => index_hex (c / 16) (by omega) w
      have hx2 := fun w => index_hex (c % 16) (by omega) w
      rw [show ((c / 16 : Nat) : Int) = (c : Int) / 16 from by omega] at hx1
      rw [show ((c % 16 : Nat) : Int) = (c : Int) % 16 from by omega] at hx2
      have HX1 := Lib.hid hx1
      have HX2 := Lib.hid hx2
      clear hx1 hx2
      rcases h2 with h2 | h2
      all_goals
        go_wp2_with (go_at_call 42; refine (HI.out _).mono ?_; rintro e w' ⟨rfl, rfl⟩)
        refine region_mix [(false, 0), (false, 1), (false, 2), (false, 3), (false, 4), (false, 5), (false, 6), (true, 7), (true, 8)] (fun _ => True) (by kernel_rfl) (by kernel_rfl) trivial ?_
        simp only [planOps, List.map_cons, List.map_nil, List.getD_cons_zero, List.getD_cons_succ, List.length_cons, List.length_nil, List.drop_succ_cons, List.drop_zero]
        refine mix_seg (seg := [_, _, _, _, _, _, _]) rfl trivial ?_
        intro ι hι F hF
        have f1 := HX1.out
        have f2 := HX2.out
        repeat (go_big_quiet_step (fail))
        refine wpQuiet_nil ?_
        clear f1 f2 hF hι F
        refine mix_eff (fun K hK => ?_)
        go_wp2
        refine mix_on hK trivial ?_
        clear hK K
        refine mix_eff (fun K hK => ?_)
        go_wp2_with (refine wpList_out rfl _ _ rfl B v D [92, 120, hex (c / 16), hex (c % 16)] _ rfl rfl (HO.out.below ((Below.refl w.heap.size w).drew)) rfl (by simp; omega) hB ?_; intro v2 w2 hO2 hB2 hA2; have HO2 := Lib.hid hO2; have HA2 := Lib.hid hA2; clear hO2 hA2)
        refine mix_on hK trivial ?_
        clear hK K
        show wpList _ _ _ _ _ _
        go_wp2
        refine NoPanic.normal ?_
        go_wp2
        go_ret
        refine ⟨_, rfl, ?_, ((Below.refl B w).drew).trans hB2, (Ap.of_below v ((Below.refl w.heap.size w).drew)).trans HA2.out⟩
        rw [HE.out]
        exact HO2.out
    · have HE := Lib.hid (esc_self m c hm h2)
      clear hm
      have d1 : decide ((c : Int) < 33) = false := decide_eq_false (by omega)
      have d2 : decide ((126 : Int) < c) = false := decide_eq_false (by omega)
      clear h2
      go_wp2_with (first
        | (go_at_call 42; refine (HI.out _).mono ?_; rintro e w' ⟨rfl, rfl⟩)
        | (refine wpList_out rfl _ _ rfl B v D [c] _ rfl rfl HO.out rfl (by simp; omega) hB ?_; intro v2 w2 hO2 hB2 hA2; have HO2 := Lib.hid hO2; have HA2 := Lib.hid hA2; clear hO2 hA2))
      go_ret
      refine ⟨_, rfl, ?_, hB2, HA2.out⟩
      rw [HE.out]
      exact HO2.out
  · rw [hm] at hi
    have HE := Lib.hid (esc_mark m c hm)
    clear hm
    go_wp2_with (first
      | (go_at_call 42; refine (HI.out _).mono ?_; rintro e w' ⟨rfl, rfl⟩)
      | (refine wpList_out rfl _ _ rfl B v D [92, c] _ rfl rfl HO.out rfl (by simp; omega) hB ?_; intro v2 w2 hO2 hB2 hA2; have HO2 := Lib.hid hO2; have HA2 := Lib.hid hA2; clear hO2 hA2))
    go_ret
    refine ⟨_, rfl, ?_, hB2, HA2.out⟩
    rw [HE.out]
    exact HO2.out
end Go.Proofs.YtbmoanhdpnaocaaDoor
namespace Go.Proofs.YtbmoanhdpnaocaaDoor
open Go.RowKit Sets Tr
theorem drop_two (l : List Nat) (n : Nat) (h : n + 1 < l.length) : l.drop n = l.getD n 0 :: l.getD (n + 1) 0 :: l.drop (n + 2) := by
  rw [List.drop_eq_getElem_cons (by omega), List.drop_eq_getElem_cons h, List.getD_eq_getElem?_getD, List.getElem?_eq_getElem (by omega), List.getD_eq_getElem?_getD, List.getElem?_eq_getElem h]; rfl
theorem drop_one (l : List Nat) (n : Nat) (h : n + 1 = l.length) : l.drop n = [l.getD n 0] := by
  rw [List.drop_eq_getElem_cons (by omega), List.getD_eq_getElem?_getD, List.getElem?_eq_getElem (by omega), List.drop_eq_nil_of_le (by omega)]; rfl
theorem bytes_cell {w : World} {a : Option Addr} {n c : Nat} {l : List Nat} (h : BytesAt w (.slice a n c) l) {i : Nat} (hi : i < l.length) : ∃ b o, a = some ⟨b, o, none⟩ ∧ w.cell? ⟨b, o + i, none⟩ = some (.int .u8 (l.getD i 0)) ∧ l.getD i 0 < 256 := by
  obtain ⟨h1, -, a', cap, e, h4⟩ := h
  cases e
  obtain ⟨b, o, e, hc⟩ := h4 i hi
  exact ⟨b, o, e, hc, h1 _ (by rw [List.getD_eq_getElem?_getD, List.getElem?_eq_getElem hi]; exact List.getElem_mem hi)⟩
set_option maxHeartbeats 3200000 in
set_option maxRecDepth 100000 in
theorem run_any (v : Value) (l : List Nat) (w : World) (hv : BytesAt w v l) (hl : l ≠ []) (hs : l.Pairwise (· < ·)) (hn : l.length ≤ 256) :
    Calls Tryd.prog 34 #[v] w fun e w' => e = .returned (.int .i64 (runLen l)) ∧ Below w.heap.size w w' := by
  obtain ⟨a, c, rfl⟩ : ∃ a c, v = .slice a l.length c := by obtain ⟨-, -, a, c, e, -⟩ := hv; exact ⟨a, c, e⟩
  have HV := Lib.hid hv
  have HS := Lib.hid hs
  have hl1 : 1 ≤ l.length := by cases l with | nil => exact absurd rfl hl | cons x y => simp
  clear hv hs hl
  go_enter Tryd.func34, Tryd.ntmps34
  go_wp2_with fail
  go_loopw [3] (fun x wr => ∃ m : Nat, x = .int .i64 ((m : Int) + 1) ∧ m < l.length ∧ Hid (runLen l = m + runLen (l.drop m)) ∧ Hid (Below w.heap.size w wr)) (fun x _ => (l.length - intOf x).toNat)
  case atStart => exact ⟨0, rfl, hl1, Lib.hid (by simp), Lib.hid (Below.refl _ _)⟩
  case round =>
    obtain ⟨m, rfl, hm, HR, HB⟩ := hrel
    generalize hwr : wr = w1 at *
    clear hwr wr
    by_cases hml : m + 1 < l.length
    · have hdm : decide ((m : Int) + 1 < (l.length : Int)) = true := decide_eq_true (by omega)
      obtain ⟨b, o, rfl, hx0, hxb⟩ := bytes_cell HV.out hml
      obtain ⟨b', o', e, hy0, hyb⟩ := bytes_cell HV.out (i := m) (by omega)
      cases e
      have hx := (HB.out.cell (World.block_lt_of_cell? _ _ hx0)).trans hx0
      have hy := (HB.out.cell (World.block_lt_of_cell? _ _ hy0)).trans hy0
      have hbl := Nat.lt_of_lt_of_le (World.block_lt_of_cell? _ _ hx0) HB.out.size
      have hlt : l.getD m 0 < l.getD (m + 1) 0 := by
        rw [List.getD_eq_getElem?_getD, List.getElem?_eq_getElem hm, List.getD_eq_getElem?_getD, List.getElem?_eq_getElem hml]
        exact List.pairwise_iff_getElem.1 HS.out m (m + 1) (by omega) hml (by omega)
      have hd2 := drop_two l m (by omega)
      have hdd : l.drop (m + 1) = l.getD (m + 1) 0 :: l.drop (m + 2) := by
        rw [List.drop_eq_getElem_cons hml, List.getD_eq_getElem?_getD, List.getElem?_eq_getElem hml]; rfl
      have hrun : runLen (l.drop m) = if l.getD (m + 1) 0 = l.getD m 0 + 1 then runLen (l.drop (m + 1)) + 1 else 1 := by rw [hd2, hdd]; rfl
      have HRun := Lib.hid hrun
      clear hx0 hy0 hd2 hdd hrun
      generalize l.getD (m + 1) 0 = x at *
      generalize l.getD m 0 = y at *
      have hsub : IntKind.u8.wrap ((x : Int) - (y : Int)) = (x : Int) - (y : Int) := by rw [IntKind.wrap_u8]; omega
      have HSub := Lib.hid hsub
      clear hsub
      go_wp2_with fail
      refine region_mix [(false, 0), (false, 1), (false, 2), (false, 3), (false, 4), (false, 5), (false, 6), (false, 7), (false, 8), (false, 9), (false, 10), (false, 11), (false, 12), (false, 13), (false, 14), (false, 15)] (fun w' => Below w1.heap.size w1 w') (by kernel_rfl) (by kernel_rfl) ((Below.refl _ _).drew) ?_
      simp only [planOps, List.map_cons, List.map_nil, List.getD_cons_zero, List.getD_cons_succ, List.length_cons, List.length_nil, List.drop_succ_cons, List.drop_zero]
      refine mix_seg (seg := [_, _, _, _, _, _, _, _, _, _, _, _, _, _, _, _]) (rest := []) rfl ((Below.refl _ _).drew) ?_
      intro ι hι F hF
      have f0 := fun n => ((hF n).cell (p := ⟨b, o + (m + 1), none⟩) hbl).trans hx
      have f1 := fun n => ((hF n).cell (p := ⟨b, o + m, none⟩) hbl).trans hy
      have f2 := HSub.out
      repeat (go_big_quiet_step (fail))
      refine wpQuiet_nil ?_
      clear f0 f1 f2 hF hι F
      show wpList _ _ _ _ _ _
      by_cases he : x = y + 1
      · have hq : (((x : Int) - (y : Int)) == 1) = true := by rw [beq_iff_eq]; omega
        rw [hq]
        have HE := Lib.hid he
        clear he hq
        go_wp2
        refine NoPanic.normal ?_
        go_wp2
        go_roundw
        case rel =>
          refine ⟨m + 1, by go_num, hml, Lib.hid ?_, Lib.hid (HB.out.drew)⟩
          rw [HR.out, HRun.out, if_pos HE.out]; omega
        case measure => simp only [intOf]; omega
      · have hq : (((x : Int) - (y : Int)) == 1) = false := by rw [beq_eq_false_iff_ne]; omega
        rw [hq]
        have HE := Lib.hid he
        clear he hq
        go_wp2
        refine NoPanic.normal ?_
        go_wp2
        go_ret
        refine ⟨?_, HB.out.drew⟩
        rw [HR.out, HRun.out, if_neg HE.out]; rfl
    · have hd1 := drop_one l m (by omega)
      have HR2 : Hid (runLen l = m + 1) := Lib.hid (by rw [HR.out, hd1]; rfl)
      have hdm : decide ((m : Int) + 1 < (l.length : Int)) = false := decide_eq_false (by omega)
      clear hd1
      go_wp2_with fail
      refine region_mix [(false, 0), (false, 1), (false, 2), (false, 3), (false, 4), (false, 5), (false, 6), (false, 7), (false, 8), (false, 9), (false, 10), (false, 11), (false, 12), (false, 13), (false, 14), (false, 15)] (fun w' => Below w1.heap.size w1 w') (by kernel_rfl) (by kernel_rfl) ((Below.refl _ _).drew) ?_
      simp only [planOps, List.map_cons, List.map_nil, List.getD_cons_zero, List.getD_cons_succ, List.length_cons, List.length_nil, List.drop_succ_cons, List.drop_zero]
      refine mix_seg (seg := [_, _, _, _, _, _, _, _, _, _, _, _, _, _, _, _]) (rest := []) rfl ((Below.refl _ _).drew) ?_
      intro ι hι F hF
      repeat (go_big_quiet_step (fail))
      refine wpQuiet_nil ?_
      clear hF hι F
      show wpList _ _ _ _ _ _
      go_wp2
      refine NoPanic.normal ?_
      go_wp2
      go_ret
      refine ⟨?_, HB.out.drew⟩
      rw [HR2.out]; rfl
set_option maxHeartbeats 3200000 in
set_option maxRecDepth 100000 in
theorem addRun_any (B : Nat) (v x : Value) (D l : List Nat) (w : World) (hO : Out B w v D) (hx : BytesAt w x l) (hsep : ∀ g, x.ownBlock = some g → v.ownBlock ≠ some g) (hl : l ≠ []) (hn : l.length ≤ 256) (hD : D.length ≤ 500000000) (hB : B ≤ w.heap.size) :
    Calls Tryd.prog 35 #[v, x] w (OutAp B w v (D ++ oneRun l)) := by
  obtain ⟨a, c, rfl⟩ : ∃ a c, x = .slice a l.length c := by obtain ⟨-, -, a, c, e, -⟩ := hx; exact ⟨a, c, e⟩
  have hl1 : 1 ≤ l.length := by cases l with | nil => exact absurd rfl hl | cons x y => simp
  obtain ⟨b, o, rfl, hc0, hb0⟩ := bytes_cell hx (i := 0) (by omega)
  have HX := Lib.hid hx
  have HO := Lib.hid hO
  have HSep := Lib.hid hsep
  have hE1 := esc_len inner (l.getD 0 0)
  have HA := Lib.hid (addByte_any B v D (l.getD 0 0) sInner inner w hb0 hasInner hO (by omega) hB)
  have hone : oneRun l = esc inner (l.getD 0 0) ++ ((if 2 < l.length then [45] else []) ++ (if 1 < l.length then esc inner (l.getD (l.length - 1) 0) else [])) := rfl
  have HOne := Lib.hid hone
  clear hx hO hsep hl hone
  rw [Nat.add_zero] at hc0
  generalize l.getD 0 0 = y at *
  go_enter Tryd.func35, Tryd.ntmps35
  by_cases h1 : 1 < l.length
  · obtain ⟨b', o', e, hcz0, hbz⟩ := bytes_cell HX.out (i := l.length - 1) (by omega)
    cases e
    obtain ⟨p, hp⟩ : ∃ p, l.length = p + 1 := ⟨l.length - 1, by omega⟩
    have hE2 := esc_len inner (l.getD (l.length - 1) 0)
    rw [hp] at hcz0 hbz HOne h1 hE2 ⊢
    rw [Nat.add_sub_cancel] at hcz0 hbz HOne hE2
    generalize l.getD p 0 = z at *
    have hzb : b < w.heap.size := World.block_lt_of_cell? _ _ hcz0
    have HC := Lib.hid hcz0
    have HSl : Hid (∀ w' v', Ap w v w' v' → w'.cell? ⟨b, o + p, none⟩ = some (.int .u8 z)) := Lib.hid (fun w' v' h => by
      rw [← hcz0]
      exact World.cell?_of_block (w := w) (h.block b hzb (HSep.out b rfl)))
    clear hcz0 hzb
    have hD1 : (D ++ esc inner y).length ≤ 500000004 := by rw [List.length_append]; omega
    have HD1 := Lib.hid hD1
    have HE2 := Lib.hid hE2
    clear hD1 hE1 hE2
    go_wp2_with fail
    refine HA.out.mono ?_
    rintro e w2 ⟨v2, rfl, hO2, hB2, hA2⟩
    have HO2 := Lib.hid hO2
    have HB2 := Lib.hid hB2
    have HA2 := Lib.hid hA2
    have hz2 := HSl.out _ _ hA2
    have HBw2 : Hid (B ≤ w2.heap.size) := Lib.hid (Nat.le_trans hB hB2.size)
    clear hO2 hB2 hA2
    by_cases h2 : 2 < p + 1
    · have d2 : decide ((2 : Int) < (p : Int) + 1) = true := decide_eq_true (by omega)
      have HH := Lib.hid h2
      clear h2
      go_wp2_with (refine wpList_out rfl _ _ rfl B v2 _ [45] _ rfl rfl HO2.out rfl (by have := HD1.out; simp at this ⊢; omega) HBw2.out ?_; intro v3 w3 hO3 hB3 hA3; have HO3 := Lib.hid hO3; have HB3 := Lib.hid (HB2.out.trans hB3); have HA3 := Lib.hid (HA2.out.trans hA3); have hz3 := HSl.out _ _ (HA2.out.trans hA3); have HBw3 : Hid (B ≤ w3.heap.size) := Lib.hid (Nat.le_trans HBw2.out hB3.size); clear hO3 hB3 hA3)
      refine (addByte_any B v3 _ z sInner inner w3 hbz hasInner HO3.out (by have := HD1.out; simp at this ⊢; omega) HBw3.out).mono ?_
      rintro e w4 ⟨v4, rfl, hO4, hB4, hA4⟩
      have HO4 := Lib.hid hO4
      have HB4 := Lib.hid (HB3.out.trans hB4)
      have HA4 := Lib.hid (HA3.out.trans hA4)
      clear hO4 hB4 hA4
      go_wp2_with fail
      go_ret
      refine ⟨_, rfl, ?_, HB4.out, HA4.out⟩
      rw [HOne.out, if_pos HH.out, if_pos h1, ← List.append_assoc, ← List.append_assoc]
      exact HO4.out
    · have d2 : decide ((2 : Int) < (p : Int) + 1) = false := decide_eq_false (by omega)
      have HH := Lib.hid h2
      clear h2
      go_wp2_with fail
      refine (addByte_any B v2 _ z sInner inner w2 hbz hasInner HO2.out (by have := HD1.out; simp at this ⊢; omega) HBw2.out).mono ?_
      rintro e w4 ⟨v4, rfl, hO4, hB4, hA4⟩
      have HO4 := Lib.hid hO4
      have HB4 := Lib.hid (HB2.out.trans hB4)
      have HA4 := Lib.hid (HA2.out.trans hA4)
      clear hO4 hB4 hA4
      go_wp2_with fail
      go_ret
      refine ⟨_, rfl, ?_, HB4.out, HA4.out⟩
      rw [HOne.out, if_neg HH.out, if_pos h1, List.nil_append, ← List.append_assoc]
      exact HO4.out
  · have d2 : decide ((2 : Int) < (l.length : Int)) = false := decide_eq_false (by omega)
    have d1 : decide ((1 : Int) < (l.length : Int)) = false := decide_eq_false (by omega)
    go_wp2_with (go_at_call 33; refine HA.out.mono ?_; rintro e w2 ⟨v2, rfl, hO2, hB2, hA2⟩; have HO2 := Lib.hid hO2; have HB2 := Lib.hid hB2; have HA2 := Lib.hid hA2; clear hO2 hB2 hA2)
    go_ret
    refine ⟨_, rfl, ?_, HB2.out, HA2.out⟩
    rw [HOne.out, if_neg (by omega), if_neg (by omega), List.append_nil, List.append_nil]
    exact HO2.out
end Go.Proofs.YtbmoanhdpnaocaaDoor
namespace Go.Proofs.YtbmoanhdpnaocaaDoor
open Go.RowKit Sets Tr
theorem runs_more : ∀ (f g : Nat) (l : List Nat), l.length ≤ f → l.length ≤ g → runs f l = runs g l := by
  intro f
  induction f with
  | zero =>
    intro g l hf _
    have : l = [] := List.eq_nil_of_length_eq_zero (by omega)
    subst this
    cases g <;> rfl
  | succ f ih =>
    intro g l hf hg
    cases l with
    | nil => cases g <;> rfl
    | cons a l =>
      cases g with
      | zero => simp at hg
      | succ g =>
        simp only [runs]
        have hp := runLen_pos a l
        congr 1
        refine ih g _ ?_ ?_ <;> simp only [List.length_drop, List.length_cons] at * <;> omega
theorem runs_step (l : List Nat) (h : l ≠ []) (hl : l.length ≤ 256) : runs 256 l = oneRun (l.take (runLen l)) ++ runs 256 (l.drop (runLen l)) := by
  cases l with
  | nil => exact absurd rfl h
  | cons a l =>
    rw [show (256 : Nat) = 255 + 1 from rfl]
    conv => lhs; rw [runs]
    have hp := runLen_pos a l
    congr 1
    refine runs_more _ _ _ ?_ ?_ <;> simp only [List.length_drop, List.length_cons] at * <;> omega
theorem wpList_eql_set {ops : Array Oper} {rest : List Oper} {o : Oper} {a : Act} {w : World} {Q : Exit → Act → World → Prop} (hgd : o.guard = none) (x y : Operand) (t : TypeId)
    (ho : o.op = .binOp .eql 38 x y t) (S T : Nat) (hx : a.eval x = .agg #[.int .u64 (wd S 0), .int .u64 (wd S 1), .int .u64 (wd S 2), .int .u64 (wd S 3)]) (hy : a.eval y = .agg #[.int .u64 (wd T 0), .int .u64 (wd T 1), .int .u64 (wd T 2), .int .u64 (wd T 3)]) (hS : S < 2 ^ 256) (hT : T < 2 ^ 256)
    (h : wpList Tryd.prog ops Q rest (a.put o.dst (.bool (decide (S = T)))) w) : wpList Tryd.prog ops Q (o :: rest) a w := by
  have hg : Tryd.prog.eqGuardType Tryd.prog.depth 38 = false := by kernel_rfl
  refine wpList_plain hgd fun _ hK => ?_
  unfold Oper.wp execOp
  simp only [ho, hx, hy, Sem.run_bind, run_eqGuard_agg w .eql 38 x y _ _ hg, run_eql_struct, eqSet, beq_words hS hT, Result.andThen_ok, Sem.run_pure]
  exact hK _ _ h
/-- the list and what is built lie apart -/
def Sep (x v : Value) : Prop := ∀ g, x.ownBlock = some g → v.ownBlock ≠ some g
/-- what is left of the list -/
structure Lst (w : World) (x : Value) (M : List Nat) (v : Value) : Prop where
  at_ : BytesAt w x M
  cap : ∃ a c, x = .slice a M.length c ∧ M.length ≤ c
  sep : Sep x v
  own : ∀ g, x.ownBlock = some g → g < w.heap.size
theorem Lst.ap {w w' : World} {x v v' : Value} {M : List Nat} (h : Lst w x M v) (ha : Ap w v w' v') : Lst w' x M v' := by
  refine ⟨ha.bytes h.at_ h.sep, h.cap, fun g hg hv => ?_, fun g hg => Nat.lt_of_lt_of_le (h.own g hg) ha.size⟩
  rcases ha.own g hv with h1 | h1
  · exact h.sep g hg h1
  · have := h.own g hg; omega
theorem Lst.below {w w' : World} {x v : Value} {M : List Nat} (h : Lst w x M v) (hb : Below w.heap.size w w') : Lst w' x M v := h.ap (Ap.of_below v hb)
theorem bytes_take {w : World} {a : Option Addr} {n c k : Nat} {M : List Nat} (h : BytesAt w (.slice a n c) M) (hk : k ≤ M.length) : BytesAt w (.slice a k c) (M.take k) := by
  obtain ⟨h1, h2, a', c', e, hc⟩ := h
  cases e
  refine ⟨fun x hx => h1 x (List.mem_of_mem_take hx), by rw [List.length_take]; omega, a, c, by rw [List.length_take, Nat.min_eq_left hk], fun i hi => ?_⟩
  rw [List.length_take] at hi
  obtain ⟨b, o, e, hx⟩ := hc i (by omega)
  refine ⟨b, o, e, ?_⟩
  rw [hx, List.getD_eq_getElem?_getD, List.getD_eq_getElem?_getD, List.getElem?_take_of_lt (by omega)]
theorem bytes_drop {w : World} {b o n c d k : Nat} {M : List Nat} (h : BytesAt w (.slice (some ⟨b, o, none⟩) n c) M) (hk : k ≤ M.length) (hn : n = M.length) : BytesAt w (.slice (some ⟨b, o + k, none⟩) (n - k) d) (M.drop k) := by
  obtain ⟨h1, h2, a', c', e, hc⟩ := h
  subst hn
  refine ⟨fun x hx => h1 x (List.mem_of_mem_drop hx), by rw [List.length_drop]; omega, _, d, by rw [List.length_drop], fun i hi => ?_⟩
  rw [List.length_drop] at hi
  obtain ⟨b', o', e, hx⟩ := hc (k + i) (by omega)
  cases e
  cases e
  refine ⟨b, o + k, rfl, ?_⟩
  rw [show o + k + i = o + (k + i) from by omega, hx, List.getD_eq_getElem?_getD, List.getD_eq_getElem?_getD, List.getElem?_drop]
theorem bytes_none {w : World} (a : Option Addr) (c : Nat) : BytesAt w (.slice a 0 c) [] := ⟨fun x hx => (by cases hx), Nat.zero_le _, a, c, rfl, fun i hi => (by cases hi)⟩
def sliceLen : Value → Nat
  | .slice _ n _ => n
  | _ => 0
theorem full_lt : full < 2 ^ 256 := by decide
set_option maxHeartbeats 6400000 in
set_option maxRecDepth 100000 in
theorem addSet_any (B : Nat) (v : Value) (D : List Nat) (S : Nat) (w : World) (hS : S < 2 ^ 256) (hO : Out B w v D) (hD : D.length ≤ 400000000) (hB : B ≤ w.heap.size) (hT : Tab w) (hg : 0 < B) :
    Calls Tryd.prog 26 #[v, .agg #[.int .u64 (wd S 0), .int .u64 (wd S 1), .int .u64 (wd S 2), .int .u64 (wd S 3)]] w (OutAp B w v (D ++ setPr S)) := by
  have HS := Lib.hid hS
  have HO := Lib.hid hO
  have HT := Lib.hid hT
  have hb0 := (Below.refl w.heap.size w).alloc (Nat.le_refl _) (.cells #[.int .u64 (wd S 0), .int .u64 (wd S 1), .int .u64 (wd S 2), .int .u64 (wd S 3)] 38)
  have HB0 := Lib.hid hb0
  have hA := SetAt.new w S 38
  have HA := Lib.hid hA
  have HZ0 : Hid ((w.alloc (.cells #[.int .u64 (wd S 0), .int .u64 (wd S 1), .int .u64 (wd S 2), .int .u64 (wd S 3)] 38)).heap.size = w.heap.size + 1) := Lib.hid (by simp)
  clear hS hO hT hb0 hA
  go_enter Tryd.func26, Tryd.ntmps26
  go_wp2_with fail
  generalize (w.alloc (.cells #[.int .u64 (wd S 0), .int .u64 (wd S 1), .int .u64 (wd S 2), .int .u64 (wd S 3)] 38)) = w1 at *
  have hs1 : w.heap.size < w1.heap.size := by rw [HZ0.out]; omega
  refine region_mix [(false, 0), (true, 1)] (fun w' => Below w1.heap.size w1 w') (by kernel_rfl) (by kernel_rfl) ((Below.refl _ _).drew) ?_
  simp only [planOps, List.map_cons, List.map_nil, List.getD_cons_zero, List.getD_cons_succ, List.length_cons, List.length_nil, List.drop_succ_cons, List.drop_zero]
  refine mix_seg (seg := [_]) rfl ((Below.refl _ _).drew) ?_
  intro ι hι F hF
  have f0 := fun n => ((hF n).cell (p := ⟨w.heap.size, 0, none⟩) hs1).trans HA.out.c0
  have f1 := fun n => ((hF n).cell (p := ⟨w.heap.size, 1, none⟩) hs1).trans HA.out.c1
  have f2 := fun n => ((hF n).cell (p := ⟨w.heap.size, 2, none⟩) hs1).trans HA.out.c2
  have f3 := fun n => ((hF n).cell (p := ⟨w.heap.size, 3, none⟩) hs1).trans HA.out.c3
  repeat (go_big_quiet_step (fail))
  refine wpQuiet_nil ?_
  clear f0 f1 f2 f3 hF hι F
  refine mix_eff (fun K hK => ?_)
  go_wp2_with (go_at_call 31; refine (all_any _).mono ?_; rintro e w3 ⟨rfl, hB3⟩)
  have hW3 := ((Below.refl w1.heap.size w1).drew).trans (hB3.mono (Nat.le_refl _))
  refine mix_on hK hW3 ?_
  clear hK K
  have HW3 := Lib.hid (HB0.out.trans (hW3.mono HB0.out.size))
  have HA3 := Lib.hid (HA.out.kept hW3 hs1)
  clear hB3 hW3
  show wpList _ _ _ _ _ _
  by_cases hf : S = full
  · go_wp2_with (refine wpList_eql_set rfl _ _ _ rfl S full rfl rfl HS.out full_lt ?_; rw [decide_eq_true hf])
    refine NoPanic.normal ?_
    have HSF := Lib.hid hf
    have HO3 := Lib.hid (HO.out.below HW3.out)
    clear hf
    go_wp2_with (refine wpList_out rfl _ _ rfl B v D [46] _ rfl rfl HO3.out rfl (by simp; omega) (Nat.le_trans hB HW3.out.size) ?_; intro v2 w2 hO2 hB2 hA2; have HO2 := Lib.hid hO2; have HA2 := Lib.hid hA2; clear hO2 hA2)
    go_ret
    refine ⟨_, rfl, ?_, (HW3.out.mono hB).trans hB2, (Ap.of_below v HW3.out).trans HA2.out⟩
    have e : setPr S = [46] := by unfold setPr; rw [if_pos HSF.out]
    rw [e]
    exact HO2.out
  · go_wp2_with (refine wpList_eql_set rfl _ _ _ rfl S full rfl rfl HS.out full_lt ?_; rw [decide_eq_false hf])
    refine NoPanic.normal ?_
    have HSF := Lib.hid hf
    have HO3 := Lib.hid (HO.out.below HW3.out)
    have HL := Lib.hid (list_any S w3 (HT.out.below HW3.out (Nat.lt_of_lt_of_le hg hB)) (Nat.lt_of_lt_of_le hg (Nat.le_trans hB HW3.out.size)))
    obtain ⟨c0, c1, c2, c3⟩ := HA3.out
    have hvs : ∀ g, v.ownBlock = some g → g < w3.heap.size := fun g hg => Nat.lt_of_lt_of_le (HO.out.lt g hg).2 HW3.out.size
    have HVS := Lib.hid hvs
    clear hf hvs hs1
    go_wp2_with fail
    refine HL.out.mono ?_
    rintro e w4 ⟨x, rfl, hLo, hB4⟩
    have hLb := owns_bytes hLo (listN_lt S) (by have := listN_len S; unfold maxLen; omega)
    have hL4 : Lst w4 x (listN S) v := by
      refine ⟨hLb, ?_, fun g hg hv => ?_, fun g hg => (hLo.lt g hg).2⟩
      · rcases hLo.2 with ⟨h1, h2⟩ | ⟨g, cap, cur, h1, -, -, h2, -⟩
        · exact ⟨none, 0, by rw [h1, h2], by omega⟩
        · exact ⟨_, cap, h1, h2⟩
      · have h1 := (hLo.lt g hg).1
        have h2 := HVS.out g hv
        omega
    have HL4 := Lib.hid hL4
    have HO4 := Lib.hid (HO3.out.below hB4)
    have HW4 := Lib.hid (HW3.out.trans (hB4.mono HW3.out.size))
    have HSrt := Lib.hid (listN_sorted S)
    have hln := listN_len S
    have hpr : setPr S = if (listN S).length = 1 then esc marks ((listN S).getD 0 0) else 91 :: (runs 256 (listN S) ++ [93]) := by unfold setPr; rw [if_neg HSF.out]
    obtain ⟨a, cp, rfl, hcp⟩ := hL4.cap
    have HPR := Lib.hid hpr
    clear hLo hB4 hLb hL4 hpr c0 c1 c2 c3 HL HA3
    have HBw : Hid (B ≤ w4.heap.size) := Lib.hid (Nat.le_trans hB HW4.out.size)
    generalize listN S = L at *
    by_cases h1 : L.length = 1
    · obtain ⟨b, o, rfl, hc0, hb0⟩ := bytes_cell HL4.out.at_ (i := 0) (by omega)
      have e := HPR.out
      rw [if_pos h1] at e
      have HE := Lib.hid e
      clear e
      rw [Nat.add_zero] at hc0
      generalize L.getD 0 0 = y at *
      rw [h1]
      clear h1
      have hh := addByte_any B v D y sMarks marks w4 hb0 hasMarks HO4.out (by omega) HBw.out
      have HH := Lib.hid hh
      clear hh
      go_wp2_with fail
      refine HH.out.mono ?_
      rintro e w5 ⟨v5, rfl, hO5, hB5, hA5⟩
      have HA5 := Lib.hid ((Ap.of_below v HW4.out).trans hA5)
      have HO5 := Lib.hid hO5
      have HB5 := Lib.hid ((HW4.out.mono hB).trans hB5)
      clear hO5 hB5 hA5
      go_wp2_with fail
      go_ret
      refine ⟨_, rfl, ?_, HB5.out, HA5.out⟩
      rw [HE.out]
      exact HO5.out
    · have hd1 : (((L.length : Nat) : Int) == 1) = false := by rw [beq_eq_false_iff_ne]; omega
      have e := HPR.out
      rw [if_neg h1] at e
      have HE := Lib.hid e
      clear e h1
      go_wp2_with (refine wpList_out rfl _ _ rfl B v D [91] _ rfl rfl HO4.out rfl (by simp; omega) HBw.out ?_; intro v5 w5 hO5 hB5 hA5; have HO5 := Lib.hid hO5; have HB5 := Lib.hid ((HW4.out.mono hB).trans hB5); have HL5 := Lib.hid (HL4.out.ap hA5); have HA5 := Lib.hid ((Ap.of_below v HW4.out).trans hA5); have HBw5 : Hid (B ≤ w5.heap.size) := Lib.hid (Nat.le_trans HBw.out hB5.size); clear hO5 hB5 hA5)
      have hrl := runs_len 256 L
      have HRL := Lib.hid hrl
      clear hrl hd1
      go_loopw [0, 5] (fun u x wr => ∃ M acc, Hid (acc ++ runs 256 M = runs 256 L) ∧ M.length ≤ 256 ∧ Hid (M.Pairwise (· < ·)) ∧ Hid (Out B wr u (D ++ 91 :: acc)) ∧ Hid (Lst wr x M u) ∧ Hid (Below B w wr) ∧ Hid (B ≤ wr.heap.size) ∧ Hid (Ap w v wr u) ∧ ∃ a c, x = .slice a M.length c ∧ M.length ≤ c) (fun _ x _ => sliceLen x)
      case atStart => exact ⟨L, [], Lib.hid rfl, hln, HSrt, HO5, HL5, HB5, HBw5, HA5, a, cp, rfl, hcp⟩
      case round =>
        obtain ⟨M, acc, HAcc, hM, HMs, HO6, HL6, HB6, HBw6, HA6, a6, c6, rfl, hc6⟩ := hrel
        generalize hwr : wr = w6 at *
        clear hwr wr
        have hal : acc.length ≤ 2304 := by
          have h1 := congrArg List.length HAcc.out
          have h2 := HRL.out
          rw [List.length_append] at h1
          omega
        by_cases hMe : M = []
        · subst hMe
          have e2 : setPr S = 91 :: (acc ++ [93]) := by rw [HE.out, ← HAcc.out]; simp [runs]
          have HE2 := Lib.hid e2
          clear e2
          have hle : (D ++ 91 :: acc).length + [93].length ≤ 140737488355328 := by simp only [List.length_append, List.length_cons, List.length_nil]; omega
          have HLe := Lib.hid hle
          clear hle
          go_wp2_with (refine wpList_out rfl _ _ rfl B u0 (D ++ 91 :: acc) [93] _ rfl rfl HO6.out rfl HLe.out HBw6.out ?_; intro v7 w7 hO7 hB7 hA7; have HO7 := Lib.hid hO7; have HB7 := Lib.hid (HB6.out.trans hB7); have HA7 := Lib.hid (HA6.out.trans hA7); clear hO7 hB7 hA7)
          go_ret
          refine ⟨_, rfl, ?_, HB7.out, HA7.out⟩
          rw [HE2.out]
          have := HO7.out
          rw [List.append_assoc] at this
          exact this
        · have hM1 : 1 ≤ M.length := by cases M with | nil => exact absurd rfl hMe | cons x y => simp
          obtain ⟨b, o, rfl, hc0, hb0⟩ := bytes_cell HL6.out.at_ (i := 0) (by omega)
          have hrp : 1 ≤ runLen M := by cases M with | nil => exact absurd rfl hMe | cons x y => exact runLen_pos x y
          have hrl := runLen_le M
          have HStep := Lib.hid (runs_step M hMe hM)
          have HRun := Lib.hid (run_any _ M w6 HL6.out.at_ hMe HMs.out hM)
          have HTake := Lib.hid (fun k (hk : k ≤ M.length) => bytes_take HL6.out.at_ hk)
          have HMe := Lib.hid hMe
          have hd : decide ((0 : Int) < (M.length : Int)) = true := decide_eq_true (by omega)
          clear hc0 hb0 hMe
          obtain ⟨n, hn⟩ : ∃ n, n = runLen M := ⟨_, rfl⟩
          rw [← hn] at hrp hrl HStep HRun
          have HN := Lib.hid hn
          clear hn
          have hd2 : decide ((n : Int) ≤ (c6 : Int)) = true := decide_eq_true (by omega)
          go_wp2_with fail
          refine HRun.out.mono ?_
          rintro e w7 ⟨rfl, hB7⟩
          have HO7 := Lib.hid (HO6.out.below hB7)
          have HL7 := Lib.hid (HL6.out.below hB7)
          have HB7 := Lib.hid (HB6.out.trans (hB7.mono HBw6.out))
          have HA7 := Lib.hid (HA6.out.trans (Ap.of_below u0 hB7))
          have HBw7 : Hid (B ≤ w7.heap.size) := Lib.hid (Nat.le_trans HBw6.out hB7.size)
          clear hB7
          go_wp2_with fail
          have hle : D.length + (acc.length + 1) ≤ 500000000 := by omega
          refine (addRun_any B _ (.slice (some ⟨b, o, none⟩) n c6) (D ++ 91 :: acc) (M.take n) w7 HO7.out (bytes_take HL7.out.at_ hrl) (fun g hg => HL7.out.sep g hg) (by have h2 : (M.take n).length = n := (by rw [List.length_take]; omega); intro h; rw [h] at h2; simp at h2; omega) (by rw [List.length_take]; omega) (by simpa using hle) HBw7.out).mono ?_
          rintro e w8 ⟨v8, rfl, hO8, hB8, hA8⟩
          have HO8 := Lib.hid hO8
          have HL8 := Lib.hid (HL7.out.ap hA8)
          have HB8 := Lib.hid (HB7.out.trans hB8)
          have HA8 := Lib.hid (HA7.out.trans hA8)
          have HBw8 : Hid (B ≤ w8.heap.size) := Lib.hid (Nat.le_trans HBw7.out hB8.size)
          have HAcc8 : Hid ((acc ++ oneRun (M.take n)) ++ runs 256 (M.drop n) = runs 256 L) := Lib.hid (by rw [List.append_assoc, ← HStep.out]; exact HAcc.out)
          have HO9 : Hid (Out B w8 v8 (D ++ 91 :: (acc ++ oneRun (M.take n)))) := Lib.hid (by
            have e : D ++ 91 :: (acc ++ oneRun (M.take n)) = D ++ 91 :: acc ++ oneRun (M.take n) := by simp
            rw [e]; exact HO8.out)
          clear hO8 hB8 hA8 hle
          by_cases hcn : c6 = n
          · subst hcn
            have hMn : c6 = M.length := by omega
            have HL9 : Hid (Lst w8 (.slice (some ⟨b, o, none⟩) 0 0) (M.drop c6) v8) := Lib.hid (by
              rw [hMn, List.drop_length]
              exact ⟨bytes_none _ _, ⟨_, _, rfl, Nat.le_refl _⟩, fun g hg => HL8.out.sep g hg, fun g hg => HL8.out.own g hg⟩)
            go_wp2_with fail
            exact ⟨⟨M.drop c6, acc ++ oneRun (M.take c6), HAcc8, by rw [List.length_drop]; omega, Lib.hid (HMs.out.sublist (List.drop_sublist _ _)), HO9, HL9, HB8, HBw8, HA8, _, 0, by rw [hMn, List.drop_length]; rfl, by rw [hMn, List.drop_length]; exact Nat.le_refl _⟩, by show 0 < M.length; omega⟩
          · have HL9 : Hid (Lst w8 (.slice (some ⟨b, o + n, none⟩) (M.length - n) (c6 - n)) (M.drop n) v8) := Lib.hid
              ⟨bytes_drop HL8.out.at_ hrl rfl, ⟨_, _, by rw [List.length_drop], by rw [List.length_drop]; omega⟩, fun g hg => HL8.out.sep g hg, fun g hg => HL8.out.own g hg⟩
            have hdl : (M.drop n).length = M.length - n := List.length_drop
            have HDl := Lib.hid hdl
            clear hdl
            have hq1 : (M.length : Int) - n = ((M.length - n : Nat) : Int) := by omega
            have hq2 : (c6 : Int) - n = ((c6 - n : Nat) : Int) := by omega
            go_wp2_with fail
            exact ⟨⟨M.drop n, acc ++ oneRun (M.take n), HAcc8, by rw [HDl.out]; omega, Lib.hid (HMs.out.sublist (List.drop_sublist _ _)), HO9, HL9, HB8, HBw8, HA8, _, _, by rw [HDl.out], by rw [HDl.out]; omega⟩, by show M.length - n < M.length; omega⟩
end Go.Proofs.YtbmoanhdpnaocaaDoor
namespace Go.Proofs.YtbmoanhdpnaocaaDoor
open Go.RowKit Sets Tr
def hasK (l : List Nat) (k : Nat) : Bool := l.contains k
set_option maxHeartbeats 3200000 in
set_option maxRecDepth 100000 in
theorem index8_any (v : Value) (l : List Nat) (k : Nat) (w : World) (hv : BytesAt w v l) (hn : l.length ≤ 1000) :
    Calls Tryd.prog 43 #[v, .int .u8 k] w fun e w' => ∃ j : Int, e = .returned (.int .i64 j) ∧ (decide (0 ≤ j) = hasK l k) ∧ w = w' := by
  obtain ⟨a, c, rfl⟩ : ∃ a c, v = .slice a l.length c := by obtain ⟨-, -, a, c, e, -⟩ := hv; exact ⟨a, c, e⟩
  have HV := Lib.hid hv
  clear hv
  go_enter Tryd.func43, Tryd.ntmps43
  go_wp2_with fail
  go_loopw [8] (fun x wr => ∃ m : Nat, x = .int .i64 m ∧ m ≤ l.length ∧ Hid (∀ j, j < m → l.getD j 0 ≠ k) ∧ wr = w) (fun x _ => (l.length - intOf x).toNat)
  case atStart => exact ⟨0, rfl, Nat.zero_le _, Lib.hid (fun j hj => absurd hj (Nat.not_lt_zero _)), rfl⟩
  case round =>
    obtain ⟨m, rfl, hm, HA, rfl⟩ := hrel
    by_cases hml : m < l.length
    · obtain ⟨b, o, rfl, hx, hxb⟩ := bytes_cell HV.out hml
      have hdm : decide ((m : Int) < (l.length : Int)) = true := decide_eq_true (by omega)
      have HMem : Hid (l.getD m 0 = l.getD m 0 ∧ l.getD m 0 ∈ l) := Lib.hid ⟨rfl, by rw [List.getD_eq_getElem?_getD, List.getElem?_eq_getElem hml]; exact List.getElem_mem hml⟩
      obtain ⟨y, hy⟩ : ∃ y, y = l.getD m 0 := ⟨_, rfl⟩
      rw [← hy] at hx hxb HMem
      have HY := Lib.hid hy
      clear hy
      by_cases he : k = y
      · have hq : ((k : Int) == (y : Int)) = true := by rw [beq_iff_eq]; omega
        have HE := Lib.hid he
        clear he
        go_wp2_with fail
        go_ret
        refine ⟨_, rfl, ?_, rfl⟩
        rw [decide_eq_true (by omega : (0 : Int) ≤ (m : Int))]
        symm
        exact List.contains_iff_mem.2 (HE.out ▸ HMem.out.2)
      · have hq : ((k : Int) == (y : Int)) = false := by rw [beq_eq_false_iff_ne]; omega
        have HE := Lib.hid he
        clear he
        go_wp2_with fail
        go_roundw
        case rel =>
          refine ⟨m + 1, by go_num, hml, Lib.hid (fun j hj => ?_), by first | rfl | trivial⟩
          by_cases h : j = m
          · rw [h, ← HY.out]; exact fun e => HE.out e.symm
          · exact HA.out j (by omega)
        case measure => simp only [intOf]; omega
    · have : m = l.length := by omega
      subst this
      have hdm : decide ((l.length : Int) < (l.length : Int)) = false := decide_eq_false (by omega)
      go_wp2_with fail
      go_ret
      refine ⟨_, rfl, ?_, rfl⟩
      rw [decide_eq_false (by omega)]
      symm
      rw [Bool.eq_false_iff]
      intro h
      obtain ⟨j, hj, e⟩ := List.mem_iff_getElem.1 (List.contains_iff_mem.1 h)
      refine HA.out j hj ?_
      rw [List.getD_eq_getElem?_getD, List.getElem?_eq_getElem hj]
      exact e
theorem contains8_any (v : Value) (l : List Nat) (k : Nat) (w : World) (hv : BytesAt w v l) (hn : l.length ≤ 1000) :
    Calls Tryd.prog 36 #[v, .int .u8 k] w fun e w' => e = .returned (.bool (hasK l k)) ∧ w = w' := by
  have HI := Lib.hid (index8_any v l k w hv hn)
  clear hv
  go_enter Tryd.func36, Tryd.ntmps36
  go_wp2_with (go_at_call 43; refine HI.out.mono ?_; rintro e w' ⟨j, rfl, hj, rfl⟩)
  go_ret
  exact ⟨by rw [← hj]; rfl, rfl⟩
/-- what addNode does at a number -/
def Adds (W : World) (nv : Value) (r s : Nat) (p : List Nat) : Prop := ∀ (v : Value) (D : List Nat) (w : World), Out W.heap.size w v D → Below W.heap.size W w → D.length + 2400 * s ≤ 100000000 →
  Calls Tryd.prog 18 #[v, nv, .int .i64 r] w (OutAp W.heap.size w v (D ++ p))
set_option maxHeartbeats 3200000 in
set_option maxRecDepth 100000 in
theorem addBelow_any (W : World) (nv : Value) (N : List Nd) (hN : NodesAt W nv N) (r s : Nat) (p : List Nat) (hA : Adds W nv r s p) (hp : p.length ≤ 2400 * s) (hr : r < N.length)
    (v x : Value) (D l : List Nat) (w : World) (hO : Out W.heap.size w v D) (hW : Below W.heap.size W w) (hx : BytesAt w x l) (hl : l.length ≤ 10) (hD : D.length + 1 + 2400 * s ≤ 100000000) :
    Calls Tryd.prog 27 #[v, nv, .int .i64 r, x] w (OutAp W.heap.size w v (D ++ wr (hasK l (N.getD r default).k) p)) := by
  obtain ⟨na, nc, rfl⟩ : ∃ a c, nv = .slice a N.length c := by obtain ⟨-, -, a, c, e, -⟩ := hN; exact ⟨a, c, e⟩
  obtain ⟨b, o, rfl, hr0, hok⟩ := hN.at hr
  have hc0 : w.cell? ⟨b, o + r * 9, none⟩ = some (.int .u8 (N.getD r default).k) := (range_kept hr0 hW) 0 _ (nd9_get _).1
  have HC := Lib.hid (contains8_any x l (N.getD r default).k w hx (by omega))
  have HO := Lib.hid hO
  have HW := Lib.hid hW
  have HA := Lib.hid hA
  obtain ⟨xa, xc, rfl⟩ : ∃ a c, x = .slice a l.length c := by obtain ⟨-, -, a, c, e, -⟩ := hx; exact ⟨a, c, e⟩
  have hrN : decide ((r : Int) < (N.length : Int)) = true := decide_eq_true (by omega)
  clear hr0 hok hO hW hA hx hN
  generalize (N.getD r default).k = k at *
  go_enter Tryd.func27, Tryd.ntmps27
  cases hcc : hasK l k
  · rw [hcc] at HC
    clear hcc
    go_wp2_with (go_at_call 36; refine HC.out.mono ?_; rintro e w' ⟨rfl, rfl⟩)
    refine (HA.out v D w HO.out HW.out (by omega)).mono ?_
    rintro e w2 ⟨v2, rfl, hO2, hB2, hA2⟩
    have HO2 := Lib.hid hO2
    clear hO2
    go_wp2_with fail
    go_ret
    exact ⟨_, rfl, HO2.out, hB2, hA2⟩
  · rw [hcc] at HC
    clear hcc
    go_wp2_with (first
      | (go_at_call 36; refine HC.out.mono ?_; rintro e w' ⟨rfl, rfl⟩)
      | (refine wpList_out rfl _ _ rfl W.heap.size v D [40] _ rfl rfl HO.out rfl (by simp; omega) HW.out.size ?_; intro v2 w2 hO2 hB2 hA2; have HO2 := Lib.hid hO2; have HB2 := Lib.hid hB2; have HA2 := Lib.hid hA2; clear hO2 hB2 hA2))
    refine (HA.out v2 _ w2 HO2.out (HW.out.trans HB2.out) (by simp only [List.length_append, List.length_cons, List.length_nil]; omega)).mono ?_
    rintro e w3 ⟨v3, rfl, hO3, hB3, hA3⟩
    have HO3 := Lib.hid hO3
    have HB3 := Lib.hid (HB2.out.trans hB3)
    have HA3 := Lib.hid (HA2.out.trans hA3)
    clear hO3 hB3 hA3
    go_wp2_with (refine wpList_out rfl _ _ rfl W.heap.size v3 _ [41] _ rfl rfl HO3.out rfl (by simp only [List.length_append, List.length_cons, List.length_nil]; omega) (HW.out.trans HB3.out).size ?_; intro v4 w4 hO4 hB4 hA4; have HO4 := Lib.hid hO4; have HB4 := Lib.hid (HB3.out.trans hB4); have HA4 := Lib.hid (HA3.out.trans hA4); clear hO4 hB4 hA4)
    go_ret
    refine ⟨_, rfl, ?_, HB4.out, HA4.out⟩
    have := HO4.out
    simp only [List.append_assoc, List.cons_append, List.nil_append] at this
    exact this
end Go.Proofs.YtbmoanhdpnaocaaDoor
namespace Go.Proofs.YtbmoanhdpnaocaaDoor
open Go.RowKit Sets Tr
def dS (m : Nat) : ByteArray := ⟨#[(48 + m).toUInt8]⟩
set_option maxHeartbeats 800000 in
set_option maxRecDepth 100000 in
theorem small_any (m : Nat) (hm : m < 10) (w : World) : Calls Tryd.prog 54 #[.int .i64 m] w fun e w' => e = .returned (.string (dS m)) ∧ w = w' := by
  have : m = 0 ∨ m = 1 ∨ m = 2 ∨ m = 3 ∨ m = 4 ∨ m = 5 ∨ m = 6 ∨ m = 7 ∨ m = 8 ∨ m = 9 := by omega
  rcases this with rfl | rfl | rfl | rfl | rfl | rfl | rfl | rfl | rfl | rfl
  all_goals
    go_enter Tryd.func54, Tryd.ntmps54
    go_wp2_with fail
    go_ret
    exact ⟨rfl, rfl⟩
set_option maxHeartbeats 1600000 in
set_option maxRecDepth 100000 in
theorem appendUint_any (B : Nat) (v : Value) (D : List Nat) (m : Nat) (hm : m < 10) (w : World) (hO : Out B w v D) (hD : D.length ≤ 1000000000) (hB : B ≤ w.heap.size) :
    Calls Tryd.prog 50 #[v, .int .u64 m, .int .i64 10] w (OutAp B w v (D ++ [48 + m])) := by
  have HS := Lib.hid (small_any m hm w)
  have HO := Lib.hid hO
  have hd : decide ((m : Int) < 100) = true := decide_eq_true (by omega)
  clear hO
  go_enter Tryd.func50, Tryd.ntmps50
  go_wp2_with (first
    | (go_at_call 54; refine HS.out.mono ?_; rintro e w' ⟨rfl, rfl⟩)
    | (refine wpList_outS rfl _ _ rfl B v D [48 + m] (dS m) rfl rfl (by intro x hx; simp at hx; omega) rfl HO.out (by simp; omega) hB ?_; intro v2 w2 hO2 hB2 hA2; have HO2 := Lib.hid hO2; have HA2 := Lib.hid hA2; clear hO2 hA2))
  go_ret
  exact ⟨_, rfl, HO2.out, hB2, HA2.out⟩
set_option maxHeartbeats 1600000 in
set_option maxRecDepth 100000 in
theorem appendInt_any (B : Nat) (v : Value) (D : List Nat) (m : Nat) (hm : m < 10) (w : World) (hO : Out B w v D) (hD : D.length ≤ 1000000000) (hB : B ≤ w.heap.size) :
    Calls Tryd.prog 37 #[v, .int .i64 m, .int .i64 10] w (OutAp B w v (D ++ [48 + m])) := by
  have HU := Lib.hid (appendUint_any B v D m hm w hO hD hB)
  have HI : Hid (Calls Tryd.prog 44 #[v, .int .i64 m, .int .i64 10] w (OutAp B w v (D ++ [48 + m]))) := Lib.hid (by
    have hd : decide ((m : Int) < 0) = false := decide_eq_false (by omega)
    clear hO
    go_enter Tryd.func44, Tryd.ntmps44
    go_wp2_with fail
    refine HU.out.mono ?_
    rintro e w2 ⟨v2, rfl, hO2, hB2, hA2⟩
    have HO2 := Lib.hid hO2
    clear hO2
    go_wp2_with fail
    go_ret
    exact ⟨_, rfl, HO2.out, hB2, hA2⟩)
  clear hO
  go_enter Tryd.func37, Tryd.ntmps37
  go_wp2_with fail
  refine HI.out.mono ?_
  rintro e w2 ⟨v2, rfl, hO2, hB2, hA2⟩
  have HO2 := Lib.hid hO2
  clear hO2
  go_wp2_with fail
  go_ret
  exact ⟨_, rfl, HO2.out, hB2, hA2⟩
set_option maxHeartbeats 6400000 in
set_option maxRecDepth 100000 in
theorem addTimes_any (B : Nat) (v : Value) (D : List Nat) (m n : Int) (hc : countable m n = true) (w : World) (hO : Out B w v D) (hD : D.length ≤ 500000000) (hB : B ≤ w.heap.size) :
    Calls Tryd.prog 28 #[v, .int .i64 m, .int .i64 n] w (OutAp B w v (D ++ tm m n)) := by
  have HO := Lib.hid hO
  clear hO
  have hcc := hc
  unfold countable at hcc
  clear hc
  go_enter Tryd.func28, Tryd.ntmps28
  by_cases h1 : n = -1
  · rw [if_pos h1] at hcc
    have hm := of_decide_eq_true hcc
    subst h1
    clear hcc
    rcases hm with rfl | rfl
    · go_wp2_with (refine wpList_out rfl _ _ rfl B v D [42] _ rfl rfl HO.out rfl (by simp; omega) hB ?_; intro v2 w2 hO2 hB2 hA2; have HO2 := Lib.hid hO2; have HB2 := Lib.hid hB2; have HA2 := Lib.hid hA2; clear hO2 hB2 hA2)
      go_ret
      exact ⟨_, rfl, HO2.out, HB2.out, HA2.out⟩
    · go_wp2_with (refine wpList_out rfl _ _ rfl B v D [43] _ rfl rfl HO.out rfl (by simp; omega) hB ?_; intro v2 w2 hO2 hB2 hA2; have HO2 := Lib.hid hO2; have HB2 := Lib.hid hB2; have HA2 := Lib.hid hA2; clear hO2 hB2 hA2)
      go_ret
      exact ⟨_, rfl, HO2.out, HB2.out, HA2.out⟩
  · rw [if_neg h1] at hcc
    obtain ⟨h2, h3, h4⟩ := of_decide_eq_true hcc
    clear hcc
    obtain ⟨a, rfl⟩ : ∃ a : Nat, m = (a : Int) := ⟨m.toNat, by omega⟩
    obtain ⟨b, rfl⟩ : ∃ b : Nat, n = (b : Int) := ⟨n.toNat, by omega⟩
    have g1 : ((b : Int) == -1) = false := by rw [beq_eq_false_iff_ne]; omega
    by_cases h5 : a = 0 ∧ b = 1
    · obtain ⟨rfl, rfl⟩ := h5
      go_wp2_with (refine wpList_out rfl _ _ rfl B v D [63] _ rfl rfl HO.out rfl (by simp; omega) hB ?_; intro v2 w2 hO2 hB2 hA2; have HO2 := Lib.hid hO2; have HB2 := Lib.hid hB2; have HA2 := Lib.hid hA2; clear hO2 hB2 hA2)
      go_ret
      exact ⟨_, rfl, HO2.out, HB2.out, HA2.out⟩
    · have htm : tm (a : Int) (b : Int) = 123 :: (48 + a) :: ((if b ≠ a then [44, 48 + b] else []) ++ [125]) := by
        unfold tm
        rw [if_neg h1, if_neg (by omega)]
        unfold dig
        simp only [Int.toNat_natCast]
        by_cases hab : b = a
        · rw [if_neg (by omega), if_neg (by omega)]
        · rw [if_pos (by omega), if_pos hab]
      have HT := Lib.hid htm
      have hg : ((a : Int) == 0 && (b : Int) == 1) = false := by
        rw [Bool.and_eq_false_iff]
        by_cases ha : a = 0
        · exact .inr (by rw [beq_eq_false_iff_ne]; omega)
        · exact .inl (by rw [beq_eq_false_iff_ne]; omega)
      have ha9 : a < 10 := by omega
      have hb9 : b < 10 := by omega
      clear htm h1 h2 h3 h4
      by_cases ha : a = 0
      · have gb : ((b : Int) == 1) = false := by rw [beq_eq_false_iff_ne]; omega
        subst ha
        clear h5 hg
        go_wp2_with (refine wpList_out rfl _ _ rfl B v D [123] _ rfl rfl HO.out rfl (by simp; omega) hB ?_; intro v2 w2 hO2 hB2 hA2; have HO2 := Lib.hid hO2; have HB2 := Lib.hid hB2; have HA2 := Lib.hid hA2; clear hO2 hB2 hA2)
        refine (appendInt_any B v2 _ 0 ha9 w2 HO2.out (by simp; omega) (Nat.le_trans hB HB2.out.size)).mono ?_
        rintro e w3 ⟨v3, rfl, hO3, hB3, hA3⟩
        have HO3 := Lib.hid hO3
        have HB3 := Lib.hid (HB2.out.trans hB3)
        have HA3 := Lib.hid (HA2.out.trans hA3)
        clear hO3 hB3 hA3
        by_cases hab : b = 0
        · have gab : ((b : Int) != (0 : Int)) = false := by rw [bne_eq_false_iff_eq]; omega
          have e1 := HT.out
          rw [if_neg (by omega)] at e1
          have HT1 := Lib.hid e1
          clear e1 hab
          go_wp2_with (refine wpList_out rfl _ _ rfl B v3 _ [125] _ rfl rfl HO3.out rfl (by simp; omega) (Nat.le_trans hB HB3.out.size) ?_; intro v4 w4 hO4 hB4 hA4; have HO4 := Lib.hid hO4; have HB4 := Lib.hid (HB3.out.trans hB4); have HA4 := Lib.hid (HA3.out.trans hA4); clear hO4 hB4 hA4)
          go_ret
          refine ⟨_, rfl, ?_, HB4.out, HA4.out⟩
          rw [HT1.out]
          have := HO4.out
          simp only [List.append_assoc, List.cons_append, List.nil_append] at this ⊢
          exact this
        · have gab : ((b : Int) != (0 : Int)) = true := by rw [bne_iff_ne]; omega
          have e1 := HT.out
          rw [if_pos (by omega)] at e1
          have HT1 := Lib.hid e1
          clear e1 hab
          go_wp2_with (refine wpList_out rfl _ _ rfl B v3 _ [44] _ rfl rfl HO3.out rfl (by simp; omega) (Nat.le_trans hB HB3.out.size) ?_; intro v4 w4 hO4 hB4 hA4; have HO4 := Lib.hid hO4; have HB4 := Lib.hid (HB3.out.trans hB4); have HA4 := Lib.hid (HA3.out.trans hA4); clear hO4 hB4 hA4)
          refine (appendInt_any B v4 _ b hb9 w4 HO4.out (by simp; omega) (Nat.le_trans hB HB4.out.size)).mono ?_
          rintro e w5 ⟨v5, rfl, hO5, hB5, hA5⟩
          have HO5 := Lib.hid hO5
          have HB5 := Lib.hid (HB4.out.trans hB5)
          have HA5 := Lib.hid (HA4.out.trans hA5)
          clear hO5 hB5 hA5
          go_wp2_with (refine wpList_out rfl _ _ rfl B v5 _ [125] _ rfl rfl HO5.out rfl (by simp; omega) (Nat.le_trans hB HB5.out.size) ?_; intro v6 w6 hO6 hB6 hA6; have HO6 := Lib.hid hO6; have HB6 := Lib.hid (HB5.out.trans hB6); have HA6 := Lib.hid (HA5.out.trans hA6); clear hO6 hB6 hA6)
          go_ret
          refine ⟨_, rfl, ?_, HB6.out, HA6.out⟩
          rw [HT1.out]
          have := HO6.out
          simp only [List.append_assoc, List.cons_append, List.nil_append] at this ⊢
          exact this
      · have ga : ((a : Int) == 0) = false := by rw [beq_eq_false_iff_ne]; omega
        clear ha
        clear h5 hg
        go_wp2_with (refine wpList_out rfl _ _ rfl B v D [123] _ rfl rfl HO.out rfl (by simp; omega) hB ?_; intro v2 w2 hO2 hB2 hA2; have HO2 := Lib.hid hO2; have HB2 := Lib.hid hB2; have HA2 := Lib.hid hA2; clear hO2 hB2 hA2)
        refine (appendInt_any B v2 _ a ha9 w2 HO2.out (by simp; omega) (Nat.le_trans hB HB2.out.size)).mono ?_
        rintro e w3 ⟨v3, rfl, hO3, hB3, hA3⟩
        have HO3 := Lib.hid hO3
        have HB3 := Lib.hid (HB2.out.trans hB3)
        have HA3 := Lib.hid (HA2.out.trans hA3)
        clear hO3 hB3 hA3
        by_cases hab : b = a
        · have gab : ((b : Int) != (a : Int)) = false := by rw [bne_eq_false_iff_eq]; omega
          have e1 := HT.out
          rw [if_neg (by omega)] at e1
          have HT1 := Lib.hid e1
          clear e1 hab
          go_wp2_with (refine wpList_out rfl _ _ rfl B v3 _ [125] _ rfl rfl HO3.out rfl (by simp; omega) (Nat.le_trans hB HB3.out.size) ?_; intro v4 w4 hO4 hB4 hA4; have HO4 := Lib.hid hO4; have HB4 := Lib.hid (HB3.out.trans hB4); have HA4 := Lib.hid (HA3.out.trans hA4); clear hO4 hB4 hA4)
          go_ret
          refine ⟨_, rfl, ?_, HB4.out, HA4.out⟩
          rw [HT1.out]
          have := HO4.out
          simp only [List.append_assoc, List.cons_append, List.nil_append] at this ⊢
          exact this
        · have gab : ((b : Int) != (a : Int)) = true := by rw [bne_iff_ne]; omega
          have e1 := HT.out
          rw [if_pos (by omega)] at e1
          have HT1 := Lib.hid e1
          clear e1 hab
          go_wp2_with (refine wpList_out rfl _ _ rfl B v3 _ [44] _ rfl rfl HO3.out rfl (by simp; omega) (Nat.le_trans hB HB3.out.size) ?_; intro v4 w4 hO4 hB4 hA4; have HO4 := Lib.hid hO4; have HB4 := Lib.hid (HB3.out.trans hB4); have HA4 := Lib.hid (HA3.out.trans hA4); clear hO4 hB4 hA4)
          refine (appendInt_any B v4 _ b hb9 w4 HO4.out (by simp; omega) (Nat.le_trans hB HB4.out.size)).mono ?_
          rintro e w5 ⟨v5, rfl, hO5, hB5, hA5⟩
          have HO5 := Lib.hid hO5
          have HB5 := Lib.hid (HB4.out.trans hB5)
          have HA5 := Lib.hid (HA4.out.trans hA5)
          clear hO5 hB5 hA5
          go_wp2_with (refine wpList_out rfl _ _ rfl B v5 _ [125] _ rfl rfl HO5.out rfl (by simp; omega) (Nat.le_trans hB HB5.out.size) ?_; intro v6 w6 hO6 hB6 hA6; have HO6 := Lib.hid hO6; have HB6 := Lib.hid (HB5.out.trans hB6); have HA6 := Lib.hid (HA5.out.trans hA6); clear hO6 hB6 hA6)
          go_ret
          refine ⟨_, rfl, ?_, HB6.out, HA6.out⟩
          rw [HT1.out]
          have := HO6.out
          simp only [List.append_assoc, List.cons_append, List.nil_append] at this ⊢
          exact this
end Go.Proofs.YtbmoanhdpnaocaaDoor
