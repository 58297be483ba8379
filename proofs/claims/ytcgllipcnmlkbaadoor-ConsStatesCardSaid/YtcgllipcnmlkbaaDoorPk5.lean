/- repeat. -/
import Derived.Test.YtcgllipcnmlkbaaDoorPkU
import Derived.Test.YtcgllipcnmlkbaaDoorPkW
namespace Go.Proofs.YtcgllipcnmlkbaaDoor
open Go.RowKit Sets Tr Rx Sp
theorem wrap_sm (n : Nat) (h : n < 4294967296) : IntKind.i64.wrap (n : Int) = (n : Int) := by rw [IntKind.wrap_i64]; omega
theorem getD_left {α : Type} {l r : List α} {d : α} {i : Nat} (h : i < l.length) : (l ++ r).getD i d = l.getD i d := by
  rw [List.getD_eq_getElem?_getD, List.getD_eq_getElem?_getD, List.getElem?_append_left h]
theorem getD_right {α : Type} {l r : List α} {d : α} (n i : Nat) (h : l.length = n) : (l ++ r).getD (n + i) d = r.getD i d := by
  rw [List.getD_eq_getElem?_getD, List.getD_eq_getElem?_getD, List.getElem?_append_right (by omega), h, Nat.add_sub_cancel_left]
theorem set_at (m : Mk) (P : List Nat) (n i j : Nat) (hP : P.length = n) (hi : 1 ≤ i) (hj : j < m.s.length) : (P ++ cS m 0 i ++ m.s.take j).getD (n + j) 0 = m.s.getD j 0 := by
  obtain ⟨i, rfl⟩ : ∃ k, i = k + 1 := ⟨i - 1, by omega⟩
  rw [List.append_assoc, getD_right _ _ hP, cS_head, List.append_assoc, getD_left hj]
theorem fol_at (m : Mk) (G : List Nat) (n i j : Nat) (hG : G.length = n) (hi : 1 ≤ i) (hj : j < m.s.length) (hl : m.f.length = m.s.length) : (G ++ cF m n 0 i ++ (up (n + i * m.s.length) m.f).take j).getD (n + j) 0 = m.f.getD j 0 <<< n := by
  obtain ⟨i, rfl⟩ : ∃ k, i = k + 1 := ⟨i - 1, by omega⟩
  rw [List.append_assoc, getD_right _ _ hG, cF_first, List.append_assoc, getD_left (by rw [up_length]; omega), List.getD_eq_getElem?_getD, up_get, List.getElem?_eq_getElem (by omega), List.getD_eq_getElem?_getD, List.getElem?_eq_getElem (by omega)]
  rfl
theorem take_more {α : Type} [Inhabited α] (l : List α) (j : Nat) (d : α) (hj : j < l.length) : l.take (j + 1) = l.take j ++ [l.getD j d] := by
  rw [List.take_add_one, List.getD_eq_getElem?_getD, List.getElem?_eq_getElem hj]; rfl
theorem fol_more (m : Mk) (n sh j : Nat) (hjf : j < m.f.length) : (up (n + sh) m.f).take (j + 1) = (up (n + sh) m.f).take j ++ [(m.f.getD j 0 <<< n) <<< sh] := by
  rw [take_more _ j 0 (by rw [up_length]; exact hjf), List.getD_eq_getElem?_getD, up_get, List.getElem?_eq_getElem hjf, List.getD_eq_getElem?_getD, List.getElem?_eq_getElem hjf, ← Nat.shiftLeft_add]
  rfl
theorem meas5 {n W j k : Nat} (h : n + j = k) (hj : j < W) : (((n + W : Nat) : Int) - ((k + 1 : Nat) : Int)).toNat < (((n + W : Nat) : Int) - (k : Int)).toNat := by omega
theorem next5 {n j k l : Nat} (h : n + j = k) (hl : k < l) (h4 : l ≤ 63) : wrap64 ((k : Int) + 1) = ((n + (j + 1) : Nat) : Int) := by unfold wrap64; omega
theorem next5' {n j k : Nat} (h : n + j = k) : n + (j + 1) = k + 1 := by omega
theorem meas6 {i many : Nat} (h : i < many) : ((many : Int) - ((i : Int) + 1)).toNat < ((many : Int) - (i : Int)).toNat := by omega
theorem en_up (m : Mk) (n sh : Nat) : en m (n + sh) = ⟨(m.fi <<< n) <<< sh, (m.la <<< n) <<< sh, m.em⟩ := by unfold en; rw [Nat.shiftLeft_add, Nat.shiftLeft_add]
structure RepI (w : World) (B A n : Nat) (nv sv fv : Value) (P G : List Nat) (m : Mk) (fi la : Nat) (em : Bool) (wr : World) (i : Nat) (v sv1 fv1 : Value) : Prop where
  at_ : MkAt wr B nv sv1 fv1 (P ++ cS m 0 i) (G ++ cF m n 0 i)
  own : OwnE (A + 1) wr v (cE m n i)
  fr : Fr B w sv fv wr sv1 fv1
  row : ERow wr A fi la em
set_option maxHeartbeats 6400000 in
set_option maxRecDepth 100000 in
theorem repeat_core (B n many : Nat) (nv sv fv : Value) (P G : List Nat) (m : Mk) (fi la W A : Nat) (em : Bool) (w : World) (HFI : Hid (fi = m.fi <<< n)) (HLA : Hid (la = m.la <<< n)) (HEM : Hid (em = m.em)) (HWW : Hid (W = m.s.length)) (hsA : w.heap.size = A)
    (h : MkAt w B nv sv fv (P ++ cS m 0 1) (G ++ cF m n 0 1)) (hP : P.length = n) (hG : G.length = n) (ha : Ok m) (h1 : 1 ≤ many) (h9 : many ≤ 9) (hn : n + many * W ≤ 63) :
    Calls Tryd.prog 60 #[.pointer (some ⟨B, 0, none⟩), .int .i64 n, .agg (en3 fi la em), .int .i64 many] w fun e w' =>
      ∃ v sv' fv', e = .returned v ∧ OwnE (A + 1) w' v (cE m n many) ∧ MkAt w' B nv sv' fv' (P ++ cS m 0 many) (G ++ cF m n 0 many) ∧ Fr B w sv fv w' sv' fv' := by
  have hB := h.row.lt
  rw [hsA] at hB
  have hal1 := (Below.refl w.heap.size w).alloc (Nat.le_refl _) (.cells (en3 fi la em) 80)
  have hE1 := ERow.new w fi la em
  have HM1 := Lib.hid (h.below hal1)
  have HF1 := Lib.hid (Fr.of_below sv fv hal1 (by rw [hsA]; exact hB))
  have hs1 : (w.alloc (.cells (en3 fi la em) 80)).heap.size = A + 1 := by simp [hsA]
  rw [hsA] at hE1
  have HE1 := Lib.hid hE1
  clear h hal1 hE1
  have HN := Lib.hid hn
  have HOK := Lib.hid ha
  have HP := Lib.hid hP
  have HG := Lib.hid hG
  have hl1 : (P ++ cS m 0 1).length = n + W := by rw [List.length_append, cS_len, hP, HWW.out]; omega
  have HE2 := Lib.hid (OwnE.new (w.alloc (.cells (en3 fi la em) 80)) (A + 1) (en m n) (by omega))
  have hal2 := (Below.refl (w.alloc (.cells (en3 fi la em) 80)).heap.size _).alloc (Nat.le_refl _) (.cells (enc3 (en m n)).toArray 80)
  have hR : RepI w B A n nv sv fv P G m fi la em ((w.alloc (.cells (en3 fi la em) 80)).alloc (.cells (enc3 (en m n)).toArray 80)) 1 (.slice (some ⟨A + 1, 0, none⟩) 1 1) sv fv := by
    refine ⟨HM1.out.below hal2, ?_, HF1.out.trans (Fr.of_below sv fv hal2 HM1.out.row.lt), HE1.out.below hal2⟩
    have := HE2.out
    rw [hs1] at this
    have e : cE m n 1 = [en m n] := by unfold cE; simp
    rw [e]
    exact this
  have HR := Lib.hid hR
  clear hR hal2
  have hw : wrap64 ((n : Int) + (W : Int) - (n : Int)) = (W : Int) := by have : W ≤ many * W := Nat.le_mul_of_pos_left _ (by omega); unfold wrap64; omega
  obtain ⟨sa, sc, hsv⟩ := own_slice HM1.out.os
  obtain ⟨c0, c1, c2⟩ := HM1.out.row.cells
  rw [hl1] at hsv
  rw [hsv] at c1
  have HSA := Lib.hid hsA
  clear ha hP hG hn
  unfold en3 at *
  go_enter Tryd.func60, Tryd.ntmps60
  go_wp2_with (first
    | (refine wpList_get_ends rfl _ rfl A fi la em rfl HE1.out ?_)
    | (refine wpList_buildEnds rfl _ rfl (en m n) (by rw [HFI.out, HLA.out, HEM.out]; rfl) ?_))
  generalize ((w.alloc (.cells #[.int .u64 fi, .int .u64 la, .bool em] 80)).alloc (.cells (enc3 (en m n)).toArray 80)) = w2 at *
  clear HE2 HE1 HF1 HM1 c0 c1 c2 hsA hs1 hl1 hw hsv
  go_loopw [10, 11] (fun v x wr => ∃ (i : Nat) (sv1 fv1 : Value), x = .int .i64 i ∧ 1 ≤ i ∧ i ≤ many ∧ Hid (RepI w B A n nv sv fv P G m fi la em wr i v sv1 fv1)) (fun _ x _ => (many - intOf x).toNat)
  case atStart => exact ⟨1, sv, fv, rfl, Nat.le_refl _, h1, HR⟩
  case round =>
    obtain ⟨i, sv1, fv1, rfl, hi1, him, HI⟩ := hrel
    clear HR w2
    generalize hwr : wr = w1 at *
    clear hwr wr

    by_cases hlt : i < many
    case neg =>
      have hie : i = many := by omega
      subst hie
      have hd : decide ((i : Int) < (i : Int)) = false := decide_eq_false (by omega)
      have hd2 : decide (i < i) = false := decide_eq_false (by omega)
      go_wp2_with fail
      go_ret
      exact ⟨_, sv1, fv1, rfl, HI.out.own, HI.out.at_, HI.out.fr⟩
    case pos =>
      have hd : decide ((i : Int) < (many : Int)) = true := decide_eq_true (by omega)
      have hd2 : decide (i < many) = true := decide_eq_true (by omega)
      have hiW : i * W ≤ 63 := by have := HN.out; have : i * W ≤ many * W := Nat.mul_le_mul_right _ (by omega); omega
      have hmul : wrap64 ((i : Int) * (W : Int)) = ((i * W : Nat) : Int) := by rw [← Int.natCast_mul]; unfold wrap64; omega
      have HIW := Lib.hid hiW
      clear hiW
      generalize hsf : i * W = sh at *
      have HSH := Lib.hid hsf
      clear hsf
      go_wp2_with fail
      rw [hmul]
      clear hmul hd hd2
      have hok0 := HOK.out
      go_loopw [13] (fun x wr => ∃ (j : Nat) (sv2 fv2 : Value), x = .int .i64 ((n + j : Nat) : Int) ∧ j ≤ W ∧ Hid (MkAt wr B nv sv2 fv2 (P ++ cS m 0 i ++ m.s.take j) (G ++ cF m n 0 i ++ (up (n + sh) m.f).take j)) ∧ Hid (Fr B w1 sv1 fv1 wr sv2 fv2)) (fun x _ => (((n + W : Nat) : Int) - intOf x).toNat)
      case atStart => exact ⟨0, sv1, fv1, rfl, Nat.zero_le _, Lib.hid (by simpa using HI.out.at_), Lib.hid (Fr.refl _ _ HI.out.at_.row.lt)⟩
      case round =>
        obtain ⟨j, sv2, fv2, rfl, hj, HM, HF⟩ := hrel
        generalize hwr : wr = w3 at *
        clear hwr wr
        by_cases hjl : j < W
        case neg =>
          have hje : j = W := by omega
          subst hje
          have hd : decide (((n + j : Nat) : Int) < (n : Int) + (j : Int)) = false := decide_eq_false (by omega)
          have hwn : wrap64 ((n : Int) + (j : Int)) = (n : Int) + (j : Int) := by have := HN.out; have : j ≤ many * j := Nat.le_mul_of_pos_left _ (by omega); unfold wrap64; omega
          have hb5 : sh + (n + j) ≤ 63 := by
            have := HN.out
            have h6 := HSH.out
            have : (i + 1) * j ≤ many * j := Nat.mul_le_mul_right _ (by omega)
            rw [Nat.add_mul] at this
            omega
          have hfb : fi <<< sh < 2 ^ 64 := by
            rw [HFI.out]
            exact Nat.lt_of_lt_of_le (shl_lt (shl_lt hok0.fi)) (Nat.pow_le_pow_right (by decide) (by rw [← HWW.out]; omega))
          have hlb : la <<< sh < 2 ^ 64 := by
            rw [HLA.out]
            exact Nat.lt_of_lt_of_le (shl_lt (shl_lt hok0.la)) (Nat.pow_le_pow_right (by decide) (by rw [← HWW.out]; omega))
          have hs1 := shl_any fi sh (by have := HIW.out; omega) hfb
          have hs2 := shl_any la sh (by have := HIW.out; omega) hlb
          have HEN : Hid (en m (n + sh) = ⟨fi <<< sh, la <<< sh, em⟩) := Lib.hid (by rw [en_up, HFI.out, HLA.out, HEM.out])
          clear hb5 hfb hlb hok0 hj hjl
          generalize fi <<< sh = f2 at *
          generalize la <<< sh = l2 at *
          have HO3 := Lib.hid (HI.out.own.fr HI.out.at_ HF.out)
          have HR3 := Lib.hid (HI.out.row.fr HI.out.at_ HF.out)
          have HF3 := Lib.hid (HI.out.fr.trans HF.out)
          have HM3 : Hid (MkAt w3 B nv sv2 fv2 (P ++ cS m 0 (i + 1)) (G ++ cF m n 0 (i + 1))) := Lib.hid (by
            have h5 := HM.out
            rw [List.take_of_length_le (by have := HWW.out; omega), List.take_of_length_le (by rw [up_length, HOK.out.len]; have := HWW.out; omega), List.append_assoc, List.append_assoc] at h5
            rw [cS_snoc, cF_snoc, Nat.zero_add, ← HWW.out, HSH.out]
            exact h5)
          clear HM HF HI
          obtain ⟨va, vc, hv⟩ := own_slice HO3.out
          rw [cE_len] at hv
          subst hv
          go_wp2_with fail
          obtain ⟨r0, r1, r2⟩ := HR3.out.cells
          refine region_mix [(false, 0), (false, 1), (false, 2), (false, 3), (false, 4), (false, 5), (false, 6), (false, 7), (false, 8), (false, 9), (false, 10), (false, 11), (true, 12), (true, 13)] (fun w' => w'.heap[A]? = w3.heap[A]?) (by kernel_rfl) (by kernel_rfl) rfl ?_
          simp only [planOps, List.map_cons, List.map_nil, List.getD_cons_zero, List.getD_cons_succ, List.length_cons, List.length_nil, List.drop_succ_cons, List.drop_zero]
          refine mix_seg (seg := [_, _, _, _, _, _, _, _, _, _, _, _]) rfl rfl ?_
          intro ι hι F hF
          have g0 := fun n => (HR3.out.kept (hF n)).cells.1
          have g1 := fun n => (HR3.out.kept (hF n)).cells.2.1
          have g2 := fun n => (HR3.out.kept (hF n)).cells.2.2
          repeat (go_big_quiet_step (fail))
          refine wpQuiet_nil ?_
          clear g0 g1 g2 hF hι F
          refine mix_eff (fun K hK => ?_)
          go_wp2_with (refine wpList_buildEnds rfl _ rfl ⟨f2, l2, em⟩ rfl ?_)
          have HAl := Lib.hid ((Below.refl w3.heap.size w3).alloc (Nat.le_refl _) (.cells (enc3 ⟨f2, l2, em⟩).toArray 80)).drew
          refine mix_on hK (HAl.out.block A HR3.out.lt) ?_
          clear hK K
          have HM8 := Lib.hid (HM3.out.below HAl.out)
          have HO8 := Lib.hid (HO3.out.below HAl.out)
          have HR8 := Lib.hid (HR3.out.below HAl.out)
          have HC8 : Hid ((w3.alloc (.cells (enc3 ⟨f2, l2, em⟩).toArray 80)).drew.rangeAt w3.heap.size 0 (enc3 ⟨f2, l2, em⟩)) := Lib.hid (range_new w3 (enc3 ⟨f2, l2, em⟩) 80)
          have HF8 := Lib.hid (HF3.out.trans (Fr.of_below _ _ HAl.out HM3.out.row.lt))
          have HX8 : Hid ((w3.alloc (.cells (enc3 ⟨f2, l2, em⟩).toArray 80)).drew.heap[A]? = w3.heap[A]?) := Lib.hid (HAl.out.block A HR3.out.lt)
          clear HAl
          generalize (w3.alloc (.cells (enc3 ⟨f2, l2, em⟩).toArray 80)).drew = w8 at *
          refine mix_eff (fun K hK => ?_)
          go_wp2_with (refine wpList_append_ends rfl _ _ rfl (A + 1) (.slice va i vc) (cE m n i) ⟨f2, l2, em⟩ rfl w3.heap.size HC8.out HO8.out rfl (by rw [cE_len]; omega) HR8.out.lt ?_; intro v9 w9 hO9 hG9 hE9; have HO9 := Lib.hid hO9; have HG9 := Lib.hid hG9; clear hO9 hG9 hE9)
          have hcA : w9.heap[A]? = w3.heap[A]? := (HG9.out.block A HR8.out.lt (fun e => by have := (HO8.out.lt A e.symm).1; omega)).trans HX8.out
          have HR9 := Lib.hid (HR3.out.kept hcA)
          refine mix_on hK hcA ?_
          clear hK K
          have HM9 := Lib.hid (HM8.out.grown HO8.out (by omega) HG9.out).1
          have HF9 := Lib.hid (HF8.out.grown HO8.out (by have := HSA.out; omega) (by have := HSA.out; omega) HG9.out)
          have HO10 : Hid (OwnE (A + 1) w9 v9 (cE m n (i + 1))) := Lib.hid (by rw [cE_snoc, ← HWW.out, HSH.out, HEN.out]; exact HO9.out)
          clear HO9 HG9 hcA HM8 HF8 HR8 HO8 HX8 HC8
          obtain ⟨b9, c9, hv9⟩ := own_slice HO10.out
          rw [cE_len] at hv9
          subst hv9
          show wpList _ _ _ _ _ _
          go_wp2
          refine NoPanic.normal ?_
          go_wp2
          go_roundw
          case rel =>
            refine ⟨i + 1, sv2, fv2, by rw [Int.natCast_add]; rfl, by omega, hlt, Lib.hid ⟨HM9.out, HO10.out, HF9.out, HR9.out⟩⟩
          case measure => exact meas6 hlt
        case pos =>
          have hWb : n + W ≤ 63 := by have := HN.out; have : W ≤ many * W := Nat.le_mul_of_pos_left _ (by omega); omega
          have hwn : wrap64 ((n : Int) + (W : Int)) = (n : Int) + (W : Int) := by unfold wrap64; omega
          have hd : decide (((n + j : Nat) : Int) < (n : Int) + (W : Int)) = true := decide_eq_true (by omega)
          have hlS : (P ++ cS m 0 i ++ m.s.take j).length = n + sh + j := by
            have := HSH.out
            rw [List.length_append, List.length_append, cS_len, HP.out, ← HWW.out, List.length_take, ← HWW.out, Nat.min_eq_left (by omega)]; omega
          have hlF : (G ++ cF m n 0 i ++ (up (n + sh) m.f).take j).length = n + sh + j := by
            have := HSH.out
            rw [List.length_append, List.length_append, cF_len _ _ _ hok0.len, HG.out, ← HWW.out, List.length_take, up_length, hok0.len, ← HWW.out, Nat.min_eq_left (by omega)]; omega
          have hx := set_at m P n i j HP.out hi1 (by rw [← HWW.out]; exact hjl)
          have hy := fol_at m G n i j HG.out hi1 (by rw [← HWW.out]; exact hjl) hok0.len
          rw [← HWW.out, HSH.out] at hy
          have hWs : 1 ≤ sh := by have := HSH.out; have : W ≤ i * W := Nat.le_mul_of_pos_left _ (by omega); omega
          obtain ⟨q, c, hsv⟩ : ∃ q c, sv2 = .slice (some ⟨q, 0, none⟩) (n + sh + j) c := by
            rcases HM.out.os.2 with ⟨h3, h4⟩ | ⟨g, cap, cur, h3, -⟩
            · rw [hlS] at h4; omega
            · exact ⟨g, cap, by rw [h3, hlS]⟩
          obtain ⟨p, d, hfv⟩ : ∃ q c, fv2 = .slice (some ⟨q, 0, none⟩) (n + sh + j) c := by
            rcases HM.out.of.2 with ⟨h3, h4⟩ | ⟨g, cap, cur, h3, -⟩
            · rw [hlF] at h4; omega
            · exact ⟨g, cap, by rw [h3, hlF]⟩
          have hos := HM.out.os
          have hof := HM.out.of
          rw [hsv, ← hlS] at hos
          rw [hfv, ← hlF] at hof
          have hrg := set_range hos (j := n + j) (by rw [hlS]; omega)
          rw [hx] at hrg
          have hcl := fol_cell hof (j := n + j) (by rw [hlF]; omega)
          rw [hy] at hcl
          have hjf : j < m.f.length := by rw [hok0.len, ← HWW.out]; exact hjl
          have hyb : m.f.getD j 0 < 2 ^ W := by rw [HWW.out]; exact hok0.fol _ (by rw [List.getD_eq_getElem?_getD, List.getElem?_eq_getElem hjf]; exact List.getElem_mem hjf)
          have HSX : Hid (P ++ cS m 0 i ++ m.s.take (j + 1) = P ++ cS m 0 i ++ m.s.take j ++ [m.s.getD j 0]) := Lib.hid (by rw [take_more m.s j 0 (by rw [← HWW.out]; exact hjl), List.append_assoc, List.append_assoc, List.append_assoc])
          have HFX : Hid (G ++ cF m n 0 i ++ (up (n + sh) m.f).take (j + 1) = G ++ cF m n 0 i ++ (up (n + sh) m.f).take j ++ [(m.f.getD j 0 <<< n) <<< sh]) := Lib.hid (by rw [fol_more m n sh j hjf, List.append_assoc, List.append_assoc, List.append_assoc])
          have HXX := Lib.hid hx
          have HYY := Lib.hid hy
          have hshl : IntKind.u64.wrap (((m.f.getD j 0 <<< n : Nat) : Int) * 2 ^ min sh 64) = (((m.f.getD j 0 <<< n) <<< sh : Nat) : Int) := shl_any _ _ (by have := HIW.out; omega) (by
            have h5 := shl_lt (m := sh) (shl_lt (m := n) hyb)
            refine Nat.lt_of_lt_of_le h5 (Nat.pow_le_pow_right (by decide) ?_)
            have := HN.out
            have h6 := HSH.out
            have : (i + 1) * W ≤ many * W := Nat.mul_le_mul_right _ (by omega)
            rw [Nat.add_mul] at this
            omega)
          generalize m.s.getD j 0 = x at *
          generalize m.f.getD j 0 <<< n = y at *
          generalize y <<< sh = z at *
          have HLS := Lib.hid hlS
          have HLF := Lib.hid hlF
          generalize P ++ cS m 0 i ++ m.s.take j = S2 at *
          generalize G ++ cF m n 0 i ++ (up (n + sh) m.f).take j = F2 at *
          have hk1 : decide (((n + j : Nat) : Int) < ((n + sh + j : Nat) : Int)) = true := decide_eq_true (by omega)
          have hk2 : decide (n + j < n + sh + j) = true := decide_eq_true (by omega)
          have hk3 : n + j < n + sh + j := by omega
          have HK4 : Hid (n + sh + j ≤ 63) := Lib.hid (by
            have := HN.out
            have h6 := HSH.out
            have : (i + 1) * W ≤ many * W := Nat.mul_le_mul_right _ (by omega)
            rw [Nat.add_mul] at this
            omega)
          clear hlS hlF hx hy hos hof hyb hjf hWs hWb
          generalize hkk : n + j = k at *
          have HKK := Lib.hid hkk
          generalize hll : n + sh + j = l at *
          have HLL := Lib.hid hll
          clear hkk hll
          obtain ⟨c0, c1, c2⟩ := HM.out.row.cells
          rw [hsv] at c1
          have HRG := Lib.hid hrg
          have HCL := Lib.hid hcl
          clear hrg hcl hok0 hi1 him hlt
          go_wp2_with fail
          refine region_mix [(false, 0), (false, 1), (false, 2), (false, 3), (false, 4), (false, 5), (false, 6), (false, 7), (false, 8), (false, 9), (false, 10), (false, 11), (true, 12), (true, 13), (false, 14), (false, 15)] (fun w' => w'.heap[B]? = w3.heap[B]? ∧ w'.rangeAt q (k * 4) (st4 x)) (by kernel_rfl) (by kernel_rfl) ⟨rfl, HRG.out⟩ ?_
          simp only [planOps, List.map_cons, List.map_nil, List.getD_cons_zero, List.getD_cons_succ, List.length_cons, List.length_nil, List.drop_succ_cons, List.drop_zero]
          refine mix_seg (seg := [_, _, _, _, _, _, _, _, _, _, _, _]) rfl ⟨rfl, HRG.out⟩ ?_
          intro ι hι F hF
          have g1 : ∀ n, (F n).cell? ⟨B, 1, none⟩ = some sv2 := fun n => (HM.out.row.kept (hF n).1).cells.2.1
          rw [hsv] at g1
          have GX : Hid (∀ w', (∃ n, w' = F n) → w'.rangeAt q (k * 4) (st4 x)) := Lib.hid (fun w' ⟨n, e⟩ => by rw [e]; exact (hF n).2)
          repeat (go_big_quiet_step (fail))
          refine BigFrame.wpQuiet_want rfl (fun K hK => ?_)
          refine quiet_load_mid 52 (.tmp 49) rfl q (k * 4) rfl (st4 x) _ GX.out Tryd.underlying52 rfl (by kernel_rfl) ?_
          refine hK _ ?_
          clear hK K
          simp only [Act.put, List.setIfInBounds_toArray, List.set_cons_zero, List.set_cons_succ]
          refine wpQuiet_nil ?_
          clear GX g1 hF hι F
          refine mix_eff (fun K hK => ?_)
          go_wp2_with (refine wpList_buildSet rfl _ rfl x rfl ?_)
          have HAl := Lib.hid ((Below.refl w3.heap.size w3).alloc (Nat.le_refl _) (.cells (st4 x).toArray 52)).drew
          refine mix_on hK ⟨HAl.out.block B HM.out.row.lt, range_kept HRG.out HAl.out⟩ ?_
          clear hK K
          have HM4 := Lib.hid (HM.out.below HAl.out)
          have HC4 : Hid ((w3.alloc (.cells (st4 x).toArray 52)).drew.rangeAt w3.heap.size 0 (st4 x)) := Lib.hid (range_new w3 (st4 x) 52)
          have HF4 := Lib.hid (HF.out.trans (Fr.of_below sv2 fv2 HAl.out HM.out.row.lt))
          have HX4 : Hid ((w3.alloc (.cells (st4 x).toArray 52)).drew.heap[B]? = w3.heap[B]?) := Lib.hid (HAl.out.block B HM.out.row.lt)
          clear HAl
          generalize (w3.alloc (.cells (st4 x).toArray 52)).drew = w4 at *
          refine mix_eff (fun K hK => ?_)
          have HOn := Lib.hid HM4.out.os
          rw [hsv] at HOn
          go_wp2_with (refine wpList_append_set rfl _ _ rfl (B + 1) (.slice (some ⟨q, 0, none⟩) l c) S2 x rfl w3.heap.size HC4.out HOn.out rfl (by have := HLS.out; have := HK4.out; omega) HM4.out.row.lt ?_; intro v5 w5 hO5 hG5 hE5 hk5; have HO5 := Lib.hid hO5; have HG5 := Lib.hid hG5; have HE5 := Lib.hid hE5; have HKP := Lib.hid (hk5 q rfl); clear hO5 hG5 hE5 hk5)
          rw [← hsv] at HG5 HE5
          clear HOn
          obtain ⟨a5, c5, hv5, f1, d0, d1, d2, HM6, HF6⟩ := HM4.out.push_set HO5.out HG5.out HE5.out
          rw [HLS.out] at hv5 HM6 HF6
          have hcB : w5.heap[B]? = w3.heap[B]? := (HG5.out.block B HM4.out.row.lt (fun e => by have := (HM4.out.os.lt B e.symm).1; omega)).trans HX4.out
          have hcq : w5.rangeAt q (k * 4) (st4 x) := fun jj v hv => HKP.out _ _ (sts_get S2 k jj (by rw [HLS.out]; exact hk3) v (by rw [HXX.out]; exact hv))
          refine mix_on hK ⟨hcB, hcq⟩ ?_
          clear hK K HKP
          refine mix_seg (seg := [_, _]) rfl ⟨hcB, hcq⟩ ?_
          intro ι hι F hF
          repeat (go_big_quiet_step (fail))
          refine wpQuiet_nil ?_
          clear hF hι F hcB hcq HO5 HG5 HE5
          rw [hsv] at d1
          show wpList _ _ _ _ _ _
          subst hv5
          go_wp2
          refine NoPanic.normal ?_
          have HF7 := Lib.hid (HF4.out.trans HF6.out)
          generalize (w5.setCell ⟨B, 1, none⟩ (.slice a5 (l + 1) c5)) = w6 at *
          clear HF6 HF4 HX4 HC4 HM4 d0 d1 d2 f1 c0 c1 c2 HRG HCL
          clear w5 w4
          go_wp2_with fail
          have hof := HM6.out.of
          rw [hfv, ← HLF.out] at hof
          have hcl := fol_cell hof (j := k) (by rw [HLF.out]; exact hk3)
          rw [HYY.out] at hcl
          have HCL := Lib.hid hcl
          clear hof hcl
          obtain ⟨c0, c1, c2⟩ := HM6.out.row.cells
          rw [hfv] at c2
          refine region_mix [(false, 0), (false, 1), (false, 2), (false, 3), (false, 4), (false, 5), (false, 6), (false, 7), (false, 8), (false, 9), (false, 10), (false, 11), (false, 12), (false, 13), (true, 14), (true, 15), (false, 16), (false, 17)] (fun w' => w'.heap[B]? = w6.heap[B]? ∧ w'.cell? ⟨p, k, none⟩ = some (.int .u64 y)) (by kernel_rfl) (by kernel_rfl) ⟨rfl, HCL.out⟩ ?_
          simp only [planOps, List.map_cons, List.map_nil, List.getD_cons_zero, List.getD_cons_succ, List.length_cons, List.length_nil, List.drop_succ_cons, List.drop_zero]
          refine mix_seg (seg := [_, _, _, _, _, _, _, _, _, _, _, _, _, _]) rfl ⟨rfl, HCL.out⟩ ?_
          intro ι hι F hF
          have g1 : ∀ n, (F n).cell? ⟨B, 2, none⟩ = some fv2 := fun n => (HM6.out.row.kept (hF n).1).cells.2.2
          have g2 := fun n => (hF n).2
          rw [hfv] at g1
          repeat (go_big_quiet_step (fail))
          refine wpQuiet_nil ?_
          clear g1 g2 hF hι F
          refine mix_eff (fun K hK => ?_)
          go_wp2_with fail
          have HAl := Lib.hid ((Below.refl w6.heap.size w6).alloc (Nat.le_refl _) (.cells #[.int .u64 z] 24)).drew
          have hcl8 : (w6.alloc (.cells #[.int .u64 z] 24)).drew.cell? ⟨p, k, none⟩ = some (.int .u64 y) := HAl.out.cell (World.block_lt_of_cell? _ _ HCL.out) |>.trans HCL.out
          refine mix_on hK ⟨HAl.out.block B HM6.out.row.lt, hcl8⟩ ?_
          clear hK K hcl8
          have HM8 := Lib.hid (HM6.out.below HAl.out)
          have HC8 : Hid ((w6.alloc (.cells #[.int .u64 z] 24)).drew.cell? ⟨w6.heap.size, 0, none⟩ = some (.int .u64 z)) := Lib.hid (by show (w6.alloc _).cell? _ = _; simp)
          have HF8 := Lib.hid (HF7.out.trans (Fr.of_below _ _ HAl.out HM6.out.row.lt))
          have HX8 : Hid ((w6.alloc (.cells #[.int .u64 z] 24)).drew.heap[B]? = w6.heap[B]?) := Lib.hid (HAl.out.block B HM6.out.row.lt)
          clear HAl
          generalize (w6.alloc (.cells #[.int .u64 z] 24)).drew = w8 at *
          refine mix_eff (fun K hK => ?_)
          have HOn := Lib.hid HM8.out.of
          rw [hfv] at HOn
          go_wp2_with (refine wpList_append_u64 rfl _ _ rfl (B + 1) (.slice (some ⟨p, 0, none⟩) l d) F2 z rfl w6.heap.size HC8.out HOn.out rfl (by have := HLF.out; have := HK4.out; omega) HM8.out.row.lt ?_; intro v9 w9 hO9 hG9 hE9 hk9; have HO9 := Lib.hid hO9; have HG9 := Lib.hid hG9; have HE9 := Lib.hid hE9; have HKP := Lib.hid (hk9 p rfl); clear hO9 hG9 hE9 hk9)
          rw [← hfv] at HG9 HE9
          clear HOn
          obtain ⟨a9, c9, hv9, f1, d0, d1, d2, HM10, HF10⟩ := HM8.out.push_fol HO9.out HG9.out HE9.out
          rw [HLF.out] at hv9 HM10 HF10
          have hcB : w9.heap[B]? = w6.heap[B]? := (HG9.out.block B HM8.out.row.lt (fun e => by have := (HM8.out.of.lt B e.symm).1; omega)).trans HX8.out
          have hcq : w9.cell? ⟨p, k, none⟩ = some (.int .u64 y) := HKP.out _ _ (by
            unfold u64L
            rw [List.getElem?_map, List.getElem?_eq_getElem (by rw [HLF.out]; exact hk3)]
            have := HYY.out
            rw [List.getD_eq_getElem?_getD, List.getElem?_eq_getElem (by rw [HLF.out]; exact hk3)] at this
            rw [← this]; rfl)
          refine mix_on hK ⟨hcB, hcq⟩ ?_
          clear hK K HKP
          refine mix_seg (seg := [_, _]) rfl ⟨hcB, hcq⟩ ?_
          intro ι hι F hF
          repeat (go_big_quiet_step (fail))
          refine wpQuiet_nil ?_
          clear hF hι F hcB hcq HO9 HG9 HE9
          rw [hfv] at d2
          show wpList _ _ _ _ _ _
          subst hv9
          go_wp2
          refine NoPanic.normal ?_
          have HF11 := Lib.hid (HF8.out.trans HF10.out)
          generalize (w9.setCell ⟨B, 2, none⟩ (.slice a9 (l + 1) c9)) = w10 at *
          clear HF8 HF10 HX8 HC8 HM8 d0 d1 d2 f1 c0 c1 c2 HCL HM6 HF7 HF HM
          clear w9 w8
          have HW1 := Lib.hid (next5 HKK.out hk3 HK4.out)
          go_wp2
          go_roundw
          case rel =>
            refine ⟨j + 1, .slice a5 (l + 1) c5, .slice a9 (l + 1) c9, ?_, hjl, Lib.hid ?_, HF11⟩
            · rw [HW1.out]
            · rw [HSX.out, HFX.out]; exact HM10.out
          case measure =>
            rw [HW1.out, next5' HKK.out]
            exact meas5 HKK.out hjl
theorem repeat_any (B n many : Nat) (nv sv fv : Value) (P G : List Nat) (m : Mk) (w : World)
    (h : MkAt w B nv sv fv (P ++ m.s) (G ++ up n m.f)) (hP : P.length = n) (hG : G.length = n) (ha : Ok m) (h1 : 1 ≤ many) (h9 : many ≤ 9) (hn : n + many * m.s.length ≤ 63) :
    Calls Tryd.prog 60 #[.pointer (some ⟨B, 0, none⟩), .int .i64 n, enV n m, .int .i64 many] w fun e w' =>
      ∃ v sv' fv', e = .returned v ∧ OwnE (w.heap.size + 1) w' v (cE m n many) ∧ MkAt w' B nv sv' fv' (P ++ cS m 0 many) (G ++ cF m n 0 many) ∧ Fr B w sv fv w' sv' fv' := by
  have e1 : cS m 0 1 = m.s := by rw [cS_head]; simp [cS_zero]
  have e2 : cF m n 0 1 = up n m.f := by rw [cF_first]; simp [cF]
  exact repeat_core B n many nv sv fv P G m _ _ _ _ _ w (Lib.hid rfl) (Lib.hid rfl) (Lib.hid rfl) (Lib.hid rfl) rfl (by rw [e1, e2]; exact h) hP hG ha h1 h9 hn
end Go.Proofs.YtcgllipcnmlkbaaDoor
