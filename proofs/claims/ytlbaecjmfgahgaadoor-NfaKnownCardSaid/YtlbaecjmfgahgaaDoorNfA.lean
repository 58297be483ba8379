/- reach. -/
import Derived.Test.YtlbaecjmfgahgaaDoorNf9
import Derived.Test.YtlbaecjmfgahgaaDoorNfR
namespace Go.Proofs.YtlbaecjmfgahgaaDoor
open Go.RowKit Sets Nf
namespace Nf
open Classical in
noncomputable def setOf (w : World) (B : Nat) : Nat := if h : ∃ S, SetB w B S ∧ S < 2 ^ 256 then h.choose else 0
theorem SetB.one {w : World} {B S T : Nat} (h : SetB w B S) (g : SetB w B T) (hS : S < 2 ^ 256) (hT : T < 2 ^ 256) : S = T := by
  have e := h.row.symm.trans g.row
  injection e with e
  injection e with e1
  have e2 : setC S = setC T := e1
  unfold setC at e2
  refine ext_words hS hT (fun i hi => ?_)
  have h4 : i = 0 ∨ i = 1 ∨ i = 2 ∨ i = 3 := by omega
  simp at e2
  rcases h4 with rfl | rfl | rfl | rfl <;> omega
theorem setOf_eq {w : World} {B S : Nat} (h : SetB w B S) (hS : S < 2 ^ 256) : setOf w B = S := by
  unfold setOf
  have hex : ∃ S, SetB w B S ∧ S < 2 ^ 256 := ⟨S, h, hS⟩
  rw [dif_pos hex]
  exact SetB.one hex.choose_spec.1 h hex.choose_spec.2 hS
theorem wpList_neq_some {ops : Array Oper} {rest : List Oper} {o : Oper} {a : Act} {w : World} {Q : Exit → Act → World → Prop} (hgd : o.guard = none) (t : TypeId) (x y : Operand) (ho : o.op = .binOp .neq 39 x y t)
    (S : Nat) (hx : a.eval x = .agg (setC S)) (hy : a.eval y = .agg #[.int .u64 0, .int .u64 0, .int .u64 0, .int .u64 0]) (hS : S < 2 ^ 256) (h0 : ¬ S = 0) (h : wpList Tryd.prog ops Q rest (a.put o.dst (.bool true)) w) : wpList Tryd.prog ops Q (o :: rest) a w :=
  wpList_neq_zero hgd t x y ho S hx hy hS (by rw [decide_eq_false h0]; exact h)
theorem wpList_neq_none {ops : Array Oper} {rest : List Oper} {o : Oper} {a : Act} {w : World} {Q : Exit → Act → World → Prop} (hgd : o.guard = none) (t : TypeId) (x y : Operand) (ho : o.op = .binOp .neq 39 x y t)
    (S : Nat) (hx : a.eval x = .agg (setC S)) (hy : a.eval y = .agg #[.int .u64 0, .int .u64 0, .int .u64 0, .int .u64 0]) (hS : S < 2 ^ 256) (h0 : S = 0) (h : wpList Tryd.prog ops Q rest (a.put o.dst (.bool false)) w) : wpList Tryd.prog ops Q (o :: rest) a w :=
  wpList_neq_zero hgd t x y ho S hx hy hS (by rw [decide_eq_true h0]; exact h)
/-- the state of reach -/
structure ReI (G : List Nat) (W R n f all more : Nat) : Prop where
  fu : 256 - cnt all < f
  a : all < 2 ^ 256
  m : more < 2 ^ 256
  d : all &&& more = 0
  r : rchN G W f all more = R
  s : ∀ k, more.testBit k = true → k < n
theorem ReI.step {G : List Nat} {W R n f all more : Nat} (h : ReI G W R n (f + 1) all more) (hW : W < 2 ^ 256) (hWn : ∀ k, W.testBit k = true → k < n) (h0 : more ≠ 0) :
    ReI G W R n f (all ||| more) ((bh G more &&& W) &&& (full ^^^ (all ||| more))) ∧ cnt all < cnt (all ||| more) := by
  have h1 := cnt_pos h0 h.m
  have h2 := cnt_apart h.d
  have h3 := cnt_le (all ||| more)
  have h4 := h.fu
  refine ⟨⟨by omega, lt_or h.a h.m, next_lt _ _ _ _ hW, next_apart _ _ _ _ hW, by rw [← rchN_step _ _ _ _ _ h0]; exact h.r, fun k hk => ?_⟩, by omega⟩
  exact hWn k ((next_bit _ _ _ _ _ hW).1 hk).2.1
set_option maxHeartbeats 6400000 in
set_option maxRecDepth 100000 in
theorem reach_any (ga F W : Nat) (G : List Nat) (w : World) (h : GsB w ga G) (hW : W < 2 ^ 256) (hWn : ∀ k, W.testBit k = true → k < G.length) (hT : Tab w) :
    Calls Tryd.prog 41 #[.agg (setC F), .slice (some ⟨ga, 0, none⟩) G.length G.length, .agg (setC W)] w fun e w' => e = .returned (.agg (setC (rch F G W))) ∧ Below w.heap.size w w' := by
  have HG : Hid (0 < w.heap.size) := Lib.hid (World.block_lt_of_cell? _ _ (hT 0 (by decide)))
  have HR0 : Hid (ReI G W (rch F G W) G.length 257 0 (F &&& W)) := Lib.hid ⟨by rw [cnt_zero]; decide, Nat.two_pow_pos 256, Nat.lt_of_le_of_lt Nat.and_le_right hW, Nat.zero_and _, rfl, fun k hk => hWn k (by rw [Nat.testBit_and, Bool.and_eq_true] at hk; exact hk.2)⟩
  have HW := Lib.hid hW
  have HWn := Lib.hid hWn
  have HT := Lib.hid hT
  have HGs := Lib.hid h
  clear h hW hWn hT
  go_enter Tryd.func41, Tryd.ntmps41
  go_upto_region 2 with fail
  rw [zeroC]
  obtain ⟨w5, hw5⟩ : ∃ w5, w5 = (((w.alloc (.cells (setC F) 39)).alloc (.cells (setC W) 39)).alloc (.cells (setC 0) 39)).alloc (.cells (setC 0) 39) := ⟨_, rfl⟩
  rw [← hw5]
  have b5 : Below w.heap.size w w5 := by
    rw [hw5]
    exact ((((Below.refl _ _).alloc (Nat.le_refl _) _).alloc (by simp) _).alloc (by simp <;> omega) _).alloc (by simp <;> omega) _
  have z5 : w5.heap.size = w.heap.size + 1 + 1 + 1 + 1 := by rw [hw5]; simp
  have s3 : SetB w5 w.heap.size F := by
    rw [hw5]
    exact (((SetB.new w F).kept ((Below.refl (w.heap.size + 1) _).alloc (by simp) _) (by omega)).kept ((Below.refl (w.heap.size + 1) _).alloc (by simp) _) (by omega)).kept ((Below.refl (w.heap.size + 1) _).alloc (by simp <;> omega) _) (by omega)
  have s5 : SetB w5 (w.heap.size + 1) W := by
    rw [hw5]
    have := SetB.new (w.alloc (.cells (setC F) 39)) W
    rw [World.size_alloc] at this
    exact (this.kept ((Below.refl (w.heap.size + 1 + 1) _).alloc (by simp) _) (by omega)).kept ((Below.refl (w.heap.size + 1 + 1) _).alloc (by simp) _) (by omega)
  have s6 : SetB w5 (w.heap.size + 1 + 1) 0 := by
    rw [hw5]
    have := SetB.new ((w.alloc (.cells (setC F) 39)).alloc (.cells (setC W) 39)) 0
    simp only [World.size_alloc] at this
    exact this.stay ((Below.refl _ _).alloc (by simp <;> omega) _)
  have s7 : SetB w5 (w.heap.size + 1 + 1 + 1) 0 := by
    rw [hw5]
    have := SetB.new (((w.alloc (.cells (setC F) 39)).alloc (.cells (setC W) 39)).alloc (.cells (setC 0) 39)) 0
    simp only [World.size_alloc] at this
    exact this
  clear hw5
  have HAN := Lib.hid (and_any F W w5)
  obtain ⟨S, hS⟩ : ∃ S, Hid (w.heap.size = S) := ⟨_, Lib.hid rfl⟩
  rw [hS.out] at z5 s3 s5 s6 s7 ⊢
  go_upto_region 3 with (first
    | (refine wpList_load_set rfl (.tmp 3) rfl S F rfl s3 ?_)
    | (refine wpList_load_set rfl (.tmp 5) rfl (S + 1) W rfl s5 ?_)
    | (go_at_call 36; refine HAN.out.mono ?_; rintro e w6 ⟨rfl, hb6⟩; have HB6 := Lib.hid hb6; clear hb6)
    | (refine wpList_lay_set rfl (.tmp 8) (.tmp 11) rfl (F &&& W) _ rfl rfl rfl ?_))
  have hput : ∀ a : Act, a.put none undef = a := fun _ => rfl
  rw [hput]
  clear hput
  obtain ⟨b8, hb8⟩ : ∃ b8, Hid (w6.heap.size = b8) := ⟨_, Lib.hid rfl⟩
  have hL8 : S + 1 + 1 + 1 < b8 := by rw [← hb8.out]; have := HB6.out.size; omega
  have ha := (Below.refl w6.heap.size w6).alloc (Nat.le_refl _) (.cells (setC (F &&& W)) 39)
  have h56 := HB6.out.trans (ha.mono HB6.out.size)
  have I5 := Lib.hid (s5.stay h56)
  have I6 := Lib.hid (s6.stay h56)
  have I7 := Lib.hid (s7.stay h56)
  have I8 := Lib.hid (SetB.new w6 (F &&& W))
  have IB : Hid (Below S w (w6.alloc (.cells (setC (F &&& W)) 39))) := Lib.hid (by rw [← hS.out]; exact b5.trans (h56.mono b5.size))
  rw [hb8.out] at I8 ⊢
  clear ha h56 s3 s5 s6 s7 HB6 HAN b5
  generalize w6.alloc (.cells (setC (F &&& W)) 39) = w7 at *
  clear hb8 z5 w5 w6
  have HL8 := Lib.hid hL8
  clear hL8
  go_loopw [] (fun wr => ∃ f all more, Hid (ReI G W (rch F G W) G.length f all more) ∧ Hid (SetB wr (S + 1 + 1 + 1) all) ∧ Hid (SetB wr b8 more) ∧ Hid (SetB wr (S + 1) W) ∧ Hid (SetB wr (S + 1 + 1) 0) ∧ Hid (Below S w wr)) (fun wr => 256 - cnt (setOf wr (S + 1 + 1 + 1)))
  case atStart => exact ⟨257, 0, F &&& W, HR0, I7, I8, I5, I6, IB⟩
  case round =>
    obtain ⟨f, all, more, HI, H7, H8, H5, H6, HB⟩ := hrel
    generalize hwr : wr = w2 at *
    clear hwr wr I5 I6 I7 I8 IB w7
    by_cases h0 : more = 0
    · subst h0
      have HV : Hid (rch F G W = all) := Lib.hid (by rw [← HI.out.r, rchN_stop])
      go_wp2_with (first
        | (refine wpList_load_set rfl (.tmp 8) rfl b8 0 rfl H8.out ?_)
        | (refine wpList_neq_zero rfl _ _ _ rfl 0 rfl rfl (Nat.two_pow_pos 256) ?_)
        | (refine wpList_load_set rfl (.tmp 7) rfl (S + 1 + 1 + 1) all rfl H7.out ?_)
        | (refine wpList_store_set rfl (.tmp 6) (.tmp 26) rfl (S + 1 + 1) 0 all rfl rfl H6.out ?_))
      refine bodyPost_ret (v := .agg (setC all)) (results_cell_row (p := 6) Tryd.results41 _ _ (S + 1 + 1) 39 _ (0, 0) _ rfl (H6.out.put all).row Tryd.underlying39 rfl (sizeSet _)) rfl ⟨by rw [HV.out], ?_⟩
      rw [hS.out]
      exact But.below HB.out (But.setRow _ _ _) (by omega) (by have h1 := H6.out.lt; omega)
    · obtain ⟨f, rfl⟩ : ∃ f', f = f' + 1 := ⟨f - 1, by have := HI.out.fu; omega⟩
      have HN := Lib.hid (HI.out.step HW.out HWn.out h0)
      have HML := Lib.hid HI.out.m
      have HOR := Lib.hid (or_any all more w2)
      have hL8 := HL8.out
      go_upto_region 5 with (first
        | (refine wpList_load_set rfl (.tmp 8) rfl b8 more rfl H8.out ?_)
        | (refine wpList_neq_some rfl _ _ _ rfl more rfl rfl HML.out h0 ?_)
        | (refine wpList_load_set rfl (.tmp 7) rfl (S + 1 + 1 + 1) all rfl H7.out ?_)
        | (go_at_call 49; refine HOR.out.mono ?_; rintro e w3 ⟨rfl, hb3⟩; have HB3 := Lib.hid hb3; clear hb3)
        | (refine wpList_store_set rfl (.tmp 7) (.tmp 17) rfl (S + 1 + 1 + 1) all (all ||| more) rfl rfl (H7.out.stay HB3.out) ?_))
      have HB4 : Hid (But (S + 1 + 1 + 1) w2 (w3.setRow (S + 1 + 1 + 1) (setC (all ||| more)))) := Lib.hid ((But.of_below HB3.out).trans (But.setRow _ _ _))
      have J7 := Lib.hid ((H7.out.stay HB3.out).put (all ||| more))
      have J8 := Lib.hid (H8.out.but HB4.out (by omega))
      have J5 := Lib.hid (H5.out.but HB4.out (by omega))
      have J6 := Lib.hid (H6.out.but HB4.out (by omega))
      have JB := Lib.hid (But.below HB.out HB4.out (by omega) (by have h1 := H6.out.lt; omega))
      clear HB4 HB3 HOR
      generalize w3.setRow (S + 1 + 1 + 1) (setC (all ||| more)) = w4 at *
      have HML2 : Hid (∀ k, more.testBit k = true → k < G.length) := Lib.hid HI.out.s
      have HLT : Hid (S + 1 + 1 + 1 < w4.heap.size ∧ b8 < w4.heap.size ∧ S + 1 < w4.heap.size) := Lib.hid ⟨J7.out.lt, J8.out.lt, J5.out.lt⟩
      have hput : ∀ a : Act, a.put none undef = a := fun _ => rfl
      rw [hput]
      clear hput
      refine region_mix [(false, 0), (false, 1), (false, 3), (false, 5), (true, 2), (true, 4), (true, 6), (true, 7)] (fun w' => Below w4.heap.size w4 w') (by kernel_rfl) (by kernel_rfl) ((Below.refl _ _).drew) ?_
      simp only [planOps, List.map_cons, List.map_nil, List.getD_cons_zero, List.getD_cons_succ, List.length_cons, List.length_nil, List.drop_succ_cons, List.drop_zero]
      refine mix_seg (seg := [_, _, _, _]) rfl ((Below.refl _ _).drew) ?_
      intro ι hι F2 hF
      have f1 := Lib.hid (fun n => J8.out.kept (hF n) HLT.out.2.1)
      have f2 := Lib.hid (fun n => J5.out.kept (hF n) HLT.out.2.2)
      have f3 := Lib.hid (fun n => J7.out.kept (hF n) HLT.out.1)
      go_big_quiet_step (fail)
      refine BigFrame.wpQuiet_want rfl (fun K hK => ?_); refine quiet_load_set _ rfl b8 more rfl (fun w' ⟨n, e⟩ => e ▸ f1.out n) ?_; refine hK _ ?_; clear hK K; simp only [Act.put, List.setIfInBounds_toArray, List.set_cons_zero, List.set_cons_succ]
      refine BigFrame.wpQuiet_want rfl (fun K hK => ?_); refine quiet_load_set _ rfl (S + 1) W rfl (fun w' ⟨n, e⟩ => e ▸ f2.out n) ?_; refine hK _ ?_; clear hK K; simp only [Act.put, List.setIfInBounds_toArray, List.set_cons_zero, List.set_cons_succ]
      refine BigFrame.wpQuiet_want rfl (fun K hK => ?_); refine quiet_load_set _ rfl (S + 1 + 1 + 1) (all ||| more) rfl (fun w' ⟨n, e⟩ => e ▸ f3.out n) ?_; refine hK _ ?_; clear hK K; simp only [Act.put, List.setIfInBounds_toArray, List.set_cons_zero, List.set_cons_succ]
      refine wpQuiet_nil ?_
      clear f1 f2 f3 hF hι F2
      have HBD : Hid (Below w4.heap.size w4 w4.drew) := Lib.hid ((Below.refl _ _).drew)
      have HTD : Hid (Tab w4.drew) := Lib.hid (HT.out.below (B := w.heap.size) ((hS.out ▸ JB.out).trans (HBD.out.mono (by have h1 := J6.out.lt; have h2 := hS.out; omega))) HG.out)
      have HBH := Lib.hid (behind_any ga G more w4.drew (HGs.out.kept ((hS.out ▸ JB.out).trans (HBD.out.mono (by have h1 := J6.out.lt; have h2 := hS.out; omega))) HGs.out.lt) HML2.out HTD.out)
      refine mix_eff (fun K hK => ?_)
      go_wp2_with (go_at_call 35; refine HBH.out.mono ?_; rintro e w8 ⟨rfl, hb8⟩; have HB8 := Lib.hid (HBD.out.trans hb8); clear hb8)
      refine mix_on hK HB8.out ?_
      clear hK K
      have HA1 := Lib.hid (and_any (bh G more) W w8)
      refine mix_eff (fun K hK => ?_)
      go_wp2_with (go_at_call 36; refine HA1.out.mono ?_; rintro e w9 ⟨rfl, hb9⟩; have HB9 := Lib.hid (HB8.out.trans (hb9.mono HB8.out.size)); clear hb9)
      refine mix_on hK HB9.out ?_
      clear hK K
      have HNT := Lib.hid (not_any (all ||| more) w9)
      refine mix_eff (fun K hK => ?_)
      go_wp2_with (go_at_call 50; refine HNT.out.mono ?_; rintro e w10 ⟨rfl, hb10⟩; have HB10 := Lib.hid (HB9.out.trans (hb10.mono HB9.out.size)); clear hb10)
      refine mix_on hK HB10.out ?_
      clear hK K
      have HA2 := Lib.hid (and_any (bh G more &&& W) (full ^^^ (all ||| more)) w10)
      refine mix_eff (fun K hK => ?_)
      go_wp2_with (go_at_call 36; refine HA2.out.mono ?_; rintro e w11 ⟨rfl, hb11⟩; have HB11 := Lib.hid (HB10.out.trans (hb11.mono HB10.out.size)); clear hb11)
      refine mix_on hK HB11.out ?_
      clear hK K
      show wpList _ _ _ _ _ _
      go_wp2_with (refine wpList_store_set rfl (.tmp 8) (.tmp 25) rfl b8 more ((bh G more &&& W) &&& (full ^^^ (all ||| more))) rfl rfl (J8.out.kept HB11.out HLT.out.2.1) ?_)
      refine NoPanic.normal ?_
      go_wp2_with fail
      have hbut := But.setRow b8 w11 (setC ((bh G more &&& W) &&& (full ^^^ (all ||| more))))
      have K7 := (J7.out.kept HB11.out HLT.out.1).but hbut (by omega)
      refine ⟨⟨f, all ||| more, (bh G more &&& W) &&& (full ^^^ (all ||| more)), Lib.hid HN.out.1, Lib.hid K7, Lib.hid ((J8.out.kept HB11.out HLT.out.2.1).put _), Lib.hid ((J5.out.kept HB11.out HLT.out.2.2).but hbut (by omega)), Lib.hid ((J6.out.kept HB11.out J6.out.lt).but hbut (by omega)), Lib.hid (But.below (JB.out.trans (HB11.out.mono (by have h1 := J6.out.lt; omega))) hbut (by omega) (by have h1 := J6.out.lt; have h2 := HB11.out.size; omega))⟩, ?_⟩
      rw [setOf_eq K7 (lt_or HI.out.a HI.out.m), setOf_eq H7.out HI.out.a]
      have h1 := HN.out.2
      have h2 := cnt_le (all ||| more)
      omega
end Nf
end Go.Proofs.YtlbaecjmfgahgaaDoor
