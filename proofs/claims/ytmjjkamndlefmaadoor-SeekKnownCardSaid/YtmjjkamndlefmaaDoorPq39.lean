/- Build, walked. -/
import Derived.Test.YtmjjkamndlefmaaDoorPq38
namespace Go.Proofs.YtmjjkamndlefmaaDoor
open Go.RowKit Sets Nf Cls Df Dbl DfK DfR
namespace Df
theorem res_cell_tmp {P : Program} {fn : Func} {p q : Tmp} {ty : TypeId} (h : fn.results = #[.cell p ty, .tmp q]) (tmps : Array Value) (w : World) (g : Nat) (t : TypeId) (cs : Array Value) (fr : Nat × Nat) (d : TypeDesc) (v : Value)
    (hp : tmps.getD p undef = .pointer (some ⟨g, 0, none⟩)) (hq : tmps.getD q undef = v) (hg : w.heap[g]? = some (.cells cs t fr))
    (hu : P.underlying ty = some d) (hd : (match d with | .struct _ | .array _ _ => true | _ => false) = true) (hi : (P.info? ty).map (·.size) = some cs.size) :
    (results fn tmps).run P w = .ok (.tuple #[.agg cs, v]) w := by
  have hp' : tmps[p]?.getD undef = .pointer (some ⟨g, 0, none⟩) := by simpa using hp
  have hq' : tmps[q]?.getD undef = v := by simpa using hq
  simp [results, h, hp', hq', asAddr, run_loadVar_row w g t ty cs fr d hg hu hd hi]
/-- The states that are reached. -/
inductive Rc {σ : Type} (into : σ → Nat → σ) (nc : Nat) (s0 : σ) : σ → Prop
  | start : Rc into nc s0 s0
  | step {s : σ} {c : Nat} : Rc into nc s0 s → c < nc → Rc into nc s0 (into s c)
/-- An automaton lies in memory of its own, from B on. -/
def OwnDm (B : Nat) (w : World) (x : Dx) (d : Dm) : Prop := ∃ vs, OwnD B w d.R d.F (.slice x.a d.R.length x.ac) (.slice x.b d.F.length x.bc) vs
theorem OwnDm.at {B : Nat} {w : World} {x : Dx} {d : Dm} (h : OwnDm B w x d) : DAt w x d := by
  obtain ⟨vs, h⟩ := h
  refine ⟨fun i hi => ?_, fun i hi => ?_⟩
  · obtain ⟨g, hg⟩ := own_addr h.nx (by omega)
    have hn := h.nx
    rw [hg] at hn
    obtain ⟨a, c, e, hnu⟩ := (h.each i hi).nums
    refine ⟨g, 0, a, c, hg, ?_, hnu⟩
    rw [Nat.zero_add, World.ownsRow.cellAt hn i (by omega), ← e, List.getD_eq_getElem?_getD, List.getElem?_eq_getElem (by rw [h.len]; exact hi)]; rfl
  · obtain ⟨g, hg⟩ := own_addr h.fl (by omega)
    have hs := h.fl
    rw [hg] at hs
    exact ⟨g, 0, hg, by rw [Nat.zero_add, World.ownsRow.cellAt hs i (by omega), bL_get _ _ hi]⟩
theorem OwnDm.stay {B : Nat} {w w' : World} {x : Dx} {d : Dm} (h : OwnDm B w x d) (hb : Below w.heap.size w w') : OwnDm B w' x d := by
  obtain ⟨vs, h⟩ := h
  exact ⟨vs, h.stay hb⟩
section
variable {σ : Type} [DecidableEq σ] {into : σ → Nat → σ} {fin : σ → Bool} {s0 : σ} {Ok : σ → Prop} {L : List σ} {d : Dm}
theorem Done.fine (h : Done into fin s0 Ok L d) (hL : L.length ≤ 90000) : DFine d := by
  have hrt := (dright_iff d).1 h.right
  obtain ⟨nc, hn, hof, hm⟩ := h.nc
  obtain ⟨k, hk, hk2, hofk⟩ := pright_is h.pr
  have hR : d.R.length ≤ 90000 := by rw [h.all]; exact hL
  refine ⟨by omega, by rw [hrt.fl]; omega, fun l hl => ?_, fun c hc => by have := hofk c hc; omega⟩
  have := hrt.row l hl
  refine ⟨by omega, fun q hq => ?_⟩
  have := this.2 q hq
  unfold i64; omega
end
theorem sets_belp {p : Option (Nat × Nat)} {base : Nat} {W W' : World} {a : Option Addr} {L : List Nat} (h : SetsAt W a L) (hb : 0 < L.length → ∀ b o, a = some ⟨b, o, none⟩ → b < base ∧ ∀ q, p = some q → q.1 ≠ b) (hp : BelP p base W W') : SetsAt W' a L := fun i hi => by
  obtain ⟨b, o, e, hc⟩ := h i hi
  obtain ⟨h1, h2⟩ := hb (by omega) b o e
  exact ⟨b, o, e, fun j v hj => (World.cell?_of_block (w := W) (hp.block b h1 h2)).trans (hc j v hj)⟩
theorem tab_belp {p : Option (Nat × Nat)} {base : Nat} {W W' : World} (h : Tab W) (hg : 0 < base) (hq : ∀ q, p = some q → q.1 ≠ 0) (hp : BelP p base W W') : Tab W' := fun j hj => (World.cell?_of_block (w := W) (hp.block _ hg hq)).trans (h j hj)
theorem sets_lt {W : World} {a : Option Addr} {L : List Nat} (h : SetsAt W a L) : 0 < L.length → ∀ b o, a = some ⟨b, o, none⟩ → b < W.heap.size := fun h0 b o e => by
  obtain ⟨b', o', e', hc⟩ := h 0 h0
  rw [e] at e'
  injection e' with e'
  injection e' with e1 e2
  subst e1
  exact World.block_lt_of_cell? _ _ (hc 0 (.int .u64 (wd (L.getD 0 0) 0)) rfl)
def OkB (m : Mc) (of : Nat → Nat) (nc : Nat) (s : Nat × Bool) : Prop := OkS m s ∧ Rc (intoS (rdOf m of nc)) nc (0, false) s
/-- What Build tells of a machine that is right: its automaton, or the purse is overspent. -/
def BEnd (m : Mc) (of : Nat → Nat) (nc : Nat) (p : Option (Nat × Nat)) (t0 : Nat) (w : World) (e : Ending) (w' : World) : Prop :=
  BelP p w.heap.size w w' ∧
  ((∃ L z d, e = .returned (.tuple #[.agg (dvC z d), .int .i64 0]) ∧ d.of = of ∧ d.n = (nc : Int) ∧ OwnDm w.heap.size w' z d ∧ Done (intoS (rdOf m of nc)) (finS (rdOf m of nc)) (0, false) (OkB m of nc) L d ∧ PayAt w' p (t0 + L.length) ∧ Aff p (t0 + L.length)) ∨
   (∃ (q : Nat × Nat) (L : List (Nat × Bool)), p = some q ∧ e = .panicked [{ v := ovr q.1, recovered := false }] ∧ L.Nodup ∧ (∀ x ∈ L, OkB m of nc x) ∧ cap q.2 + 1 = t0 + L.length ∧ PurseAt w' q.1 q.2 (t0 + L.length)))
set_option maxHeartbeats 12800000 in
set_option maxRecDepth 100000 in
theorem build_ok (x : Ma) (m : Mc) (of : Nat → Nat) (nc : Nat) (p : Option (Nat × Nat)) (t0 : Nat) (w : World) (h : MAt w x m) (hf : Fine m) (hr : Rt m) (h8 : m.sp.length ≤ 8) (hp : prightB of nc = true) (hw : Whole m of) (hT : Tab w)
    (hpay : PayAt w p t0) (hlow : ∀ q, p = some q → q.1 < w.heap.size) (hcap : Aff p t0) (ht0 : t0 ≤ 1000) (hpg : ∀ q, p = some q → q.1 ≠ 0) :
    Calls Tryd.prog 20 #[.agg (mc x m), .agg (partC of nc), payV p] w (BEnd m of nc p t0 w) := by
  obtain ⟨k, hk, hk2, hof⟩ := pright_is hp
  obtain rfl : nc = k := by omega
  have HG : Hid (0 < w.heap.size) := Lib.hid (World.block_lt_of_cell? _ _ (hT 0 (by decide)))
  have HM0 := Lib.hid h
  have HF := Lib.hid hf
  have HRT := Lib.hid hr
  have H8 := Lib.hid h8
  have HPR := Lib.hid hp
  have HWH := Lib.hid hw
  have HT0 := Lib.hid hT
  have HPAY := Lib.hid hpay
  have HLOW := Lib.hid hlow
  have HCAP := Lib.hid hcap
  have HTT := Lib.hid ht0
  have HPG := Lib.hid hpg
  have HK2 := Lib.hid hk2
  have HOF := Lib.hid hof
  have HRI := Lib.hid ((right_iff m).2 hr)
  have HANY : Hid ((stTo m m.sp.length).any (splitsB of nc) = false) := Lib.hid ((whole_iff hof).2 hw)
  have hmf : ∀ (fn : Fn) (first cap : Array Value) (w : World), (Instr.makeFunc fn first cap).run Tryd.prog w = .ok (.func fn first cap) w := fun _ _ _ _ => rfl
  have hz := zeroD
  clear h hf hr h8 hp hw hT hpay hlow hcap ht0 hpg hk2 hof hk
  unfold payV
  go_enter Tryd.func20, Tryd.ntmps20
  go_upto_region 1 with fail
  obtain ⟨s, hs⟩ : ∃ s, Hid (w.heap.size = s) := ⟨_, Lib.hid rfl⟩
  obtain ⟨w1, hw1⟩ : ∃ w1, Hid (w1 = (((w.alloc (.cells (mc x m) 43)).alloc (.cells (partC of nc) 24)).alloc (.cells (dfC (fun _ => 0) 0 nilS nilS) 28))) := ⟨_, Lib.hid rfl⟩
  rw [← hw1.out]
  have g0 : w1.heap[w.heap.size]? = some (.cells (mc x m) 43 (0, 0)) := by rw [hw1.out]; exact keep1 (keep1 (new1 w _ rfl) _) _
  have g1 : w1.heap[w.heap.size + 1]? = some (.cells (partC of nc) 24 (0, 0)) := by rw [hw1.out]; exact keep1 (new1 _ _ (by simp)) _
  have g2 : w1.heap[w.heap.size + 1 + 1]? = some (.cells (dfC (fun _ => 0) 0 nilS nilS) 28 (0, 0)) := by rw [hw1.out]; exact new1 _ _ (by simp)
  have g5 : w1.heap.size = w.heap.size + 1 + 1 + 1 := by rw [hw1.out]; simp
  have g6 : Below w.heap.size w w1 := by rw [hw1.out]; exact (((Below.refl _ _).alloc (Nat.le_refl _) _).alloc (by simp) _).alloc (by simp; omega) _
  rw [hs.out] at g0 g1 g2 g5 g6 HLOW HG ⊢
  have HX1 : Hid (BoxM w1 s x m) := Lib.hid ⟨g0⟩
  have HP1 : Hid (PartAt w1 (s + 1) of nc) := Lib.hid g1
  have HR1 := Lib.hid g2
  have HB1 := Lib.hid g6
  have HSZ := Lib.hid g5
  clear g0 g1 g2 g5 g6 hw1
  have HBD : Hid (Below w1.heap.size w1 w1.drew) := Lib.hid ((Below.refl _ _).drew)
  have HM1 := Lib.hid (HM0.out.kept (hs.out ▸ HB1.out))
  have HRG := Lib.hid (nright_any x m w1.drew (HM1.out.kept HBD.out) HF.out)
  rw [mv_eq, HRI.out] at HRG
  have HXL := Lib.hid HX1.out.lt
  have HPL := Lib.hid HP1.out.lt
  refine region_mix [(false, 0), (true, 1), (false, 2), (false, 3), (false, 4), (false, 5), (true, 6), (true, 7), (false, 8)] (fun w' => Below w1.heap.size w1 w') (by kernel_rfl) (by kernel_rfl) ((Below.refl _ _).drew) ?_
  simp only [planOps, List.map_cons, List.map_nil, List.getD_cons_zero, List.getD_cons_succ, List.length_cons, List.length_nil, List.drop_succ_cons, List.drop_zero]
  refine mix_seg (seg := [_]) rfl ((Below.refl _ _).drew) ?_
  intro ι hι F2 hF
  have f1 := Lib.hid (fun n => HX1.out.kept (hF n) HXL.out)
  refine BigFrame.wpQuiet_want rfl (fun K hK => ?_); refine quiet_load_mach _ rfl s x m rfl (fun w' ⟨n, e⟩ => e ▸ f1.out n) ?_; refine hK _ ?_; clear hK K; simp only [Act.put, List.setIfInBounds_toArray, List.set_cons_zero, List.set_cons_succ]
  refine wpQuiet_nil ?_
  clear f1 hF hι F2
  refine mix_eff (fun K hK => ?_)
  go_wp2_with (go_at_call 23; refine HRG.out.mono ?_; rintro e w2 ⟨rfl, hb2⟩; have HB2 := Lib.hid (HBD.out.trans hb2); clear hb2)
  refine mix_on hK HB2.out ?_
  clear hK K HRG
  refine mix_seg (seg := [_, _, _, _]) rfl HB2.out ?_
  intro ι hι F2 hF
  have f1 := Lib.hid (fun n => HX1.out.kept (hF n) HXL.out)
  have f2 := Lib.hid (fun n => HP1.out.kept (hF n) HPL.out)
  iterate 2 (go_big_quiet_step (fail))
  refine BigFrame.wpQuiet_want rfl (fun K hK => ?_); refine quiet_load_row 24 _ rfl (s + 1) rfl 24 (partC of nc) (0, 0) _ (fun w' ⟨n, e⟩ => e ▸ f2.out n) Tryd.underlying24 rfl (sizeP of nc) ?_; refine hK _ ?_; clear hK K; simp only [Act.put, List.setIfInBounds_toArray, List.set_cons_zero, List.set_cons_succ]
  refine BigFrame.wpQuiet_want rfl (fun K hK => ?_); refine quiet_load_mach _ rfl s x m rfl (fun w' ⟨n, e⟩ => e ▸ f1.out n) ?_; refine hK _ ?_; clear hK K; simp only [Act.put, List.setIfInBounds_toArray, List.set_cons_zero, List.set_cons_succ]
  refine wpQuiet_nil ?_
  clear f1 f2 hF hι F2
  have HSE := Lib.hid (nsets_any x m w2 (HM1.out.kept HB2.out) HF.out)
  refine mix_eff (fun K hK => ?_)
  go_wp2_with (go_at_call 22; refine HSE.out.mono ?_; rintro e w3 ⟨a3, c3, rfl, ho3, hb3⟩; have HO3 := Lib.hid ho3; have HB3 := Lib.hid (HB2.out.trans (hb3.mono HB2.out.size)); clear ho3 hb3)
  refine mix_on hK HB3.out ?_
  clear hK K HSE
  have HFI := Lib.hid (fine_any a3 c3 (stTo m m.sp.length) of nc w3 (own_sets HO3.out) (by have h1 := stTo_len m m.sp.length; have h2 := H8.out; omega) (fun c hc => by have h1 := HOF.out c hc; have h2 := HK2.out; omega))
  rw [HPR.out, Int.toNat_natCast, HANY.out] at HFI
  refine mix_eff (fun K hK => ?_)
  go_wp2_with (go_at_call 38; refine HFI.out.mono ?_; rintro e w4 ⟨rfl, hb4⟩; have HB4 := Lib.hid (HB3.out.trans (hb4.mono HB3.out.size)); clear hb4)
  refine mix_on hK HB4.out ?_
  clear hK K HFI
  refine mix_seg (seg := [_]) (rest := []) rfl HB4.out ?_
  intro ι hι F2 hF
  iterate 1 (go_big_quiet_step (fail))
  refine wpQuiet_nil ?_
  clear hF hι F2
  show wpList _ _ _ _ _ _
  go_wp2_with fail
  refine NoPanic.normal ?_
  have HX4 := Lib.hid (HX1.out.kept HB4.out HXL.out)
  have HP4 := Lib.hid (HP1.out.kept HB4.out HPL.out)
  have HR4 : Hid (w4.heap[s + 1 + 1]? = some (.cells (dfC (fun _ => 0) 0 nilS nilS) 28 (0, 0))) := Lib.hid ((HB4.out.block _ (Array.getElem?_eq_some_iff.1 HR1.out).1).trans HR1.out)
  have HB14 : Hid (Below s w w4) := Lib.hid (HB1.out.trans (HB4.out.mono (by have := HSZ.out; omega)))
  have HS4 : Hid (s + 1 + 1 + 1 ≤ w4.heap.size) := Lib.hid (by rw [← HSZ.out]; exact HB4.out.size)
  clear HX1 HP1 HR1 HB1 HB2 HB3 HB4 HO3 HXL HPL HSZ HM1 HBD
  have HT4 : Hid (Tab w4) := Lib.hid (HT0.out.below (hs.out ▸ HB14.out) (by rw [hs.out]; exact HG.out))
  have HRO := Lib.hid (readerOf_any x m of nc w4 (HM0.out.kept (hs.out ▸ HB14.out)) HF.out HRT.out HK2.out HOF.out HPR.out HT4.out)
  go_upto_region 4 with (first
    | (refine wpList_load_mach rfl _ rfl s x m rfl HX4.out ?_)
    | (refine wpList_load_row rfl 24 _ rfl (s + 1) rfl 24 (partC of nc) (0, 0) _ HP4.out Tryd.underlying24 rfl (sizeP of nc) ?_)
    | (go_at_call 39; refine HRO.out.mono ?_; rintro e w5 ⟨y, rfl, hra, hya, hyb, hb5⟩; have HRA := Lib.hid hra; have HYA := Lib.hid hya; have HYB := Lib.hid hyb; have HB5 := Lib.hid hb5; clear hra hya hyb hb5)
    | (refine wpList_store_row rfl 82 (.tmp 8) (.tmp 22) rfl w5.heap.size (rdC y (rdOf m of nc)) rfl rfl 82 _ (heap_alloc_new w5 _) (sizeRd y _) rfl (oneRd y _) ?_; rw [World.setRow_alloc_new]))
  rw [show ∀ a : Act, a.put none undef = a from fun _ => rfl]
  have hal := (Below.refl w5.heap.size w5).alloc (Nat.le_refl _) (.cells (rdC y (rdOf m of nc)) 82)
  have HB46 := Lib.hid (HB5.out.trans (hal.mono HB5.out.size))
  have HP6 := Lib.hid (HP4.out.kept HB46.out HP4.out.lt)
  have HR6 : Hid ((w5.alloc (.cells (rdC y (rdOf m of nc)) 82)).heap[s + 1 + 1]? = some (.cells (dfC (fun _ => 0) 0 nilS nilS) 28 (0, 0))) := Lib.hid ((HB46.out.block _ (Array.getElem?_eq_some_iff.1 HR4.out).1).trans HR4.out)
  have HRA6 := Lib.hid (HRA.out.kept hal)
  have HRB6 : Hid (BoxR (w5.alloc (.cells (rdC y (rdOf m of nc)) 82)) w5.heap.size y (rdOf m of nc)) := Lib.hid (BoxR.new w5 y _)
  have HB6 : Hid (Below s w (w5.alloc (.cells (rdC y (rdOf m of nc)) 82))) := Lib.hid (HB14.out.trans (HB46.out.mono (by have := HS4.out; omega)))
  have HS6 : Hid (s + 1 + 1 + 1 ≤ (w5.alloc (.cells (rdC y (rdOf m of nc)) 82)).heap.size) := Lib.hid (Nat.le_trans HS4.out HB46.out.size)
  have HS46 : Hid (s ≤ w4.heap.size) := Lib.hid (by have := HS4.out; omega)
  clear hal HB46 HB5 HRA HX4 HP4 HR4 HB14 HS4 HT4 HRO
  obtain ⟨qb, hqb⟩ : ∃ qb, Hid (w5.heap.size = qb) := ⟨_, Lib.hid rfl⟩
  rw [hqb.out] at HRB6 ⊢
  generalize w5.alloc (.cells (rdC y (rdOf m of nc)) 82) = w6 at *
  have HT6 : Hid (Tab w6) := Lib.hid (HT0.out.below (hs.out ▸ HB6.out) (by rw [hs.out]; exact HG.out))
  have hYA : ∀ b o, y.a = some ⟨b, o, none⟩ → s ≤ b := fun b o e => Nat.le_trans HS46.out (HYA.out b o e)
  have hYB : ∀ b o, y.b = some ⟨b, o, none⟩ → s ≤ b := fun b o e => Nat.le_trans HS46.out (HYB.out b o e)
  have HAU := Lib.hid (auto_any (fun W => RAt W y (rdOf m of nc) ∧ Tab W) (intoS (rdOf m of nc)) (finS (rdOf m of nc)) nc 257 (0, false) (OkB m of nc) (.agg (rdC y (rdOf m of nc))) of p t0 w6
    ⟨HRA6.out, HT6.out⟩
    (fun W W' hW hb => ⟨⟨sets_belp hW.1.g (fun h0 b o e => ⟨sets_lt HRA6.out.g h0 b o e, fun q hq => by have := HLOW.out q hq; have := hYA b o e; omega⟩) hb, sets_belp hW.1.h (fun h0 b o e => ⟨sets_lt HRA6.out.h h0 b o e, fun q hq => by have := HLOW.out q hq; have := hYB b o e; omega⟩) hb⟩,
      tab_belp hW.2 (by have h1 := HG.out; have h2 := HS6.out; omega) HPG.out hb⟩)
    ⟨⟨fun k hk => by simp at hk, fun _ => rfl⟩, .start⟩
    (fun a c ha hc => ⟨ok_next of nc a c, .step ha.2 hc⟩)
    (fun a ha => ok_lt HRT.out ha.1)
    (fun L hL hx => ok_few H8.out L hL (fun a ha => (hx a ha).1)) (by decide) HK2.out
    (fun q hq => (HPAY.out q hq).kept (HB6.out.block _ (HLOW.out q hq))) (fun q hq => by have h1 := HLOW.out q hq; have h2 := HS6.out; omega) HCAP.out HTT.out
    (fun W a hW ha => (behind_any y (rdOf m of nc) a W hW.1 (fun k hk => by rw [stN_len HRT.out]; exact ha.1.1 k hk) hW.2).mono fun e W' ⟨g, B, he, hg, hB, hbl, h1, h2⟩ => ⟨.pointer (some ⟨g, 0, none⟩), .pointer (some ⟨B, 0, none⟩), he, hbl, fun W'' c hW'' hc hk =>
      into_any y (rdOf m of nc) g B (nextS (rdOf m of nc) a) c W'' (hg.of (hk g h1 hg.lt)) ⟨(hk B h2 hB.lt).trans hB.row⟩ hW''.1.h (by show c < ((List.range nc).map (hasN m of)).length; rw [List.length_map, List.length_range]; exact hc)⟩)
    (fun W a hW ha => final_any y (rdOf m of nc) a W (ok_lt HRT.out ha.1)))
  unfold payV at HAU
  clear hYA hYB
  have HPAN : Hid (∀ (q : Nat × Nat) (L : List (Nat × Bool)) (w7 : World), BelP p w6.heap.size w6 w7 → p = some q → L.Nodup → (∀ a ∈ L, OkB m of nc a) → cap q.2 + 1 = t0 + L.length → PurseAt w7 q.1 q.2 (t0 + L.length) → BEnd m of nc p t0 w (.panicked [{ v := ovr q.1, recovered := false }]) w7) := Lib.hid (fun q L w7 hb hpq hnd hok hc hpu => by
    refine ⟨(BelP.of_below (hs.out ▸ HB6.out : Below w.heap.size w w6)).trans ⟨hb.os, hb.tape, hb.output, hb.size, fun k hk hq => hb.block k (by have h1 := HS6.out; have h2 := hs.out; omega) hq⟩, .inr ⟨q, L, hpq, rfl, hnd, hok, hc, hpu⟩⟩)
  go_wp2_with (first
    | (refine wpList_load_row rfl 24 _ rfl (s + 1) rfl 24 (partC of nc) (0, 0) _ HP6.out Tryd.underlying24 rfl (sizeP of nc) ?_)
    | (refine wpList_load_rd rfl _ rfl qb y _ rfl HRB6.out ?_)
    | (rw [zeroR]; go_at_call 40; refine HAU.out.mono ?_; rintro e w7 ⟨hbl, (⟨L, R, F, nv, fv, vs, rfl, ho, hmk, hlen, hpa, haf⟩ | ⟨q, L, hpq, rfl, hnd, hok, hc, hpu⟩)⟩; rotate_left; exact ⟨rfl, HPAN.out q L w7 hbl hpq hnd hok hc hpu⟩; obtain ⟨a1, c1, rfl, -⟩ := own_slice ho.nx; obtain ⟨b1, d1, rfl, -⟩ := own_slice ho.fl; have HO7 := Lib.hid ho; have HMK := Lib.hid hmk; have HLEN := Lib.hid hlen; have HPA := Lib.hid hpa; have HAF := Lib.hid haf; have HBL := Lib.hid hbl; have HR7 : Hid (w7.heap[s + 1 + 1]? = some (.cells (dfC (fun _ => 0) 0 nilS nilS) 28 (0, 0))) := Lib.hid ((hbl.block _ (by have := HS6.out; omega) (fun q hq => by have := HLOW.out q hq; omega)).trans HR6.out); clear ho hmk hlen hpa haf hbl)
    | (refine wpList_store_df rfl (.tmp 6) (.tmp 30) rfl (s + 1 + 1) of nc a1 b1 R.length F.length c1 d1 _ rfl rfl HR7.out (dfC_size _ _ _ _) ?_))
  obtain ⟨z, hz⟩ : ∃ z : Dx, Hid (z = ⟨a1, c1, b1, d1⟩) := ⟨_, Lib.hid rfl⟩
  obtain ⟨d, hd⟩ : ∃ d : Dm, Hid (d = ⟨of, nc, R, F⟩) := ⟨_, Lib.hid rfl⟩
  have HDV : Hid (dfC of nc (.slice a1 R.length c1) (.slice b1 F.length d1) = dvC z d) := Lib.hid (by rw [hz.out, hd.out]; rfl)
  refine bodyPost_ret (v := .tuple #[.agg (dvC z d), .int .i64 0]) (by rw [← HDV.out]; exact res_cell_tmp (p := 6) (q := 7) Tryd.results20 _ _ (s + 1 + 1) 28 _ (0, 0) _ (.int .i64 0) rfl rfl (setRow_heap w7 _ _ _ _ _ HR7.out) Tryd.underlying28 rfl (sizeDf _ _ _ _)) rfl ?_
  have hbu := But.setRow (s + 1 + 1) w7 (dfC of nc (.slice a1 R.length c1) (.slice b1 F.length d1))
  have hbl := HBL.out
  have hwq : w.heap.size = s := hs.out
  refine ⟨((BelP.of_below (hs.out ▸ HB6.out : Below w.heap.size w w6)).trans ⟨hbl.os, hbl.tape, hbl.output, hbl.size, fun k hk hq => hbl.block k (by have h1 := HS6.out; omega) hq⟩).trans ⟨hbu.os, hbu.tape, hbu.output, hbu.size, fun k hk _ => setRow_other _ _ _ _ (by omega)⟩, .inl ⟨L, z, d, rfl, by rw [hd.out], by rw [hd.out], ⟨vs, ?_⟩, ⟨⟨nc, by rw [hd.out], ?_, ?_⟩, ?_, ?_⟩, fun q hq => ?_, HAF.out⟩⟩
  · have ho := HO7.out.kept (w' := w7.setRow (s + 1 + 1) (dfC of nc (.slice a1 R.length c1) (.slice b1 F.length d1))) fun k cs t hc ht => hbu.block k (Array.getElem?_eq_some_iff.1 hc).1 (fun e => by
      rw [e, HR7.out] at hc; injection hc with hc; injection hc with _ hc; subst hc
      rcases ht with h | h | h <;> exact absurd h (by decide))
    rw [hz.out, hd.out]
    have hle : w.heap.size ≤ w6.heap.size := by have h1 := HS6.out; omega
    exact ⟨own_mono ho.nx hle, ho.len, fun i hi => own_mono (ho.each i hi) hle, own_mono ho.fl hle⟩
  · intro c hc; rw [hd.out]; exact HOF.out c hc
  · rw [hd.out]; exact HMK.out
  · rw [hd.out]; exact HLEN.out
  · rw [hd.out]; exact HPR.out
  · have h1 := HPA.out q hq
    exact h1.kept (hbu.block _ h1.lt (by have := HLOW.out q hq; omega))
end Df
end Go.Proofs.YtmjjkamndlefmaaDoor
