/- behind: the front behind a front; least: the least text that leads to a last spot of a front. -/
import Derived.Test.YtmjjkamndlefmaaDoorPqS3
namespace Go.Proofs.YtmjjkamndlefmaaDoor
open Go.RowKit Sets Nf Df
namespace Sk
theorem wpList_nextF {P : Program} {w : World} {ops : Array Oper} {rest : List Oper} {o : Oper} {a : Act} {Q : Exit → Act → World → Prop}
    (hg : o.guard = none) (it : Operand) (hop : o.op = Op.next it false) (v : Value) (hit : a.eval it = v) {u : Value} {w' : World} (hrun : ∀ ty, (Instr.next v false ty).run P w = .ok u w')
    (hK : wpList P ops Q rest (a.put o.dst u) w') : wpList P ops Q (o :: rest) a w := by
  refine wpList_plain hg fun K' hK' => ?_
  unfold Oper.wp
  simp [execOp, hop, hit, hrun, Result.andThen]
  exact hK' _ _ hK
theorem wpList_entryF {P : Program} {w : World} {ops : Array Oper} {rest : List Oper} {o : Oper} {a : Act} {Q : Exit → Act → World → Prop}
    (hg : o.guard = none) (it : Operand) (hop : o.op = Op.entry it) (v : Value) (hit : a.eval it = v) {u : Value} (hrun : (Instr.entry v).run P w = .ok u w)
    (hK : wpList P ops Q rest (a.put o.dst u) w) : wpList P ops Q (o :: rest) a w := by
  refine wpList_plain hg fun K' hK' => ?_
  unfold Oper.wp
  simp [execOp, hop, hit, hrun, Result.andThen]
  exact hK' _ _ hK
theorem wpList_rangeF {P : Program} {w : World} {ops : Array Oper} {rest : List Oper} {o : Oper} {a : Act} {Q : Exit → Act → World → Prop}
    (hg : o.guard = none) (m : Operand) (t : TypeId) (hop : o.op = Op.range t m) (v : Value) (hit : a.eval m = v) {u : Value} {w' : World} (hrun : (Instr.range t v).run P w = .ok u w')
    (hK : wpList P ops Q rest (a.put o.dst u) w') : wpList P ops Q (o :: rest) a w := by
  refine wpList_plain hg fun K' hK' => ?_
  unfold Oper.wp
  simp [execOp, hop, hit, hrun, Result.andThen]
  exact hK' _ _ hK
/-- What the walk finds in each world that keeps all but the seen ones of w1. -/
structure EnvW (w1 : World) (B gs : Nat) (x : Ma) (m : Mc) : Prop where
  env : ∀ W, But gs w1 W → Env W B gs x m
  fo : ∀ k, k < m.fo.length → ∃ b o y cy, x.oa = some ⟨b, o, none⟩ ∧ ∀ W, But gs w1 W → W.cell? ⟨b, o + k, none⟩ = some (.slice y (m.fo.getD k []).length cy) ∧ NumsIn W y (m.fo.getD k [])
  gs : gs < w1.heap.size
/-- The leads of the spots D of a front, each to what follows it. -/
def lds (m : Mc) (T : LdT) (D : List Nat) : List (ByteArray × Nat) := D.flatMap fun p => (m.fo.getD p []).map fun k => (ldT (T p), k.toNat)
theorem lds_snoc (m : Mc) (T : LdT) (D : List Nat) (p : Nat) : lds m T (D ++ [p]) = lds m T D ++ (m.fo.getD p []).map fun k => (ldT (T p), k.toNat) := by
  unfold lds
  rw [List.flatMap_append]
  simp
theorem lds_mem {m : Mc} {T : LdT} {D : List Nat} (x : ByteArray × Nat) : x ∈ lds m T D ↔ ∃ p ∈ D, (foN m p).testBit x.2 = true ∧ x.1 = ldT (T p) := by
  unfold lds
  rw [List.mem_flatMap]
  constructor
  · rintro ⟨p, hp, hx⟩
    obtain ⟨k, hk, rfl⟩ := List.mem_map.1 hx
    refine ⟨p, hp, ?_, rfl⟩
    rw [foN, testBit_grp]
    exact List.mem_map.2 ⟨k, hk, rfl⟩
  · rintro ⟨p, hp, h1, h2⟩
    refine ⟨p, hp, ?_⟩
    rw [foN, testBit_grp] at h1
    obtain ⟨k, hk, e⟩ := List.mem_map.1 h1
    exact List.mem_map.2 ⟨k, hk, by rw [← h2]; exact Prod.ext rfl e⟩
/-- A front with its seen ones lies in memory. -/
structure FrM (w1 W : World) (gs n g : Nat) (F : Fr) : Prop where
  mp : MapF W g F.K F.T
  sn : W.rowIs gs 4 n (fun k => .bool (F.s k))
  but : But gs w1 W
  low : w1.heap.size ≤ g
/-- Its texts may be written. -/
structure FrT (m : Mc) (F : Fr) : Prop where
  lt : ∀ k ∈ F.K, k < m.sp.length
  by' : ∀ k ∈ F.K, (F.T k).2 < 256
  sz : ∀ k ∈ F.K, (F.T k).1.size ≤ 100000
set_option maxHeartbeats 12800000 in
set_option maxRecDepth 100000 in
theorem behind_any (w1 : World) (B gs : Nat) (x : Ma) (m : Mc) (HQ : EnvW w1 B gs x m) (hf : Fine m) (hr : Rt m) (F : Fr) (g0 : Nat) (w : World) (hM : FrM w1 w gs m.sp.length g0 F) (hT : FrT m F) :
    Calls Tryd.prog 37 #[.pointer (some ⟨B, 0, none⟩), .map (some g0)] w fun e w' => ∃ g G L, e = .returned (.map (some g)) ∧ FrM w1 w' gs m.sp.length g G ∧ EnP m F.s L G ∧ ∀ x : ByteArray × Nat, x ∈ L ↔ ∃ p ∈ F.K, (foN m p).testBit x.2 = true ∧ x.1 = ldT (F.T p) := by
  have HQ := Lib.hid HQ
  have HF := Lib.hid hf
  have HR := Lib.hid hr
  have H0 := Lib.hid hM
  have HT := Lib.hid hT
  clear hf hr hM hT
  go_enter Tryd.func37, Tryd.ntmps37
  have hmm := @run_makeMap Tryd.prog
  go_upto_region 2 with fail
  have HMP := Lib.hid (MapF.made w F.T)
  have hal := (Below.refl w.heap.size w).alloc (Nat.le_refl _) (.map #[] 0)
  have HG0 := Lib.hid H0.out.mp.lt
  have HGL := Lib.hid H0.out.low
  have HM0 := Lib.hid (H0.out.mp.of (hal.block g0 H0.out.mp.lt))
  have HS0 := Lib.hid (World.rowIs.of_block H0.out.sn (hal.block gs (World.rowIs.lt H0.out.sn)))
  have HB0 := Lib.hid (H0.out.but.trans (But.of_below hal))
  have HLW : Hid (w1.heap.size ≤ w.heap.size) := Lib.hid H0.out.but.size
  have HSZ : Hid ((w.alloc (.map #[] 0)).heap.size = w.heap.size + 1) := Lib.hid (by simp)
  obtain ⟨g, hg⟩ : ∃ g, Hid (w.heap.size = g) := ⟨_, Lib.hid rfl⟩
  rw [hg.out] at HMP HG0 HLW HSZ ⊢
  clear hal hmm H0
  generalize w.alloc (.map #[] 0) = w2 at *
  clear hg w
  obtain ⟨hrun, hit⟩ := HM0.out.range
  have hal := (Below.refl w2.heap.size w2).alloc (Nat.le_refl _) (.mapIter (some g0) F.K.length #[] F.K.length)
  have HIT := Lib.hid hit
  have HMP1 := Lib.hid (HMP.out.of (hal.block g HMP.out.lt))
  have HS1 := Lib.hid (World.rowIs.of_block HS0.out (hal.block gs (World.rowIs.lt HS0.out)))
  have HB1 := Lib.hid (HB0.out.trans (But.of_below hal))
  go_wp2_with (refine wpList_rangeF rfl _ 75 rfl (.map (some g0)) rfl hrun ?_)
  rw [HSZ.out] at HIT ⊢
  clear hrun hal hit HMP HS0 HB0 HM0
  generalize w2.alloc (.mapIter (some g0) F.K.length #[] F.K.length) = w3 at *
  clear HSZ w2
  go_frame
  go_loopw [6] (fun _ wr => ∃ (D : List Nat) (G : Fr), Hid (ItF wr (g + 1) g0 F.K F.T D) ∧ Hid (∀ k ∈ D, k ∈ F.K) ∧ Hid (G = (lds m F.T D).foldl (ent m) ⟨[], F.T, F.s⟩) ∧ Hid (MapF wr g G.K G.T) ∧ Hid (wr.rowIs gs 4 m.sp.length (fun k => .bool (G.s k))) ∧ Hid (But gs w1 wr)) (fun _ wr => wr.rangeLeft g0 (g + 1))
  case atStart => exact ⟨[], _, HIT, Lib.hid (fun k hk => by cases hk), Lib.hid rfl, HMP1, HS1, HB1⟩
  case round =>
    clear HIT HMP1 HS1 HB1
    obtain ⟨D, G, HIT, HD, HGE, HMP, HS, HB⟩ := hrel
    generalize hwr : wr = w4 at *
    clear hwr wr w3
    rcases HIT.out.next with ⟨hall, hrun⟩ | ⟨k, w5, hkK, hkD, hrun, hit, hbut, hlt, hen⟩
    · have HALL := Lib.hid hall
      go_wp2_with (refine wpList_nextF rfl _ rfl (.pointer (some ⟨g + 1, 0, none⟩)) rfl hrun ?_)
      go_ret
      refine ⟨g, G, lds m F.T D, rfl, ⟨HMP.out, HS.out, HB.out, HLW.out⟩, ?_, fun y => ?_⟩
      · rw [HGE.out]
        exact enp_fold m F.s (lds m F.T D) [] _ (EnP.start m F.s F.T)
      · rw [lds_mem]
        constructor
        · rintro ⟨p, hp, h1⟩; exact ⟨p, HD.out p hp, h1⟩
        · rintro ⟨p, hp, h1⟩; exact ⟨p, HALL.out p hp, h1⟩
    · have HIT5 := Lib.hid hit
      have HLT := Lib.hid hlt
      have HKK := Lib.hid hkK
      have hne : g ≠ g + 1 := by omega
      have HMP5 := Lib.hid (HMP.out.of (hbut.block g HMP.out.lt hne))
      have hgs1 : gs ≠ g + 1 := fun e => by have := HQ.out.gs; have := HLW.out; omega
      have HS5 := Lib.hid (World.rowIs.of_block HS.out (hbut.block gs (World.rowIs.lt HS.out) hgs1))
      have HB5 := Lib.hid (Off.but HB.out (Off.right hbut) (b := g + 1) (by have := HLW.out; omega))
      go_upto_region 4 with (refine wpList_nextF rfl _ rfl (.pointer (some ⟨g + 1, 0, none⟩)) rfl hrun ?_)
      clear hrun hlt hkD hbut hne hgs1 hit HIT HMP HS HB
      go_upto_region 5 with (first
        | (refine wpList_entryF rfl _ rfl (.pointer (some ⟨g + 1, 0, none⟩)) rfl hen ?_)
        | (refine wpList_lay_lead rfl (.tmp 7) (.tmp 15) rfl (F.T k) rfl rfl ?_))
      have hput : ∀ a : Act, a.put none undef = a := fun _ => rfl
      rw [hput]
      clear hput
      have hal := (Below.refl w5.heap.size w5).alloc (Nat.le_refl _) (.cells (ldC (F.T k)) 113)
      have HIT6 := Lib.hid (HIT5.out.of (hal.block _ HIT5.out.lt) (hal.block _ HIT5.out.mp.lt))
      have HMP6 := Lib.hid (HMP5.out.of (hal.block g HMP5.out.lt))
      have HS6 := Lib.hid (World.rowIs.of_block HS5.out (hal.block gs (World.rowIs.lt HS5.out)))
      have HB6 := Lib.hid (HB5.out.trans (But.of_below hal))
      have HLW6 : Hid (g < w5.heap.size ∧ g + 1 < w5.heap.size ∧ g0 < w5.heap.size ∧ gs < w5.heap.size) := Lib.hid ⟨HMP5.out.lt, HIT5.out.lt, HIT5.out.mp.lt, World.rowIs.lt HS5.out⟩
      have hro := heap_alloc_new w5 (.cells (ldC (F.T k)) 113)
      have HLT6 : Hid ((w5.alloc (.cells (ldC (F.T k)) 113)).rangeLeft g0 (g + 1) = w5.rangeLeft g0 (g + 1)) := Lib.hid (by
        unfold World.rangeLeft
        rw [hal.block _ HIT5.out.lt, hal.block _ HIT5.out.mp.lt])
      rw [← HLT6.out] at HLT
      obtain ⟨q, hq⟩ : ∃ q, Hid (w5.heap.size = q) := ⟨_, Lib.hid rfl⟩
      rw [hq.out] at hro HLW6 ⊢
      have HRO := Lib.hid hro
      clear hen hal HIT5 HMP5 HS5 HB5 hro HLT6
      generalize w5.alloc (.cells (ldC (F.T k)) 113) = w6 at *
      clear hq w5
      have henv := HQ.out.env _ HB6.out
      have c2 := henv.box.c2
      have HKN := Lib.hid (HT.out.lt k HKK.out)
      obtain ⟨bb, oo, y, cy, hoa, hfo⟩ := HQ.out.fo k (by rw [HR.out.fol]; exact HKN.out)
      obtain ⟨l, hl⟩ : ∃ l, Hid (m.fo.getD k [] = l) := ⟨_, Lib.hid rfl⟩
      rw [hl.out] at hfo
      have hcr := (hfo _ HB6.out).1
      rw [hoa] at c2
      have HLM : Hid (l ∈ m.fo) := Lib.hid (by rw [← hl.out]; exact getD_mem (by rw [HR.out.fol]; exact HKN.out))
      have hkn : (k : Int) < (m.fo.length : Int) := by rw [HR.out.fol]; have := HKN.out; omega
      have HFO := Lib.hid hfo
      have HC2 := Lib.hid c2
      have HCR := Lib.hid hcr
      have HOA := Lib.hid hoa
      have HTXT := Lib.hid (ltext_any (F.T k) w6.drew (HT.out.by' k HKK.out) (HT.out.sz k HKK.out))
      clear henv hfo hoa c2 hcr
      have HQB := Lib.hid (World.block_lt_of_cell? _ _ HC2.out)
      have HQC := Lib.hid (World.block_lt_of_cell? _ _ HCR.out)
      have HQQ := Lib.hid (Array.getElem?_eq_some_iff.1 HRO.out).1
      refine region_mix [(false, 0), (false, 1), (false, 2), (false, 3), (false, 4), (false, 5), (false, 6), (false, 7), (false, 8), (false, 9), (false, 10), (true, 11)] (fun w' => Below w6.heap.size w6 w') (by kernel_rfl) (by kernel_rfl) ((Below.refl _ _).drew) ?_
      simp only [planOps, List.map_cons, List.map_nil, List.getD_cons_zero, List.getD_cons_succ, List.length_cons, List.length_nil, List.drop_succ_cons, List.drop_zero]
      refine mix_seg (seg := [_, _, _, _, _, _, _, _, _, _, _]) rfl ((Below.refl _ _).drew) ?_
      intro ι hι FF hF
      have f1 := fun n => ((hF n).cell (p := ⟨B, 2, none⟩) HQB.out).trans HC2.out
      have f2 := fun n => ((hF n).cell (p := ⟨bb, oo + k, none⟩) HQC.out).trans HCR.out
      have f3 := Lib.hid (fun n => ((hF n).block q HQQ.out).trans HRO.out)
      iterate 10 (go_big_quiet_step (fail))
      refine BigFrame.wpQuiet_want rfl (fun K hK => ?_); refine quiet_load_row 113 _ rfl q rfl 113 (ldC (F.T k)) (0, 0) _ (fun w' ⟨n, e⟩ => e ▸ (f3.out n)) Tryd.underlying113 rfl (sizeLd (F.T k)) ?_; refine hK _ ?_; clear hK K; simp only [Act.put, List.setIfInBounds_toArray, List.set_cons_zero, List.set_cons_succ]
      refine wpQuiet_nil ?_
      clear f1 f2 f3 hF hι FF
      refine mix_eff (fun K hK => ?_)
      go_wp2_with (go_at_call 60; refine HTXT.out.mono ?_; rintro e w7 ⟨rfl, hb7⟩; have HB7 := Lib.hid (((Below.refl w6.heap.size w6).drew).trans hb7); clear hb7)
      refine mix_on hK HB7.out ?_
      clear hK K HTXT
      show wpList _ _ _ _ _ _
      have HIT7 := Lib.hid (HIT6.out.of (HB7.out.block _ HIT6.out.lt) (HB7.out.block _ HIT6.out.mp.lt))
      have HMP7 := Lib.hid (HMP6.out.of (HB7.out.block g HMP6.out.lt))
      have HS7 := Lib.hid (World.rowIs.of_block HS6.out (HB7.out.block gs (World.rowIs.lt HS6.out)))
      have HB8 := Lib.hid (HB6.out.trans (But.of_below HB7.out))
      have HLT7 : Hid (w7.rangeLeft g0 (g + 1) < w4.rangeLeft g0 (g + 1)) := Lib.hid (by
        have h9 : w7.rangeLeft g0 (g + 1) = w6.rangeLeft g0 (g + 1) := by
          unfold World.rangeLeft
          rw [HB7.out.block _ HIT6.out.lt, HB7.out.block _ HIT6.out.mp.lt]
        rw [h9]; exact HLT.out)
      clear HIT6 HMP6 HS6 HB6 HRO HC2 HCR HQB HQC HQQ HLT HB7
      clear w6
      have HEN := Lib.hid (enter_any w1 B gs x m HQ.out.env HF.out G g y cy l (ldT (F.T k)) w7 HB8.out HLW.out HQ.out.gs HMP7.out HS7.out (fun W hW => (HFO.out W hW).2) ((rise_iff _ _).1 (HR.out.foR l HLM.out)).1 (HF.out.each l HLM.out).1)
      have HGN : Hid (entL m (ldT (F.T k)) G l = (lds m F.T (D ++ [k])).foldl (ent m) ⟨[], F.T, F.s⟩) := Lib.hid (by
        rw [lds_snoc, List.foldl_append, ← HGE.out, hl.out]; rfl)
      have HB8' := HB8
      clear HMP7 HS7 HB8
      have HNE : Hid (g + 1 ≠ gs ∧ g + 1 ≠ g ∧ g0 ≠ gs ∧ g0 ≠ g) := Lib.hid (by have h1 := HQ.out.gs; have h2 := HLW.out; have h3 := HG0.out; have h4 := HGL.out; omega)
      have HDK : Hid (∀ j ∈ D ++ [k], j ∈ F.K) := Lib.hid (fun j hj => by
        rcases List.mem_append.1 hj with hj | hj
        · exact HD.out j hj
        · rw [List.mem_singleton] at hj; rw [hj]; exact HKK.out)
      go_wp2_with (go_at_call 35; refine HEN.out.mono ?_; rintro e w8 ⟨rfl, hm8, hs8, ho8⟩; have HM8 := Lib.hid hm8; have HS8 := Lib.hid hs8; have HO8 := Lib.hid ho8; clear hm8 hs8 ho8)
      have HIT8 := Lib.hid (HIT7.out.of (HO8.out.block _ HIT7.out.lt HNE.out.1 HNE.out.2.1) (HO8.out.block _ HIT7.out.mp.lt HNE.out.2.2.1 HNE.out.2.2.2))
      have HLT8 : Hid (w8.rangeLeft g0 (g + 1) < w4.rangeLeft g0 (g + 1)) := Lib.hid (by
        have h9 : w8.rangeLeft g0 (g + 1) = w7.rangeLeft g0 (g + 1) := by
          unfold World.rangeLeft
          rw [HO8.out.block _ HIT7.out.lt HNE.out.1 HNE.out.2.1, HO8.out.block _ HIT7.out.mp.lt HNE.out.2.2.1 HNE.out.2.2.2]
        rw [h9]; exact HLT7.out)
      have HB9 := Lib.hid (Off.but HB8'.out HO8.out HLW.out)
      refine NoPanic.normal ?_
      go_wp2_with fail
      go_roundw
      case rel => exact ⟨D ++ [k], entL m (ldT (F.T k)) G l, HIT8, HDK, HGN, HM8, HS8, HB9⟩
      case measure => exact HLT8.out
/-- The least text of the last ones among D. -/
def LeaD (m : Mc) (T : LdT) (D : List Nat) (s : ByteArray) (ok : Bool) : Prop :=
  (ok = true ∧ ∃ p ∈ D, m.la.getD p false = true ∧ s = ldT (T p) ∧ ∀ k ∈ D, m.la.getD k false = true → Le (bs s) (tx T k)) ∨ (ok = false ∧ s = ⟨#[]⟩ ∧ ∀ k ∈ D, m.la.getD k false = false)
theorem LeaD.skip {m : Mc} {T : LdT} {D : List Nat} {s : ByteArray} {ok : Bool} (h : LeaD m T D s ok) {k : Nat} (hk : m.la.getD k false = false) : LeaD m T (D ++ [k]) s ok := by
  rcases h with ⟨h1, p, hp, h2, h3, h4⟩ | ⟨h1, h2, h3⟩
  · refine .inl ⟨h1, p, List.mem_append_left _ hp, h2, h3, fun j hj hl => ?_⟩
    rcases List.mem_append.1 hj with hj | hj
    · exact h4 j hj hl
    · rw [List.mem_singleton] at hj; rw [hj, hk] at hl; cases hl
  · refine .inr ⟨h1, h2, fun j hj => ?_⟩
    rcases List.mem_append.1 hj with hj | hj
    · exact h3 j hj
    · rw [List.mem_singleton] at hj; rw [hj]; exact hk
theorem LeaD.stay {m : Mc} {T : LdT} {D : List Nat} {s : ByteArray} (h : LeaD m T D s true) {k : Nat} (hk : ls (tx T k) (bs s) = false) : LeaD m T (D ++ [k]) s true := by
  rcases h with ⟨h1, p, hp, h2, h3, h4⟩ | ⟨h1, -⟩
  · refine .inl ⟨h1, p, List.mem_append_left _ hp, h2, h3, fun j hj hl => ?_⟩
    rcases List.mem_append.1 hj with hj | hj
    · exact h4 j hj hl
    · rw [List.mem_singleton] at hj; rw [hj]; exact hk
  · cases h1
theorem LeaD.first {m : Mc} {T : LdT} {D : List Nat} {s : ByteArray} (h : LeaD m T D s false) {k : Nat} (hk : m.la.getD k false = true) : LeaD m T (D ++ [k]) (ldT (T k)) true := by
  rcases h with ⟨h1, -⟩ | ⟨-, -, h3⟩
  · cases h1
  · refine .inl ⟨rfl, k, by simp, hk, rfl, fun j hj hl => ?_⟩
    rcases List.mem_append.1 hj with hj | hj
    · rw [h3 j hj] at hl; cases hl
    · rw [List.mem_singleton] at hj; rw [hj]; exact .refl _
theorem LeaD.take {m : Mc} {T : LdT} {D : List Nat} {s : ByteArray} (h : LeaD m T D s true) {k : Nat} (hl : m.la.getD k false = true) (hk : ls (tx T k) (bs s) = true) : LeaD m T (D ++ [k]) (ldT (T k)) true := by
  rcases h with ⟨h1, p, hp, h2, h3, h4⟩ | ⟨h1, -⟩
  · refine .inl ⟨rfl, k, by simp, hl, rfl, fun j hj hjl => ?_⟩
    rcases List.mem_append.1 hj with hj | hj
    · exact Le.trans (.of hk) (h4 j hj hjl)
    · rw [List.mem_singleton] at hj; rw [hj]; exact .refl _
  · cases h1
theorem LeaD.all {m : Mc} {T : LdT} {D K : List Nat} {s : ByteArray} {ok : Bool} (h : LeaD m T D s ok) (h1 : ∀ k ∈ D, k ∈ K) (h2 : ∀ k ∈ K, k ∈ D) : LeaD m T K s ok := by
  rcases h with ⟨a, p, hp, b, c, d⟩ | ⟨a, b, c⟩
  · exact .inl ⟨a, p, h1 p hp, b, c, fun k hk => d k (h2 k hk)⟩
  · exact .inr ⟨a, b, fun k hk => c k (h2 k hk)⟩
set_option maxHeartbeats 12800000 in
set_option maxRecDepth 100000 in
theorem wleast_any (w1 : World) (B gs : Nat) (x : Ma) (m : Mc) (HQ : EnvW w1 B gs x m) (hr : Rt m) (F : Fr) (g0 : Nat) (w : World) (hM : FrM w1 w gs m.sp.length g0 F) (hT : FrT m F) :
    Calls Tryd.prog 36 #[.pointer (some ⟨B, 0, none⟩), .map (some g0)] w fun e w' => (∃ s ok, e = .returned (.tuple #[.string s, .bool ok]) ∧ LeaD m F.T F.K s ok) ∧ Below w.heap.size w w' := by
  have HQ := Lib.hid HQ
  have HR := Lib.hid hr
  have H0 := Lib.hid hM
  have HT := Lib.hid hT
  clear hr hM hT
  go_enter Tryd.func36, Tryd.ntmps36
  go_upto_region 2 with fail
  have HG0 := Lib.hid H0.out.mp.lt
  obtain ⟨hrun, hit⟩ := H0.out.mp.range
  have hal := (Below.refl w.heap.size w).alloc (Nat.le_refl _) (.mapIter (some g0) F.K.length #[] F.K.length)
  have HIT := Lib.hid hit
  have HB0 := Lib.hid hal
  have HB1 := Lib.hid (H0.out.but.trans (But.of_below hal))
  go_wp2_with (refine wpList_rangeF rfl _ 75 rfl (.map (some g0)) rfl hrun ?_)
  obtain ⟨r, hr⟩ : ∃ r, Hid (w.heap.size = r) := ⟨_, Lib.hid rfl⟩
  have HW1R : Hid (w1.heap.size ≤ r) := Lib.hid (by rw [← hr.out]; exact H0.out.but.size)
  rw [hr.out] at HIT HB0 HG0 ⊢
  have HRS : Hid (r ≤ (w.alloc (.mapIter (some g0) F.K.length #[] F.K.length)).heap.size) := Lib.hid (by rw [← hr.out]; simp)
  clear hrun hal hit
  generalize w.alloc (.mapIter (some g0) F.K.length #[] F.K.length) = w3 at *
  go_frame
  go_loopw [6, 7, 8] (fun a b _ wr => ∃ (D : List Nat) (s : ByteArray) (ok : Bool), a = .string s ∧ b = .bool ok ∧ Hid (ItF wr r g0 F.K F.T D) ∧ Hid (∀ k ∈ D, k ∈ F.K) ∧ Hid (LeaD m F.T D s ok) ∧ Hid (Below r w wr) ∧ Hid (But gs w1 wr) ∧ Hid (r ≤ wr.heap.size)) (fun _ _ _ wr => wr.rangeLeft g0 r)
  case atStart => exact ⟨[], ⟨#[]⟩, false, rfl, rfl, HIT, Lib.hid (fun k hk => by cases hk), Lib.hid (.inr ⟨rfl, rfl, fun k hk => by cases hk⟩), HB0, HB1, HRS⟩
  case round =>
    clear HIT HB0 HB1 HRS
    obtain ⟨D, s, ok, rfl, rfl, HIT, HD, HLE, HB0, HB1, HRS⟩ := hrel
    generalize hwr : wr = w4 at *
    clear hwr wr w3
    rcases HIT.out.next with ⟨hall, hrun⟩ | ⟨k, w5, hkK, hkD, hrun, hit, hbut, hlt, hen⟩
    · have HE := Lib.hid (HLE.out.all HD.out hall)
      go_wp2_with (refine wpList_nextF rfl _ rfl (.pointer (some ⟨r, 0, none⟩)) rfl hrun ?_)
      go_ret2
      exact ⟨⟨s, ok, rfl, HE.out⟩, by rw [hr.out]; exact HB0.out⟩
    · have HIT5 := Lib.hid hit
      have HLT := Lib.hid hlt
      have HKK := Lib.hid hkK
      have HB5 := Lib.hid (Off.but HB1.out (Off.right hbut) (b := r) HW1R.out)
      have HB6 := Lib.hid (hbut.below HB0.out (Nat.le_refl _) HRS.out)
      have HRS5 : Hid (r ≤ w5.heap.size) := Lib.hid (Nat.le_trans HRS.out hbut.size)
      go_upto_region 4 with (refine wpList_nextF rfl _ rfl (.pointer (some ⟨r, 0, none⟩)) rfl hrun ?_)
      clear hrun hlt hkD hbut hit HIT HB0 HB1 HRS
      go_upto_region 5 with (first
        | (refine wpList_entryF rfl _ rfl (.pointer (some ⟨r, 0, none⟩)) rfl hen ?_)
        | (refine wpList_lay_lead rfl (.tmp 9) (.tmp 17) rfl (F.T k) rfl rfl ?_))
      have hput : ∀ a : Act, a.put none undef = a := fun _ => rfl
      rw [hput]
      clear hput
      have hal := (Below.refl w5.heap.size w5).alloc (Nat.le_refl _) (.cells (ldC (F.T k)) 113)
      have HIT6 := Lib.hid (HIT5.out.of (hal.block _ HIT5.out.lt) (hal.block _ HIT5.out.mp.lt))
      have HB7 := Lib.hid (HB5.out.trans (But.of_below hal))
      have HB8 := Lib.hid (HB6.out.trans (hal.mono HRS5.out))
      have HRS6 := Lib.hid (Nat.le_trans HRS5.out hal.size)
      have hro := heap_alloc_new w5 (.cells (ldC (F.T k)) 113)
      have HLT6 : Hid ((w5.alloc (.cells (ldC (F.T k)) 113)).rangeLeft g0 r = w5.rangeLeft g0 r) := Lib.hid (by
        unfold World.rangeLeft
        rw [hal.block _ HIT5.out.lt, hal.block _ HIT5.out.mp.lt])
      rw [← HLT6.out] at HLT
      obtain ⟨q, hq⟩ : ∃ q, Hid (w5.heap.size = q) := ⟨_, Lib.hid rfl⟩
      rw [hq.out] at hro ⊢
      have HRO := Lib.hid hro
      clear hen hal HIT5 HB5 HB6 HRS5 hro HLT6
      generalize w5.alloc (.cells (ldC (F.T k)) 113) = w6 at *
      clear hq w5
      have henv := HQ.out.env _ HB7.out
      have c3 := henv.box.c3
      have HKN := Lib.hid (HT.out.lt k HKK.out)
      obtain ⟨bb, oo, hla, hcl⟩ := henv.mat.la k (by rw [HR.out.lal]; exact HKN.out)
      rw [hla] at c3
      have hkn : (k : Int) < (m.la.length : Int) := by rw [HR.out.lal]; have := HKN.out; omega
      have HTXT := Lib.hid (ltext_any (F.T k) w6 (HT.out.by' k HKK.out) (HT.out.sz k HKK.out))
      have HDK : Hid (∀ j ∈ D ++ [k], j ∈ F.K) := Lib.hid (fun j hj => by
        rcases List.mem_append.1 hj with hj | hj
        · exact HD.out j hj
        · rw [List.mem_singleton] at hj; rw [hj]; exact HKK.out)
      clear henv hla
      cases hlast : m.la.getD k false with
      | false =>
        have HL2 := Lib.hid (HLE.out.skip hlast)
        rw [hlast] at hcl
        clear hlast
        go_wp2_with fail
        go_roundw
        case rel => exact ⟨D ++ [k], s, ok, rfl, rfl, HIT6, HDK, HL2, HB8, HB7, HRS6⟩
        case measure => exact HLT.out
      | true =>
        have HLA := Lib.hid hlast
        rw [hlast] at hcl
        clear hlast
        have hrow := HRO.out
        go_upto_region 7 with (first
          | (refine wpList_load_row rfl 113 _ rfl q rfl 113 (ldC (F.T k)) (0, 0) _ HRO.out Tryd.underlying113 rfl (sizeLd (F.T k)) ?_)
          | (go_at_call 60; refine HTXT.out.mono ?_; rintro e w7 ⟨rfl, hb7⟩; have HB9 := Lib.hid hb7; clear hb7))
        have HIT7 := Lib.hid (HIT6.out.of (HB9.out.block _ HIT6.out.lt) (HB9.out.block _ HIT6.out.mp.lt))
        have HB10 := Lib.hid (HB7.out.trans (But.of_below HB9.out))
        have HB11 := Lib.hid (HB8.out.trans (HB9.out.mono HRS6.out))
        have HRS7 := Lib.hid (Nat.le_trans HRS6.out HB9.out.size)
        have HLT7 : Hid (w7.rangeLeft g0 r < w4.rangeLeft g0 r) := Lib.hid (by
          have h9 : w7.rangeLeft g0 r = w6.rangeLeft g0 r := by
            unfold World.rangeLeft
            rw [HB9.out.block _ HIT6.out.lt, HB9.out.block _ HIT6.out.mp.lt]
          rw [h9]; exact HLT.out)
        clear HIT6 HB7 HB8 HRS6 HLT HB9 c3 hcl hrow HRO HTXT
        clear w6
        cases ok with
        | false =>
          have HL2 := Lib.hid (HLE.out.first HLA.out)
          go_wp2_with fail
          go_roundw
          case rel => exact ⟨D ++ [k], _, true, rfl, rfl, HIT7, HDK, HL2, HB11, HB10, HRS7⟩
          case measure => exact HLT7.out
        | true =>
          have HLS := Lib.hid (less_any (ldT (F.T k)) s w7)
          cases hc : ls (bs (ldT (F.T k))) (bs s) with
          | false =>
            have HL2 := Lib.hid (HLE.out.stay hc)
            rw [hc] at HLS
            clear hc
            go_wp2_with (go_at_call 11; refine HLS.out.mono ?_; rintro e w8 ⟨rfl, rfl⟩)
            go_roundw
            case rel => exact ⟨D ++ [k], s, true, rfl, rfl, HIT7, HDK, HL2, HB11, HB10, HRS7⟩
            case measure => exact HLT7.out
          | true =>
            have HL2 := Lib.hid (HLE.out.take HLA.out hc)
            rw [hc] at HLS
            clear hc
            go_wp2_with (go_at_call 11; refine HLS.out.mono ?_; rintro e w8 ⟨rfl, rfl⟩)
            go_roundw
            case rel => exact ⟨D ++ [k], _, true, rfl, rfl, HIT7, HDK, HL2, HB11, HB10, HRS7⟩
            case measure => exact HLT7.out
end Sk
end Go.Proofs.YtmjjkamndlefmaaDoor
