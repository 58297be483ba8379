/- The search's enter. -/
import Derived.Test.YtghbgfkkdknmnaaDoorPqB9
import Derived.Test.YtghbgfkkdknmnaaDoorPqA2
namespace Go.Proofs.YtghbgfkkdknmnaaDoor
open Go.RowKit Sets Nf Fs
namespace Ft
theorem wpList_putM {P : Program} {w : World} {ops : Array Oper} {rest : List Oper} {o : Oper} {a : Act} {Q : Exit → Act → World → Prop}
    (hg : o.guard = none) (m x v : Operand) (t : TypeId) (hop : o.op = Op.mapUpdate t m x v) (mv xv vv : Value) (hm : a.eval m = mv) (hx : a.eval x = xv) (hv : a.eval v = vv) {w' : World}
    (hrun : (Instr.mapUpdate t mv xv vv).run P w = .ok () w') (hK : wpList P ops Q rest (a.put o.dst undef) w') : wpList P ops Q (o :: rest) a w := by
  refine wpList_plain hg fun K' hK' => ?_
  unfold Oper.wp
  simp [execOp, hop, hm, hx, hv, hrun, Result.andThen]
  exact hK' _ _ hK
theorem SeAt.push {w w2 : World} {s mb gF gM gB gO : Nat} {x : Ma} {m : Mc} {sv sv2 : Value} {S : St} {op : List Pr} (h : SeAt s mb gF gM gB gO x m sv S w) (hs : s ≤ w.heap.size) (hr : w2.heap[mb]? = some (.cells (seC x m gF gM gB gO sv2) 60 (0, 0))) (hz : Fz mb gB gO w sv w2 sv2)
    (hB : w2.heap[gB]? = w.heap[gB]?) (hO : w2.heap[gO]? = w.heap[gO]?) (ho : w2.ownsRow s 62 2 sv2 op.length (rowsP op)) : SeAt s mb gF gM gB gO x m sv2 ⟨S.B, S.O, op⟩ w2 := by
  have hn := h.set_ne
  exact ⟨hr, h.mapB.of hB, h.mapO.of hO, ho, h.fol.of (hz.block gF h.fol.lt hn.1.1 hn.1.2.1 hn.1.2.2 (fun e => (h.own_ne _ e).2.2.2.1 rfl)), h.mee.of (hz.block gM h.mee.lt hn.2.1 hn.2.2.1 hn.2.2.2 (fun e => (h.own_ne _ e).2.2.2.2 rfl)), fun W hW => h.mac W ((hz.below hs h.low.1 h.low.2.2.2.1 h.low.2.2.2.2 (fun g hg => (h.own.lt g hg).1)).trans hW), h.ne, h.low⟩
theorem minI (k y : Nat) : (if y < k then (y : Int) else (k : Int)) = ((sk k y).1 : Nat) := by
  show _ = ((min k y : Nat) : Int)
  split <;> omega
theorem maxI (k y : Nat) : (if k < y then (y : Int) else (k : Int)) = ((sk k y).2 : Nat) := by
  show _ = ((max k y : Nat) : Int)
  split <;> omega
theorem min_max (a b : Nat) : (min a b, max a b) = sk a b := rfl
theorem cell_same {w w' : World} {b : Nat} (h : w'.heap[b]? = w.heap[b]?) (q : Nat) : w'.cell? ⟨b, q, none⟩ = w.cell? ⟨b, q, none⟩ := by
  unfold World.cell?
  rw [h]
/-- What the spots beside the search say: the list of bytes is none of its blocks. -/
def Apart (sv : Value) (a : Option Addr) : Prop := ∀ g, sv.ownBlock = some g → ∀ b o, a = some ⟨b, o, none⟩ → g ≠ b
theorem LsAt.fz {A mb gB gO : Nat} {w w' : World} {v v' : Value} {a : Option Addr} {L : List Nat} (h : LsAt A w a L) (hf : Fz mb gB gO w v w' v') (h1 : mb < A) (h2 : gB < A) (h3 : gO < A) (ha : 0 < L.length → Apart v a) : LsAt A w' a L ∧ (0 < L.length → Apart v' a) := by
  refine ⟨fun i hi => ?_, fun hL g hg b o he => ?_⟩
  · obtain ⟨b, o, e, h4, h5, h6⟩ := h i hi
    refine ⟨b, o, e, h4, Nat.lt_of_lt_of_le h5 hf.size, ?_⟩
    rw [← h6]
    exact cell_same (hf.block b h5 (by omega) (by omega) (by omega) (fun x => ha (Nat.lt_of_le_of_lt (Nat.zero_le _) hi) b x b o e rfl)) _
  · obtain ⟨b', o', e, h4, h5, h6⟩ := h 0 hL
    rw [he] at e
    injection e with e
    injection e with e1 e2
    rcases hf.own g hg with h7 | h7
    · exact ha hL g h7 b o he
    · omega
set_option maxHeartbeats 12800000 in
set_option maxRecDepth 100000 in
theorem enter_any (s mb gF gM gB gO : Nat) (x : Ma) (m : Mc) (sv : Value) (S : St) (k nx how : Nat) (w : World) (h : SeAt s mb gF gM gB gO x m sv S w) (hs : s ≤ w.heap.size) (hn : m.sp.length ≤ 100) (hk : k < m.sp.length) (hfit : Fit m S) (hok : Ok2 m k how nx) (hT : Tab w) :
    Calls Tryd.prog 57 #[.pointer (some ⟨mb, 0, none⟩), .int .i64 (k : Nat), .agg (setC nx), .int .i64 (how : Nat)] w fun e w' => e = .returned (.tuple #[]) ∧ ∃ sv', SeAt s mb gF gM gB gO x m sv' (entP m k how nx S) w' ∧ Fz mb gB gO w sv w' sv' := by
  have HS := Lib.hid hs
  have HN := Lib.hid hn
  have HK := Lib.hid hk
  have HFT := Lib.hid hfit
  have HOK := Lib.hid hok
  have HT := Lib.hid hT
  have HTG : Hid (0 < w.heap.size) := Lib.hid (World.block_lt_of_cell? _ _ (hT 0 (by decide)))
  have HQ0 := Lib.hid h
  have HLT0 : Hid (mb < w.heap.size ∧ gB < w.heap.size ∧ gO < w.heap.size ∧ ∀ g, sv.ownBlock = some g → g < w.heap.size) := Lib.hid ⟨h.lt, h.mapB.lt, h.mapO.lt, fun g hg => (h.own.lt g hg).2⟩
  clear hs hn hk hfit hok hT h
  go_enter Tryd.func57, Tryd.ntmps57
  go_upto_region 1 with fail
  have HA1 : Hid (Below w.heap.size w (w.alloc (.cells (setC nx) 41))) := Lib.hid ((Below.refl _ _).alloc (Nat.le_refl _) _)
  have HX1 := Lib.hid (SetB.new w nx)
  have HQ1 := Lib.hid (HQ0.out.stay HA1.out HS.out)
  have HZ1 : Hid ((w.alloc (.cells (setC nx) 41)).heap.size = w.heap.size + 1) := Lib.hid (by simp)
  obtain ⟨b6, hb6⟩ : ∃ b6, Hid (w.heap.size = b6) := ⟨_, Lib.hid rfl⟩
  rw [hb6.out] at HX1 HZ1 ⊢
  generalize w.alloc (.cells (setC nx) 41) = w1 at *
  have HMK : Hid ((mtR m.sp m.sp.length 0).getD k 0 = mtN m k) := Lib.hid (mtR_mtN m k HK.out)
  have c6 : w1.cell? ⟨mb, 6, none⟩ = some (.slice (some ⟨gM, 0, none⟩) m.sp.length m.sp.length) := HQ1.out.cell 6 _ rfl
  have hki : (k : Int) < (m.sp.length : Int) := by have := HK.out; omega
  have HRM := Lib.hid (HQ1.out.mee.range (i := k) (by rw [mtR_len]; exact HK.out))
  rw [HMK.out] at HRM
  have HLm := Lib.hid HQ1.out.lt
  have HLx := Lib.hid HX1.out.lt
  have HLM := Lib.hid HQ1.out.mee.lt
  refine region_mix0 [(false, 0), (false, 1), (false, 2), (false, 3), (false, 4), (false, 5), (false, 6), (false, 7), (false, 11), (true, 8), (true, 9), (false, 10)] (fun w' => Below w1.heap.size w1 w') (by kernel_rfl) (by kernel_rfl) ((Below.refl _ _).drew) ?_
  simp only [planOps, List.map_cons, List.map_nil, List.getD_cons_zero, List.getD_cons_succ]
  refine mix_seg (seg := [_, _, _, _, _, _, _, _, _]) rfl ((Below.refl _ _).drew) ?_
  intro ι hι F hF
  have f1 := fun n => ((hF n).cell (p := ⟨mb, 6, none⟩) HLm.out).trans c6
  have f2 := Lib.hid (fun n => HX1.out.kept (hF n) HLx.out)
  have f3 := Lib.hid (fun n => range_kept HRM.out (hF n) HLM.out)
  refine BigFrame.wpQuiet_want rfl (fun K hK => ?_); refine quiet_load_set _ rfl b6 nx rfl (fun w' ⟨n, e⟩ => e ▸ f2.out n) ?_; refine hK _ ?_; clear hK K; simp only [Act.put, List.setIfInBounds_toArray, List.set_cons_zero, List.set_cons_succ]
  iterate 6 (go_big_quiet_step (fail))
  refine BigFrame.wpQuiet_want rfl (fun K hK => ?_); refine quiet_load_mid 41 _ rfl gM (k * 4) (by first | rfl | (simp; done)) (setC (mtN m k)).toList _ (fun w' ⟨n, e⟩ => e ▸ f3.out n) Tryd.underlying41 rfl (sizeSetL _) ?_; refine hK _ ?_; clear hK K; simp only [Act.put, List.setIfInBounds_toArray, List.set_cons_zero, List.set_cons_succ]
  rw [show (setC (mtN m k)).toList.toArray = setC (mtN m k) from rfl]
  iterate 1 (go_big_quiet_step (fail))
  refine wpQuiet_nil ?_
  clear f1 f2 f3 hF hι F
  have HBD : Hid (Below w1.heap.size w1 w1.drew) := Lib.hid ((Below.refl _ _).drew)
  have HAN := Lib.hid (and_any nx (mtN m k) w1.drew)
  refine mix_eff (fun K hK => ?_)
  go_wp2_with (go_at_call 41; refine HAN.out.mono ?_; rintro e w2 ⟨rfl, hb2⟩; have HB2 := Lib.hid (HBD.out.trans (hb2.mono HBD.out.size)); clear hb2)
  refine mix_on hK HB2.out ?_
  clear hK K
  have HBW2 := Lib.hid (HA1.out.trans (HB2.out.mono HA1.out.size))
  have HLI := Lib.hid (flist_any (nx &&& mtN m k) w2 (HT.out.below HBW2.out HTG.out))
  refine mix_eff (fun K hK => ?_)
  go_wp2_with (go_at_call 67; refine HLI.out.mono ?_; rintro e w3 ⟨a, cc, rfl, hls, hb3⟩; have HLS := Lib.hid hls; have HB3 := Lib.hid (HB2.out.trans (hb3.mono HB2.out.size)); clear hls hb3)
  refine mix_on hK HB3.out ?_
  clear hK K
  refine mix_seg (seg := [_]) (rest := []) rfl HB3.out ?_
  intro ι hι F hF
  iterate 1 (go_big_quiet_step (fail))
  refine wpQuiet_nil ?_
  clear hF hι F
  refine NoPanic.normal (NoPanic.normal ?_)
  have HQ3 := Lib.hid (HQ1.out.stay HB3.out (Nat.le_trans HS.out HA1.out.size))
  have HF3 : Hid (Fz mb gB gO w sv w3 sv) := Lib.hid (Fz.of_below _ _ _ _ (HA1.out.trans (HB3.out.mono HA1.out.size)))
  have HA2 : Hid (w.heap.size ≤ w2.heap.size) := Lib.hid HBW2.out.size
  have HAP : Hid (0 < (listN (nx &&& mtN m k)).length → Apart sv a) := Lib.hid (fun h0 g hg b o e => by
    have h1 := HLT0.out.2.2.2 g hg
    have h2 := HA2.out
    intro eb
    obtain ⟨b', o', e', h3, -⟩ := HLS.out 0 h0
    rw [e] at e'
    injection e' with e'
    injection e' with e1 e2
    omega)
  have HAB : Hid (mb < w2.heap.size ∧ gB < w2.heap.size ∧ gO < w2.heap.size) := Lib.hid (by have h1 := HLT0.out; have h2 := HA2.out; exact ⟨by omega, by omega, by omega⟩)
  have HLL := Lib.hid (len_list (nx &&& mtN m k))
  have HOK2 : Hid (∀ j, j < (listN (nx &&& mtN m k)).length → (listN (nx &&& mtN m k)).getD j 0 < m.sp.length ∧ Q2 m (hw m how k ((listN (nx &&& mtN m k)).getD j 0)) k ((listN (nx &&& mtN m k)).getD j 0)) := Lib.hid (fun j hj => HOK.out _ (getD_mem hj))
  have HFI : Hid (∀ j, Fit m (entA m k how S ((listN (nx &&& mtN m k)).take j))) := Lib.hid (fun j => HFT.out.ent HN.out HK.out (fun i hi => HOK.out i (List.mem_of_mem_take hi)))
  have HEP : Hid (entP m k how nx S = entA m k how S (listN (nx &&& mtN m k))) := Lib.hid rfl
  have HSN : Hid (∀ j, j < (listN (nx &&& mtN m k)).length → entA m k how S ((listN (nx &&& mtN m k)).take (j + 1)) = entS m k how (entA m k how S ((listN (nx &&& mtN m k)).take j)) ((listN (nx &&& mtN m k)).getD j 0)) := Lib.hid (fun j hj => entA_snoc m k how S _ j hj)
  obtain ⟨A2, hA2⟩ : ∃ A2, Hid (w2.heap.size = A2) := ⟨_, Lib.hid rfl⟩
  rw [hA2.out] at HLS HA2 HAB
  clear HB3 HLI HBW2 HB2 HAN HBD HLM HLx HLm HRM hki c6 HMK HQ1 HZ1 HX1 HA1 HLT0 HQ0 HOK HFT hA2
  generalize listN (nx &&& mtN m k) = L at *
  obtain ⟨N, hN⟩ : ∃ N, Hid (L.length = N) := ⟨_, Lib.hid rfl⟩
  rw [hN.out] at HLL ⊢
  go_upto_region 2 with fail
  go_loopw [23] (fun i wr => ∃ (j : Nat) (svj : Value), i = .int .i64 j ∧ j ≤ N ∧ Hid (SeAt s mb gF gM gB gO x m svj (entA m k how S (L.take j)) wr) ∧ Hid (Fz mb gB gO w sv wr svj) ∧ Hid (LsAt A2 wr a L) ∧ Hid (0 < L.length → Apart svj a)) (fun i _ => ((N : Int) - intOf i).toNat)
  case atStart => exact ⟨0, sv, rfl, Nat.zero_le _, HQ3, HF3, HLS, HAP⟩
  case round =>
    obtain ⟨j, svj, rfl, hj, HQ, HF, HL, HP⟩ := hrel
    generalize hwr : wr = w4 at *
    clear hwr wr HQ3 HF3 HLS HAP w3
    by_cases hlt : j < N
    · have hdd : decide ((j : Int) < (N : Int)) = true := decide_eq_true (by omega)
      have hd2 : decide (j < N) = true := decide_eq_true hlt
      have hji : (j : Int) < (N : Int) := by omega
      have hjl : j < L.length := by rw [hN.out]; exact hlt
      have HW1 : Hid (wrap64 ((j : Int) + 1) = ((j + 1 : Nat) : Int)) := Lib.hid (nat_wrap (by have := HLL.out; omega))
      have HJ := Lib.hid hlt
      obtain ⟨b, o, rfl, -, -, hcl⟩ := HL.out j hjl
      have HSJ := Lib.hid (HSN.out j hjl)
      have HOJ := Lib.hid (HOK2.out j hjl)
      have HFJ := Lib.hid (HFI.out j)
      have HL0 : Hid (0 < L.length) := Lib.hid (by omega)
      generalize L.getD j 0 = y at *
      generalize entA m k how S (L.take j) = Sj at *
      have HYL : Hid (y < m.sp.length) := Lib.hid HOJ.out.1
      have hwi := i64_byte y (by have h1 := HYL.out; have h2 := HN.out; omega)
      clear hlt hjl
      go_upto_region 5 with fail
      rw [minI, maxI]
      have HA5 : Hid (Below w4.heap.size w4 (w4.alloc (.cells (prC (sk k y)) 62))) := Lib.hid ((Below.refl _ _).alloc (Nat.le_refl _) _)
      have HPB := Lib.hid (PrB.new w4 (sk k y))
      change Code.wp _ _ _ _ (w4.alloc (.cells (prC (sk k y)) 62))
      have HSW : Hid (s ≤ w4.heap.size) := Lib.hid (Nat.le_trans HS.out HF.out.size)
      have HQ5 := Lib.hid (HQ.out.stay HA5.out HSW.out)
      have HF5 : Hid (Fz mb gB gO w sv _ svj) := Lib.hid (HF.out.trans (Fz.of_below mb gB gO svj HA5.out))
      have HL5 := Lib.hid (HL.out.stay HA5.out)
      have HBO : Hid (∀ g, svj.ownBlock = some g → g < w4.heap.size) := Lib.hid (fun g hg => (HQ.out.own.lt g hg).2)
      obtain ⟨b10, hb10⟩ : ∃ b, Hid (w4.heap.size = b) := ⟨_, Lib.hid rfl⟩
      have HS5 : Hid (s ≤ b10) := Lib.hid (by rw [← hb10.out]; exact HSW.out)
      rw [hb10.out] at HPB HBO ⊢
      generalize w4.alloc (.cells (prC (sk k y)) 62) = w5 at *
      clear HA5 HQ HF HL HSW hcl hb10 w4
      obtain ⟨p, hp⟩ : ∃ p, Hid (sk k y = p) := ⟨_, Lib.hid rfl⟩
      rw [hp.out] at HPB ⊢
      obtain ⟨b2, o2, hsa, hr⟩ := (HQ5.out.mac w5 (Below.refl _ _)).sp k HK.out
      obtain ⟨b3, o3, hsa3, hr3⟩ := (HQ5.out.mac w5 (Below.refl _ _)).sp y HYL.out
      have c0 : w5.cell? ⟨mb, 0, none⟩ = some (.slice x.sa m.sp.length x.sc) := HQ5.out.cell 0 _ rfl
      rw [hsa] at hsa3 c0
      injection hsa3 with hsa3
      injection hsa3 with e1 e2
      subst e1; subst e2
      have ct1 : w5.cell? ⟨b2, o2 + k * 5 + 4, none⟩ = some (.int .u8 (tgN m k : Nat)) := hr 4 _ rfl
      have ct2 : w5.cell? ⟨b2, o2 + y * 5 + 4, none⟩ = some (.int .u8 (tgN m y : Nat)) := hr3 4 _ rfl
      have hki : (k : Int) < (m.sp.length : Int) := by have := HK.out; omega
      have hyi : (y : Int) < (m.sp.length : Int) := by have := HYL.out; omega
      clear hr hr3
      go_upto_region 6 with fail
      have HMB := Lib.hid HQ5.out.lt
      refine region_mix [(false, 0), (false, 1), (false, 2), (false, 3), (false, 4), (false, 5), (false, 6), (false, 7), (false, 8), (false, 9), (false, 10), (false, 11), (false, 12), (false, 13), (false, 14), (false, 15), (false, 16), (false, 17)] (fun w' => w' = w5.drew) (by kernel_rfl) (by kernel_rfl) rfl ?_
      simp only [planOps, List.map_cons, List.map_nil, List.getD_cons_zero, List.getD_cons_succ, List.length_cons, List.length_nil, List.drop_succ_cons, List.drop_zero]
      refine mix_seg (seg := [_, _, _, _, _, _, _, _, _, _, _, _, _, _, _, _, _, _]) (rest := []) rfl rfl ?_
      intro ι hι F hF
      have f1 : ∀ n, (F n).cell? ⟨mb, 0, none⟩ = some (.slice (some ⟨b2, o2, none⟩) m.sp.length x.sc) := fun n => by rw [hF n]; exact c0
      have f2 : ∀ n, (F n).cell? ⟨b2, o2 + k * 5 + 4, none⟩ = some (.int .u8 (tgN m k : Nat)) := fun n => by rw [hF n]; exact ct1
      have f3 : ∀ n, (F n).cell? ⟨b2, o2 + y * 5 + 4, none⟩ = some (.int .u8 (tgN m y : Nat)) := fun n => by rw [hF n]; exact ct2
      iterate 18 (go_big_quiet_step (fail))
      refine wpQuiet_nil ?_
      clear f1 f2 f3 hF hι F
      show wpList _ _ _ _ _ _
      obtain ⟨now, hnow⟩ : ∃ now, Hid (hw m how k y = now) := ⟨_, Lib.hid rfl⟩
      have HENT : Hid (entS m k how Sj y = if Sj.B p < now then ⟨upd Sj.B p now, Sj.O, Sj.op ++ [p]⟩ else Sj) := Lib.hid (by rw [← hnow.out, ← hp.out]; rfl)
      have HD6 : Hid (Below w5.heap.size w5 w5.drew) := Lib.hid ((Below.refl _ _).drew)
      have HSW5 : Hid (s ≤ w5.heap.size) := Lib.hid (Nat.le_trans HS5.out (Nat.le_of_lt HPB.out.lt))
      have HQ6 := Lib.hid (HQ5.out.stay HD6.out HSW5.out)
      have HF6 : Hid (Fz mb gB gO w sv w5.drew svj) := Lib.hid (HF5.out.trans (Fz.of_below mb gB gO svj HD6.out))
      have HL6 := Lib.hid (HL5.out.stay HD6.out)
      have HPB6 := Lib.hid (HPB.out.stay HD6.out)
      have htg : ∃ ht : Bool, Hid (((((tgN m k : Nat) : Int) != ((tgN m y : Nat) : Int)) = ht) ∧ ((ht = false ∧ now = how) ∨ (ht = true ∧ now = 2))) := by
        by_cases e : tgN m k = tgN m y
        · exact ⟨false, Lib.hid ⟨by rw [e]; simp, .inl ⟨rfl, by rw [← hnow.out]; exact if_pos e⟩⟩⟩
        · exact ⟨true, Lib.hid ⟨by simpa using fun h : ((tgN m k : Nat) : Int) = ((tgN m y : Nat) : Int) => e (by omega), .inr ⟨rfl, by rw [← hnow.out]; exact if_neg e⟩⟩⟩
      obtain ⟨ht, hht⟩ := htg
      have hne := hht.out.1
      generalize tgN m k = t1 at *
      generalize tgN m y = t2 at *
      clear c0 ct1 ct2 HQ5 HF5 HL5 HPB HD6 HMB HSW5
      generalize w5.drew = w6 at *
      clear w5
      have HIF : Hid (entS m k how Sj y = if Sj.B p < now then ⟨upd Sj.B p now, Sj.O, Sj.op ++ [p]⟩ else Sj) := HENT
      rw [← HSJ.out] at HIF
      have HLTN : Hid (decide (Sj.B p < now) = decide (((Sj.B p : Nat) : Int) < ((now : Nat) : Int))) := Lib.hid (by rw [decide_eq_decide]; omega)
      have hlt2 : ∃ bl : Bool, Hid (decide (Sj.B p < now) = bl) := ⟨_, Lib.hid rfl⟩
      obtain ⟨bl, hbl⟩ := hlt2
      rcases hht.out.2 with ⟨rfl, rfl⟩ | ⟨rfl, hn⟩
      all_goals
        try
          have HNW := Lib.hid hn
          clear hn
        have hd3 := HLTN.out.symm.trans hbl.out
        have hd4 := hbl.out
        clear hht hnow HENT HOJ HSJ
        go_wp2_with fail
        refine NoPanic.normal ?_
        go_upto_region 8 with fail
        try rw [show (2 : Int) = ((now : Nat) : Int) from by rw [HNW.out]; rfl]
        have HD7 : Hid (Below w6.heap.size w6 w6.drew) := Lib.hid ((Below.refl _ _).drew)
        have HSW6 : Hid (s ≤ w6.heap.size) := Lib.hid (Nat.le_trans HS5.out (Nat.le_of_lt HPB6.out.lt))
        have HQ7 := Lib.hid (HQ6.out.stay HD7.out HSW6.out)
        have HF7 : Hid (Fz mb gB gO w sv w6.drew svj) := Lib.hid (HF6.out.trans (Fz.of_below mb gB gO svj HD7.out))
        have HL7 := Lib.hid (HL6.out.stay HD7.out)
        have HPB7 := Lib.hid (HPB6.out.stay HD7.out)
        refine region_mix [(false, 0), (false, 1), (false, 2), (false, 3), (false, 4), (false, 5), (false, 6)] (fun w' => w' = w6.drew) (by kernel_rfl) (by kernel_rfl) rfl ?_
        clear HQ6 HF6 HL6 HPB6 HD7 HSW6
        generalize w6.drew = w7 at *
        clear w6
        simp only [planOps, List.map_cons, List.map_nil, List.getD_cons_zero, List.getD_cons_succ, List.length_cons, List.length_nil, List.drop_succ_cons, List.drop_zero]
        refine mix_seg (seg := [_, _, _, _, _, _, _]) (rest := []) rfl rfl ?_
        intro ι hι F hF
        have f1 : ∀ n, (F n).cell? ⟨mb, 7, none⟩ = some (.map (some gB)) := fun n => by rw [hF n]; exact HQ7.out.cell 7 _ rfl
        have f2 := Lib.hid (fun n => (PrB.of HPB7.out (by rw [hF n]) : PrB (F n) b10 p))
        have f3 : ∀ n, (Instr.lookup 57 (.map (some gB)) (.agg (prC p)) false).run Tryd.prog (F n) = .ok (.int .i64 (Sj.B p : Nat)) (F n) := fun n => by rw [hF n]; exact HQ7.out.mapB.look p
        clear hF
        iterate 4 (go_big_quiet_step (fail))
        refine BigFrame.wpQuiet_want rfl (fun K hK => ?_); refine quiet_load_row 62 _ rfl b10 rfl 62 (prC p) (0, 0) _ (fun w' ⟨n, e⟩ => e ▸ (f2.out n).row) Tryd.underlying62 rfl (sizePr p) ?_; refine hK _ ?_; clear hK K; simp only [Act.put, List.setIfInBounds_toArray, List.set_cons_zero, List.set_cons_succ]
        iterate 2 (go_big_quiet_step (fail))
        refine wpQuiet_nil ?_
        clear f1 f2 f3 hι F
        show wpList _ _ _ _ _ _
        cases bl with
        | false =>
          have HSE : Hid (entA m k _ S (L.take (j + 1)) = Sj) := Lib.hid (HIF.out.trans (if_neg (of_decide_eq_false hbl.out)))
          go_wp2_with fail
          refine NoPanic.normal ?_
          go_wp2_with fail
          go_roundw
          case rel => exact ⟨j + 1, svj, by rw [HW1.out], HJ.out, Lib.hid (by rw [HSE.out]; exact HQ7.out), HF7, HL7, HP⟩
          case measure => rw [HW1.out]; exact meas9 HJ.out
        | true =>
          have HSE : Hid (entA m k _ S (L.take (j + 1)) = ⟨upd Sj.B p now, Sj.O, Sj.op ++ [p]⟩) := Lib.hid (HIF.out.trans (if_pos (of_decide_eq_true hbl.out)))
          go_wp2_with fail
          refine NoPanic.normal ?_
          go_upto_region 9 with fail
          have HD8 : Hid (Below w7.heap.size w7 w7.drew) := Lib.hid ((Below.refl _ _).drew)
          have HSW7 : Hid (s ≤ w7.heap.size) := Lib.hid (Nat.le_trans HS5.out (Nat.le_of_lt HPB7.out.lt))
          have HQ8 := Lib.hid (HQ7.out.stay HD8.out HSW7.out)
          have HF8 : Hid (Fz mb gB gO w sv w7.drew svj) := Lib.hid (HF7.out.trans (Fz.of_below mb gB gO svj HD8.out))
          have HL8 := Lib.hid (HL7.out.stay HD8.out)
          have HPB8 := Lib.hid (HPB7.out.stay HD8.out)
          refine region_mix [(false, 0), (false, 1), (false, 2), (false, 3), (false, 4), (false, 5)] (fun w' => w' = w7.drew) (by kernel_rfl) (by kernel_rfl) rfl ?_
          clear HQ7 HF7 HL7 HPB7 HD8 HSW7
          generalize w7.drew = w8 at *
          clear w7
          simp only [planOps, List.map_cons, List.map_nil, List.getD_cons_zero, List.getD_cons_succ, List.length_cons, List.length_nil, List.drop_succ_cons, List.drop_zero]
          refine mix_seg (seg := [_, _, _, _, _, _]) (rest := []) rfl rfl ?_
          intro ι hι F hF
          have f1 : ∀ n, (F n).cell? ⟨mb, 7, none⟩ = some (.map (some gB)) := fun n => by rw [hF n]; exact HQ8.out.cell 7 _ rfl
          have f2 := Lib.hid (fun n => (PrB.of HPB8.out (by rw [hF n]) : PrB (F n) b10 p))
          clear hF
          iterate 4 (go_big_quiet_step (fail))
          refine BigFrame.wpQuiet_want rfl (fun K hK => ?_); refine quiet_load_row 62 _ rfl b10 rfl 62 (prC p) (0, 0) _ (fun w' ⟨n, e⟩ => e ▸ (f2.out n).row) Tryd.underlying62 rfl (sizePr p) ?_; refine hK _ ?_; clear hK K; simp only [Act.put, List.setIfInBounds_toArray, List.set_cons_zero, List.set_cons_succ]
          iterate 1 (go_big_quiet_step (fail))
          refine wpQuiet_nil ?_
          clear f1 f2 hι F
          show wpList _ _ _ _ _ _
          obtain ⟨w9, hrun, hM9, hbu9⟩ := HQ8.out.mapB.put p now
          refine wpList_putM rfl _ _ _ 57 rfl (.map (some gB)) (.agg (prC p)) (.int .i64 (now : Nat)) rfl rfl rfl hrun ?_
          refine wpList_nil ?_
          refine NoPanic.normal ?_
          rw [hput]
          have HQ9 := Lib.hid (HQ8.out.putB hM9 hbu9)
          have HF9 : Hid (Fz mb gB gO w sv w9 svj) := Lib.hid (HF8.out.trans (Fz.putB svj hbu9))
          have HPB9 : Hid (PrB w9 b10 p) := Lib.hid (HPB8.out.of (hbu9.block b10 HPB8.out.lt (fun e => HQ8.out.mapB.no_cells (by rw [← e]; exact HPB8.out.row))))
          have HL9 := Lib.hid ((HL8.out.fz (Fz.putB (mb := mb) (gO := gO) svj hbu9) HAB.out.1 HAB.out.2.1 HAB.out.2.2 HP.out).1)
          clear hrun hM9 hbu9 HQ8 HF8 HPB8 HL8 w8
          go_upto_region 10 with fail
          have HD10 : Hid (Below w9.heap.size w9 w9.drew) := Lib.hid ((Below.refl _ _).drew)
          have HSW9 : Hid (s ≤ w9.heap.size) := Lib.hid (Nat.le_trans HS5.out (Nat.le_of_lt HPB9.out.lt))
          have HQ10 := Lib.hid (HQ9.out.stay HD10.out HSW9.out)
          have HF10 : Hid (Fz mb gB gO w sv w9.drew svj) := Lib.hid (HF9.out.trans (Fz.of_below mb gB gO svj HD10.out))
          have HL10 := Lib.hid (HL9.out.stay HD10.out)
          have HPB10 := Lib.hid (HPB9.out.stay HD10.out)
          have HC0 : Hid (w9.drew.cell? ⟨mb, 9, none⟩ = some svj ∧ PrB w9.drew b10 p) := Lib.hid ⟨HQ10.out.cell 9 _ rfl, HPB10.out⟩
          refine region_mix [(false, 0), (false, 1), (false, 2), (false, 3), (false, 4), (false, 5), (true, 6), (true, 7), (false, 8), (false, 9)] (fun w' => w'.cell? ⟨mb, 9, none⟩ = some svj ∧ PrB w' b10 p) (by kernel_rfl) (by kernel_rfl) HC0.out ?_
          have HSZ : Hid (s ≤ w9.drew.heap.size) := Lib.hid (Nat.le_trans HSW9.out HD10.out.size)
          clear HQ9 HF9 HL9 HPB9 HD10 HSW9
          generalize w9.drew = w10 at *
          clear w9
          simp only [planOps, List.map_cons, List.map_nil, List.getD_cons_zero, List.getD_cons_succ, List.length_cons, List.length_nil, List.drop_succ_cons, List.drop_zero]
          refine mix_seg (seg := [_, _, _, _, _, _]) rfl HC0.out ?_
          intro ι hι F hF
          have f1 := fun n => (hF n).1
          have f2 := Lib.hid (fun n => (hF n).2)
          iterate 5 (go_big_quiet_step (fail))
          refine BigFrame.wpQuiet_want rfl (fun K hK => ?_); refine quiet_load_row 62 _ rfl b10 rfl 62 (prC p) (0, 0) _ (fun w' ⟨n, e⟩ => e ▸ (f2.out n).row) Tryd.underlying62 rfl (sizePr p) ?_; refine hK _ ?_; clear hK K; simp only [Act.put, List.setIfInBounds_toArray, List.set_cons_zero, List.set_cons_succ]
          refine wpQuiet_nil ?_
          clear f1 f2 hF hι F
          unfold prC
          refine mix_eff (fun K hK => ?_)
          go_wp2_with fail
          refine mix_on hK ⟨by rw [World.cell?_alloc_past _ _ _ (World.block_lt_of_cell? _ _ HC0.out.1)]; exact HC0.out.1, HC0.out.2.stay ((Below.refl _ _).alloc (Nat.le_refl _) _)⟩ ?_
          clear hK K
          refine mix_eff (fun K hK => ?_)
          refine wpList_push 58 62 (.agg #[.int .i64 0, .int .i64 0]) 2 16 Tryd.underlying58 infoPr rfl (by decide) rfl (.tmp 74) (.tmp 76) rfl s svj Sj.op.length (rowsP Sj.op) rfl HQ10.out.own (prC p).toList _ rfl rfl (fun u hu => by
            have := onePr p
            rw [Array.all_eq_true_iff_forall_mem] at this
            exact this u (by simpa using hu)) rfl (by have := HFJ.out.op; omega) (by decide) HSZ.out ?_
          intro sv2 w11 ho11 hb11 ha11
          obtain ⟨a9, c9, hsv2, -⟩ := own_slice ho11
          have HSV2 := Lib.hid hsv2
          clear hsv2
          have hq := HQ10.out
          have hnb : svj.ownBlock ≠ some mb := fun e => (hq.own_ne _ e).1 rfl
          have hnx : svj.ownBlock ≠ some b10 := fun e => by have := HBO.out b10 e; omega
          have hr11 := (ha11.block mb hq.lt hnb).trans hq.row
          have HC11 : Hid (w11.cell? ⟨mb, 9, none⟩ = some svj ∧ PrB w11 b10 p) := Lib.hid ⟨by rw [cell_of_row w11 mb 9 _ _ _ hr11]; rfl, HC0.out.2.of (ha11.block b10 HC0.out.2.lt hnx)⟩
          have HFZ : Hid (w11.frozen? ⟨mb, 9, none⟩ = false) := Lib.hid (frozen_of_row w11 _ 9 _ _ hr11)
          have HR12 : Hid ((w11.setCell ⟨mb, 9, none⟩ sv2).heap[mb]? = some (.cells (seC x m gF gM gB gO sv2) 60 (0, 0))) := Lib.hid (by rw [heap_setCell_same _ _ _ _ _ _ hr11]; rfl)
          have hset : ∀ q, q ≠ mb → (w11.setCell ⟨mb, 9, none⟩ sv2).heap[q]? = w11.heap[q]? := fun q hk => Below.heap_setCell w11 ⟨mb, 9, none⟩ sv2 q hk
          have HFZ2 : Hid (Fz mb gB gO w10 svj (w11.setCell ⟨mb, 9, none⟩ sv2) sv2) := Lib.hid ⟨hb11.os, hb11.tape, hb11.output, by simpa using hb11.size, fun q hq' h1 _ _ h4 => (hset q h1).trans (ha11.block q hq' h4), ha11.own⟩
          have hsn := hq.set_ne
          have HQ12 : Hid (SeAt s mb gF gM gB gO x m sv2 ⟨upd Sj.B p now, Sj.O, Sj.op ++ [p]⟩ (w11.setCell ⟨mb, 9, none⟩ sv2)) := Lib.hid (hq.push HSZ.out HR12.out HFZ2.out ((hset gB hq.neB.symm).trans (ha11.block gB hq.mapB.lt (fun e => (hq.own_ne _ e).2.1 rfl))) ((hset gO hq.neO.symm).trans (ha11.block gO hq.mapO.lt (fun e => (hq.own_ne _ e).2.2.1 rfl))) (by
            rw [List.length_append, rowsP_snoc]
            refine own_kept ho11 (fun g hg => hset g (fun e => ?_))
            obtain ⟨cs, hc⟩ := own_type ho11 hg
            rw [e, hr11] at hc
            injection hc with hc
            injection hc with _ h2
            exact absurd h2 (by decide)))
          have HF12 := Lib.hid (HF10.out.trans HFZ2.out)
          have HL12 := Lib.hid (HL10.out.fz HFZ2.out HAB.out.1 HAB.out.2.1 HAB.out.2.2 HP.out)
          clear hset hsn hnx hnb hr11 ho11 hb11 ha11 hq
          refine wpList_nil ?_
          refine mix_on hK HC11.out ?_
          clear hK K
          refine mix_seg (seg := [_, _]) (rest := []) rfl HC11.out ?_
          intro ι hι F hF
          clear hF
          simp only [Act.put, List.setIfInBounds_toArray, List.set_cons_zero, List.set_cons_succ]
          iterate 2 (go_big_quiet_step (fail))
          refine wpQuiet_nil ?_
          clear hι F
          show wpList _ _ _ _ _ _
          have c7 := HC11.out.1
          have z7 := HFZ.out
          rw [HSV2.out]
          rw [HSV2.out] at HQ12 HF12 HL12
          go_wp2_with fail
          refine NoPanic.normal ?_
          go_wp2_with fail
          go_roundw
          case rel => exact ⟨j + 1, _, by rw [HW1.out], HJ.out, Lib.hid (by rw [HSE.out]; exact HQ12.out), HF12, Lib.hid HL12.out.1, Lib.hid HL12.out.2⟩
          case measure => rw [HW1.out]; exact meas9 HJ.out
    · have hdd : decide ((j : Int) < (N : Int)) = false := decide_eq_false (by omega)
      have hd2 : decide (j < N) = false := decide_eq_false hlt
      have HE : Hid (entA m k how S (L.take j) = entP m k how nx S) := Lib.hid (by rw [HEP.out, List.take_of_length_le (by rw [hN.out]; omega)])
      rw [HE.out] at HQ
      go_wp2_with fail
      go_end0
      exact ⟨rfl, svj, HQ.out, HF.out⟩
end Ft
end Go.Proofs.YtghbgfkkdknmnaaDoor
