/- Several texts in one. -/
import Derived.Test.YtojndkdhjhcphaaDoorPkH
import Derived.Test.YtojndkdhjhcphaaDoorPkN
import Derived.Deep.Slices
import Derived.Test.YtojndkdhjhcphaaDoorPkQ
namespace Go.Proofs.YtojndkdhjhcphaaDoor
open Go.RowKit Sets Tr Rx Sp
theorem md_cell {w : World} {B q n c : Nat} {F : List Nat} (h : OwnU B w (.slice (some ⟨q, 0, none⟩) n c) F) {j : Nat} (hj : j < F.length) : w.cell? ⟨q, j, none⟩ = some (.int .u64 ((F.getD j 0 : Nat) : Int)) := by
  have hn : n = F.length := by obtain ⟨a, c', e⟩ := own_slice h; injection e
  subst hn
  exact fol_cell h hj
theorem md_set {w : World} {B q n c : Nat} {S : List Nat} (h : OwnS B w (.slice (some ⟨q, 0, none⟩) n c) S) {j : Nat} (hj : j < S.length) : w.rangeAt q (j * 4) (st4 (S.getD j 0)) := by
  have hn : n = S.length := by obtain ⟨a, c', e⟩ := own_slice h; injection e
  subst hn
  exact set_range h hj
theorem wrap_pred (n : Nat) (hn : n < 64) : IntKind.u64.wrap (((2 ^ n : Nat) : Int) - 1) = ((2 ^ n - 1 : Nat) : Int) := by
  have h : 2 ^ n < 2 ^ 64 := Nat.pow_lt_pow_right (by decide) hn
  have h0 := Nat.two_pow_pos n
  rw [IntKind.wrap_u64]; omega
theorem own_grow {w0 w w' : World} {B : Nat} {v : Value} {L : List Nat} (h : OwnU B w v L) (hb : Below B w0 w) (hB : B ≤ w0.heap.size) (hg : w.grownBy w' v.ownBlock) : Below B w0 w' :=
  hb.trans ⟨hg.os, hg.tape, hg.output, hg.size, fun k hk => hg.block k (by have := hb.size; omega) (fun e => by have := (h.lt k e.symm).1; omega)⟩
theorem sizeSet8 : (Tryd.prog.info? 37).map (·.size) = some 4 := by kernel_rfl
theorem wpList_load_set8 {ops : Array Oper} {rest : List Oper} {o : Oper} {a : Act} {w : World} {Q : Exit → Act → World → Prop} (hgd : o.guard = none) (x : Operand) (ho : o.op = .load 37 x)
    (b q S : Nat) (hx : a.eval x = .pointer (some ⟨b, q, none⟩)) (hc : w.rangeAt b q (st4 S))
    (h : wpList Tryd.prog ops Q rest (a.put o.dst (.agg #[.int .u64 (wd S 0), .int .u64 (wd S 1), .int .u64 (wd S 2), .int .u64 (wd S 3)])) w) : wpList Tryd.prog ops Q (o :: rest) a w :=
  wpList_load_mid hgd 37 x ho b q hx (st4 S) _ hc Tryd.underlying37 rfl sizeSet8 h
theorem mask_lt {n p : Nat} (h : p + n ≤ 63) : (2 ^ n - 1) <<< p < 2 ^ 64 := Nat.lt_of_lt_of_le (Sp.shl_lt (n := n) (by have := Nat.two_pow_pos n; omega)) (Nat.pow_le_pow_right (by decide) (by omega))
theorem small_r {n p : Nat} (h : p + n ≤ 63) : n < 64 := by omega
theorem small_l {n p : Nat} (h : p + n ≤ 63) : p < 64 := by omega
theorem wrap_sum {n p : Nat} (h : p + n ≤ 63) : wrap64 ((p : Int) + (n : Int)) = ((p + n : Nat) : Int) := by unfold wrap64; omega
theorem next63 {i n : Nat} (h : i < n) (hn : n ≤ 63) : wrap64 ((i : Int) + 1) = ((i + 1 : Nat) : Int) := by unfold wrap64; omega
theorem not_le8 {i n : Nat} (h : i < n) : decide ((n : Int) ≤ (i : Int)) = false := decide_eq_false (by omega)
theorem not_le9 {i n : Nat} (h : i < n) : decide (n ≤ i) = false := decide_eq_false (by omega)
theorem is_lt8 {i n : Nat} (h : i < n) : decide ((i : Int) < (n : Int)) = true := decide_eq_true (by omega)
theorem not_lt8 (i : Nat) : decide ((i : Int) < (i : Int)) = false := decide_eq_false (by omega)
theorem not_lt9 (i : Nat) : decide (i < i) = false := decide_eq_false (by omega)
theorem lens8 {a b n : Nat} (h : a = n) (h2 : b = n) : ((a : Int) != (b : Int)) = false := by rw [h, h2]; simp
set_option maxHeartbeats 12800000 in
set_option maxRecDepth 100000 in
theorem sapart_any (na pa : Option Addr) (nc pc : Nat) (N : List Nd) (R : List (Int × Bool)) (w : World) (hU : Uns w na pa nc pc N R) (hT : Tab w) :
    Calls Tryd.prog 6 #[.agg #[.slice na N.length nc, .slice pa R.length pc]] w fun e w' => e = .returned (.bool true) ∧ Below w.heap.size w w' := by
  have HT := Lib.hid hT
  have hg := fun w => great_any na pa N.length nc R.length pc w
  have hb0 := (Below.refl w.heap.size w).alloc (Nat.le_refl _) (.cells #[.slice na N.length nc, .slice pa R.length pc] 34)
  have HB0 := Lib.hid hb0
  have HS0 : Hid (w.heap.size < (w.alloc (.cells #[.slice na N.length nc, .slice pa R.length pc] 34)).heap.size) := Lib.hid (by simp)
  have HC0 : Hid ((w.alloc (.cells #[.slice na N.length nc, .slice pa R.length pc] 34)).cell? ⟨w.heap.size, 0, none⟩ = some (.slice na N.length nc)) := Lib.hid (by simp)
  have HC1 : Hid ((w.alloc (.cells #[.slice na N.length nc, .slice pa R.length pc] 34)).cell? ⟨w.heap.size, 1, none⟩ = some (.slice pa R.length pc)) := Lib.hid (by simp)
  clear hT hb0
  go_enter Tryd.func6, Tryd.ntmps6
  cases hgr : greatB N.length R.length
  case true =>
    rw [hgr] at hg
    have HG := Lib.hid hg
    clear hg hgr
    go_wp2_with fail
    refine (HG.out _).mono ?_
    rintro e w2 ⟨rfl, hB2⟩
    have HB2 := Lib.hid (HB0.out.trans (hB2.mono HB0.out.size))
    clear hB2
    go_wp2_with fail
    refine (awake8_any _ (HT.out.below HB2.out (tab_lt HT.out))).mono ?_
    rintro e w3 ⟨rfl, hB3⟩
    have HB3 := Lib.hid (HB2.out.trans (hB3.mono HB2.out.size))
    clear hB3
    go_wp2_with fail
    go_ret
    exact ⟨rfl, HB3.out⟩
  case false =>
    obtain ⟨hN, hP⟩ := hU hgr
    rw [hgr] at hg
    have HG := Lib.hid hg
    have HN := Lib.hid hN
    have HP := Lib.hid hP
    clear hg hgr hN hP
    go_wp2_with fail
    refine (HG.out _).mono ?_
    rintro e w2 ⟨rfl, hB2⟩
    have HB2 := Lib.hid (HB0.out.trans (hB2.mono HB0.out.size))
    have hS2 : w.heap.size < w2.heap.size := Nat.lt_of_lt_of_le HS0.out hB2.size
    have hc0 := (hB2.cell HS0.out).trans HC0.out
    have hc1 := (hB2.cell HS0.out).trans HC1.out
    have HT2 := Lib.hid (HT.out.below HB2.out (tab_lt HT.out))
    have HO := Lib.hid (spotsOf_any _ _ N R w2 (HN.out.kept HB2.out) (HP.out.kept HB2.out) HT2.out (tab_lt HT2.out))
    clear hB2 HB0 HS0 HC0 HC1 HG
    go_wp2_with fail
    refine HO.out.mono ?_
    clear HO
    rintro e w3 ⟨hB3, hE⟩
    have HB3 := Lib.hid (HB2.out.trans (hB3.mono HB2.out.size))
    have hS3 : w.heap.size < w3.heap.size := Nat.lt_of_lt_of_le hS2 hB3.size
    have hd0 := (hB3.cell hS2).trans hc0
    have hd1 := (hB3.cell hS2).trans hc1
    clear hB3 hc0 hc1 hS2
    rcases hE with ⟨-, rfl⟩ | ⟨-, -, rfl⟩ | ⟨hr, hp, sv, a, b, fv, c, d, rfl, hM⟩
    · have HB4 := Lib.hid (HB3.out.alloc HB3.out.size (.cells nilMd 26))
      go_wp2_with (refine wpList_lay_made rfl _ _ rfl nilMd rfl nil_ones w3.heap.size rfl rfl rfl ?_)
      refine (awake8_any _ (HT.out.below HB4.out (tab_lt HT.out))).mono ?_
      rintro e w5 ⟨rfl, hB5⟩
      have HB5 := Lib.hid (HB4.out.trans (hB5.mono HB4.out.size))
      clear hB5
      go_wp2_with fail
      go_ret
      exact ⟨rfl, HB5.out⟩
    · have HB4 := Lib.hid (HB3.out.alloc HB3.out.size (.cells nilMd 26))
      go_wp2_with (refine wpList_lay_made rfl _ _ rfl nilMd rfl nil_ones w3.heap.size rfl rfl rfl ?_)
      refine (awake8_any _ (HT.out.below HB4.out (tab_lt HT.out))).mono ?_
      rintro e w5 ⟨rfl, hB5⟩
      have HB5 := Lib.hid (HB4.out.trans (hB5.mono HB4.out.size))
      clear hB5
      go_wp2_with fail
      go_ret
      exact ⟨rfl, HB5.out⟩
    · have hR := rightB_iff.1 hr
      have hln := of_len hR hp
      have hml := Sp.md_len (parts N R)
      have hpl : (parts N R).length = R.length := by unfold parts; rw [List.length_map]
      rw [hpl] at hml
      have hfew := hR.few
      have HPLC := Lib.hid (pl_all w (.slice na N.length nc) (.slice pa R.length pc) N HN.out ⟨_, _, _, rfl⟩ hR.snd)
      have HR := Lib.hid hR
      have HLN := Lib.hid hln
      have HPF := Lib.hid (fun (i : Nat) (hi : i < R.length) => part_facts hR hp hi)
      have HOA := Lib.hid (off_all hR hp)
      have HPP := Lib.hid hp
      have HML := Lib.hid hml
      have HPN := Lib.hid hpl
      obtain ⟨sa, sc, e0⟩ := own_slice hM.s
      obtain ⟨fa, fc, e1⟩ : ∃ q k, a = .slice (some ⟨q, 0, none⟩) (Sp.md (parts N R)).fi.length k := own_some hM.fi (by omega)
      obtain ⟨la, lc, e2⟩ : ∃ q k, b = .slice (some ⟨q, 0, none⟩) (Sp.md (parts N R)).la.length k := own_some hM.la (by omega)
      obtain ⟨va, vc, e3⟩ := own_slice hM.f
      rw [hml.2.1] at e1
      rw [hml.2.2.1] at e2
      rw [hml.1] at e3
      subst e0 e1 e2 e3
      have HOne := Lib.hid (made_slices hM)
      clear hr hp hR hln hml hpl
      generalize hmm : Sp.md (parts N R) = m at *
      generalize hsl : m.s.length = sl at *
      have hal := (Below.refl w3.heap.size w3).alloc (Nat.le_refl _) (.cells (mdV (.slice sa sl sc) (.slice (some ⟨fa, 0, none⟩) R.length fc) (.slice (some ⟨la, 0, none⟩) R.length lc) (.slice va sl vc) c d) 26)
      have HM4 := Lib.hid (hM.kept hal)
      have HB4 := Lib.hid (HB3.out.trans (hal.mono HB3.out.size))
      have HD4 : Hid ((w3.alloc (.cells (mdV (.slice sa sl sc) (.slice (some ⟨fa, 0, none⟩) R.length fc) (.slice (some ⟨la, 0, none⟩) R.length lc) (.slice va sl vc) c d) 26)).heap[w3.heap.size]? = some (.cells (mdV (.slice sa sl sc) (.slice (some ⟨fa, 0, none⟩) R.length fc) (.slice (some ⟨la, 0, none⟩) R.length lc) (.slice va sl vc) c d) 26 (0, 0))) := Lib.hid (heap_alloc_new w3 _)
      have he0 := (hal.cell hS3).trans hd0
      have he1 := (hal.cell hS3).trans hd1
      have hS4 : w.heap.size < (w3.alloc (.cells (mdV (.slice sa sl sc) (.slice (some ⟨fa, 0, none⟩) R.length fc) (.slice (some ⟨la, 0, none⟩) R.length lc) (.slice va sl vc) c d) 26)).heap.size := by have := hal.size; omega
      clear hal hM hd0 hd1 hS3 HB3
      go_upto_region 4 with (refine wpList_lay_made rfl _ _ rfl (mdV (.slice sa sl sc) (.slice (some ⟨fa, 0, none⟩) R.length fc) (.slice (some ⟨la, 0, none⟩) R.length lc) (.slice va sl vc) c d) rfl HOne.out w3.heap.size rfl rfl rfl ?_)
      generalize (w3.alloc (.cells (mdV (.slice sa sl sc) (.slice (some ⟨fa, 0, none⟩) R.length fc) (.slice (some ⟨la, 0, none⟩) R.length lc) (.slice va sl vc) c d) 26)) = w4 at *
      generalize w3.heap.size = D at *
      clear w3
      obtain ⟨k0, k1, k2, k3, k4, k5⟩ := mdV_cells HD4.out
      have hDl : D < w4.heap.size := (Array.getElem?_eq_some_iff.1 HD4.out).1
      go_wp2_with fail
      have HP8 := HP
      clear HP
      go_loopw [5, 6, 7] (fun v a x wr => ∃ (j p : Nat) (L : List Nat) (oa : Option Addr) (oc : Nat), x = .int .i64 j ∧ a = .int .i64 p ∧ v = .slice oa j oc ∧ j ≤ R.length ∧ p ≤ 63 ∧ Hid (p = offP N R j) ∧ Hid (L.length = j) ∧ Hid (OwnU w4.heap.size wr (.slice oa j oc) L) ∧ Hid (Below w4.heap.size w4 wr)) (fun _ _ x _ => ((R.length : Int) - intOf x).toNat)
      case atStart => exact ⟨0, 0, [], none, 0, rfl, rfl, rfl, Nat.zero_le _, by omega, Lib.hid rfl, Lib.hid rfl, Lib.hid (World.ownsRow_nil _ _ _ _), Lib.hid (Below.refl _ _)⟩
      case round =>
        obtain ⟨j, p, L, oa, oc, rfl, rfl, rfl, hj, hp63, HO, HLL, HOW, HB⟩ := hrel
        generalize hwr : wr = w5 at *
        clear hwr wr
        have hs45 := HB.out.size
        have hS5 : w.heap.size < w5.heap.size := Nat.lt_of_lt_of_le hS4 hs45
        have hD5 : D < w5.heap.size := Nat.lt_of_lt_of_le hDl hs45
        have e0 := (HB.out.cell hS4).trans he0
        have e1 := (HB.out.cell hS4).trans he1
        have q0 := (HB.out.cell hDl).trans k0
        have q1 := (HB.out.cell hDl).trans k1
        have q2 := (HB.out.cell hDl).trans k2
        have q3 := (HB.out.cell hDl).trans k3
        have HS45 := Lib.hid hs45
        clear hs45
        by_cases hlt : j < R.length
        case neg =>
          have hje : j = R.length := by omega
          subst hje
          have hps : p = sl := by rw [HO.out, HOA.out, HLN.out]
          subst hps
          have hd : decide ((R.length : Int) < (R.length : Int)) = false := decide_eq_false (by omega)
          have hd2 : decide (R.length < R.length) = false := decide_eq_false (by omega)
          clear he0 he1 k0 k1 k2 k3 k4 k5
          generalize hNR : R.length = nr at *
          have HNR := Lib.hid hNR
          clear hNR
          go_wp2_with fail
          go_loopw [11] (fun x wr => ∃ i : Nat, x = .int .i64 i ∧ i ≤ p ∧ Hid (Below w5.heap.size w5 wr)) (fun x _ => ((p : Int) - intOf x).toNat)
          case atStart => exact ⟨0, rfl, Nat.zero_le _, Lib.hid (Below.refl _ _)⟩
          case round =>
            obtain ⟨i, rfl, hi, HBi⟩ := hrel
            generalize hwr : wr = w6 at *
            clear hwr wr
            have f0 := (HBi.out.cell hD5).trans q0
            have f1 := (HBi.out.cell hD5).trans q1
            have HBf := Lib.hid (HB4.out.trans ((HB.out.trans (HBi.out.mono HS45.out)).mono HB4.out.size))
            clear q0 q1 q2 q3 e0 e1
            by_cases hilt : i < p
            case neg =>
              have hie : i = p := by omega
              subst hie
              have hd3 : decide ((i : Int) < (i : Int)) = false := decide_eq_false (by omega)
              have hd4 : decide (i < i) = false := decide_eq_false (by omega)
              go_wp2_with fail
              refine (awake8_any _ (HT.out.below HBf.out (tab_lt HT.out))).mono ?_
              rintro e w7 ⟨rfl, hB7⟩
              have HB7 := Lib.hid (HBf.out.trans (hB7.mono HBf.out.size))
              clear hB7
              go_wp2_with fail
              go_ret
              exact ⟨rfl, HB7.out⟩
            case pos =>
              have hd3 : decide ((i : Int) < (p : Int)) = true := decide_eq_true (by omega)
              have hd4 : decide (i < p) = true := decide_eq_true hilt
              obtain ⟨sb, sk, es⟩ := own_some HM4.out.s (by rw [hsl]; omega)
              injection es with es1 es2 es3
              subst es1
              have hrg := md_set HM4.out.s (j := i) (by rw [hsl]; exact hilt)
              have HRG := Lib.hid (range_kept (range_kept hrg (HB.out)) HBi.out)
              generalize m.s.getD i 0 = S at *
              have hct := cnt_le S
              have HCT := Lib.hid (count_any S)
              generalize cnt S = cs at *
              have hd5 : decide ((256 : Int) < (cs : Int)) = false := decide_eq_false (by omega)
              have hw1 : wrap64 ((i : Int) + 1) = (i : Int) + 1 := by unfold wrap64; omega
              clear hrg es2 es3 hct
              go_wp2_with (first
                | (refine wpList_load_set8 rfl _ rfl sb (i * 4) S rfl HRG.out ?_)
                | (go_at_call 20; refine (HCT.out _).mono ?_; rintro e w7 ⟨rfl, hB7⟩; have HB7 := Lib.hid (HBi.out.trans (hB7.mono HBi.out.size)); clear hB7))
              go_roundw
              case rel => exact ⟨i + 1, by rw [Int.natCast_add]; rfl, hilt, HB7⟩
              case measure => exact meas15 hilt
        case pos =>
          have hd : decide ((j : Int) < (R.length : Int)) = true := decide_eq_true (by omega)
          have hd2 : decide (j < R.length) = true := decide_eq_true hlt
          obtain ⟨k, n, t, hk, ht, htr, hn, hnx, h63, hle, hfi, hla, hfo⟩ := HPF.out j hlt
          rw [← HO.out] at hnx h63 hle hfi hla hfo
          rw [← HLN.out] at hle
          obtain ⟨pb, po, rfl, hr0, hok⟩ := HP8.out.at hlt
          have hr1 := range_kept hr0 (HB4.out.trans (HB.out.mono HB4.out.size))
          have p0 : w5.cell? ⟨pb, po + j * 2, none⟩ = some (.int .i64 k) := by rw [← hk]; exact hr1 0 _ rfl
          have hc := HPLC.out t ht w5.drew ((HB4.out.trans (HB.out.mono HB4.out.size)).drew)
          rw [htr, hn] at hc
          have HC := Lib.hid hc
          have hpb := World.block_lt_of_cell? _ _ p0
          clear hc hok hr0 hr1 ht htr hn
          generalize hmk : (2 ^ n - 1) <<< p = mk at *
          have HMK := Lib.hid hmk
          clear hmk
          have g1 := md_cell HM4.out.fi (j := j) (by rw [HML.out.2.1]; exact hlt)
          have g2 := md_cell HM4.out.la (j := j) (by rw [HML.out.2.2.1]; exact hlt)
          have g3 := fun k hk => md_cell HM4.out.fi (j := k) hk
          clear g3
          have l1 := World.block_lt_of_cell? _ _ g1
          have l2 := World.block_lt_of_cell? _ _ g2
          have g1 := (HB.out.cell l1).trans g1
          have g2 := (HB.out.cell l2).trans g2
          have l1 := Nat.lt_of_lt_of_le l1 HS45.out
          have l2 := Nat.lt_of_lt_of_le l2 HS45.out
          generalize m.fi.getD j 0 = x1 at *
          generalize m.la.getD j 0 = x2 at *
          have HFO := Lib.hid hfo
          have HFI := Lib.hid hfi
          have HLA := Lib.hid hla
          clear hfo hfi hla
          have HLE := Lib.hid hle
          have HNX := Lib.hid hnx
          have H63 := Lib.hid h63
          have HHJ := Lib.hid hj
          have hlj : j ≤ 20 := by omega
          clear hle hnx h63 he0 he1 k0 k1 k2 k3 k4 k5
          go_wp2_with fail
          refine region_mix [(false, 0), (false, 1), (false, 2), (false, 3), (false, 4), (false, 5), (false, 6), (true, 7)] (fun w' => Below w5.heap.size w5 w') (by kernel_rfl) (by kernel_rfl) ((Below.refl _ _).drew) ?_
          simp only [planOps, List.map_cons, List.map_nil, List.getD_cons_zero, List.getD_cons_succ, List.length_cons, List.length_nil, List.drop_succ_cons, List.drop_zero]
          refine mix_seg (seg := [_, _, _, _, _, _, _]) rfl ((Below.refl _ _).drew) ?_
          intro ι hι F hF
          have r0 := fun n => ((hF n).cell (p := ⟨w.heap.size, 0, none⟩) hS5).trans e0
          have r1 := fun n => ((hF n).cell (p := ⟨w.heap.size, 1, none⟩) hS5).trans e1
          have rp := fun n => ((hF n).cell (p := ⟨pb, po + j * 2, none⟩) hpb).trans p0
          repeat (go_big_quiet_step (fail))
          refine wpQuiet_nil ?_
          clear r0 r1 rp hF hι F
          refine mix_eff (fun K hK => ?_)
          go_wp2_with (go_at_call 19; refine HC.out.mono ?_; rintro e w6 ⟨rfl, hq⟩; have HQ := Lib.hid (((Below.refl w5.heap.size w5).drew).trans hq); clear hq)
          refine mix_on hK HQ.out ?_
          clear hK K HC
          show wpList _ _ _ _ _ _
          go_wp2
          refine NoPanic.normal ?_
          have HB6 := Lib.hid (HB.out.trans (HQ.out.mono HS45.out))
          have HOW6 : Hid (OwnU w4.heap.size w6 (.slice oa j oc) L) := Lib.hid (own_kept HOW.out (fun g hg => HQ.out.block g (HOW.out.lt g hg).2))
          have q1 := (HQ.out.cell hD5).trans q1
          have q2 := (HQ.out.cell hD5).trans q2
          have q3 := (HQ.out.cell hD5).trans q3
          have g1 := (HQ.out.cell l1).trans g1
          have g2 := (HQ.out.cell l2).trans g2
          have hD6 : D < w6.heap.size := Nat.lt_of_lt_of_le hD5 HQ.out.size
          have HS46 : Hid (w4.heap.size ≤ w6.heap.size) := Lib.hid HB6.out.size
          clear e0 e1 p0 q0 HOW
          obtain ⟨s2, hs2⟩ : ∃ q : Nat, q = 2 ^ n := ⟨_, rfl⟩
          obtain ⟨s3, hs3⟩ : ∃ q : Nat, q = 2 ^ n - 1 := ⟨_, rfl⟩
          obtain ⟨en, hen⟩ : ∃ q : Nat, q = p + n := ⟨_, rfl⟩
          have hn63 : n < 64 := small_r H63.out
          have hmb : (2 ^ n - 1) <<< p < 2 ^ 64 := mask_lt H63.out
          have hv1 : IntKind.u64.wrap (2 ^ min n 64) = (s2 : Int) := by rw [hs2]; exact shl_one n hn63
          have hv2 : IntKind.u64.wrap ((s2 : Int) - 1) = (s3 : Int) := by rw [hs2, hs3]; exact wrap_pred n hn63
          have hv3 : IntKind.u64.wrap ((s3 : Int) * 2 ^ min p 64) = (mk : Int) := by rw [hs3, ← HMK.out]; exact shl_any _ p (small_l H63.out) hmb
          have hv3b : IntKind.u64.wrap ((s3 : Int) * 2 ^ p) = (mk : Int) := by have h5 := hv3; rw [Nat.min_eq_left (Nat.le_of_lt (small_l H63.out))] at h5; exact h5
          have hv4 : wrap64 ((p : Int) + (n : Int)) = (en : Int) := by rw [hen]; exact wrap_sum H63.out
          have hfi := HFI.out
          have hla := HLA.out
          have HS2 := Lib.hid hs2
          have HS3 := Lib.hid hs3
          have HEN := Lib.hid hen
          have HHK := Lib.hid hk
          have hpe : p ≤ en := by rw [hen]; exact Nat.le_add_right _ _
          have he64 : en ≤ 63 := by rw [hen]; exact H63.out
          have HES : Hid (en ≤ sl) := Lib.hid (by rw [hen]; exact HLE.out)
          clear hs2 hs3 hen hmb hn63 hfew hk hj hp63
          go_wp2_with fail
          go_loopw [10] (fun x wr => ∃ k : Nat, x = .int .i64 k ∧ p ≤ k ∧ k ≤ en ∧ Hid (wr = w6)) (fun x _ => ((en : Int) - intOf x).toNat)
          case atStart => exact ⟨p, rfl, Nat.le_refl _, hpe, Lib.hid rfl⟩
          case round =>
            obtain ⟨i, rfl, hi1, hi2, HW⟩ := hrel
            have hw := HW.out
            subst hw
            by_cases hilt : i < en
            case neg =>
              have hie : i = en := Nat.le_antisymm hi2 (Nat.le_of_not_lt hilt)
              subst hie
              have hd3 := not_lt8 i
              have hd4 := not_lt9 i
              have hw1 := next63 hlt (Nat.le_trans HR.out.few.2.1 (by decide))
              have HWJ := Lib.hid hw1
              clear hw1
              have hal := (Below.refl wr.heap.size wr).alloc (Nat.le_refl _) (.cells #[.int .u64 mk] 35)
              have HOA7 : Hid (OwnU w4.heap.size (wr.alloc (.cells #[.int .u64 mk] 35)) (.slice oa j oc) L) := Lib.hid (own_kept HOW6.out (fun g hg => hal.block g (HOW6.out.lt g hg).2))
              have HCC : Hid ((wr.alloc (.cells #[.int .u64 mk] 35)).cell? ⟨wr.heap.size, 0, none⟩ = some (.int .u64 mk)) := Lib.hid (by rw [cell_of_row _ _ 0 _ _ _ (heap_alloc_new wr _)]; rfl)
              have HB7 := Lib.hid (HB6.out.trans (hal.mono HS46.out))
              have HL7 : Hid (L.length ≤ 1000) := Lib.hid (by rw [HLL.out]; exact Nat.le_trans (Nat.le_of_lt hlt) (Nat.le_trans HR.out.few.2.1 (by decide)))
              have HZ7 : Hid (w4.heap.size ≤ (wr.alloc (.cells #[.int .u64 mk] 35)).heap.size) := Lib.hid HB7.out.size
              clear hal q1 q2 q3 g1 g2
              go_wp2_with (refine wpList_append_u64 rfl _ _ rfl w4.heap.size (.slice oa j oc) L mk rfl wr.heap.size HCC.out HOA7.out rfl HL7.out HZ7.out ?_; intro v8 w8 hO8 hG8 h4 h5; have HO8 := Lib.hid hO8; have HB8 := Lib.hid (own_grow HOA7.out HB7.out (Nat.le_refl _) hG8); obtain ⟨a8, c8, e8⟩ := own_slice hO8; rw [List.length_append, HLL.out, List.length_singleton] at e8; subst e8; clear hO8 hG8 h4 h5)
              go_roundw
              case rel => exact ⟨j + 1, i, L ++ [mk], a8, c8, by first | rfl | (rw [HWJ.out]; done) | (rw [HWJ.out]), by first | rfl | rw [hv4], rfl, hlt, he64, Lib.hid (by rw [HEN.out, HNX.out]), Lib.hid (by rw [List.length_append, HLL.out, List.length_singleton]), HO8, HB8⟩
              case measure => first | exact meas15 hlt | (rw [HWJ.out]; exact meas8 hlt)
            case pos =>
              have hd3 := is_lt8 hilt
              have hd4 : decide (i < en) = true := decide_eq_true hilt
              have his : i < sl := Nat.lt_of_lt_of_le hilt HES.out
              have hd5 := not_le8 his
              have hd6 := not_le9 his
              have hd7 : decide (i < sl) = true := decide_eq_true his
              obtain ⟨vb, vk, es⟩ := own_some HM4.out.f (by rw [HML.out.1]; exact Nat.lt_of_le_of_lt (Nat.zero_le _) his)
              injection es with es1 es2 es3
              subst es1
              have g3 := md_cell HM4.out.f (j := i) (by rw [HML.out.1]; exact his)
              have g3 := (HB6.out.cell (World.block_lt_of_cell? _ _ g3)).trans g3
              have hfo := HFO.out i hi1 (by rw [← HEN.out]; exact hilt)
              generalize m.f.getD i 0 = x3 at *
              have HWI := Lib.hid (next63 hilt he64)
              clear es2 es3 q1 q2 g1 g2
              go_wp2_with fail
              go_roundw
              case rel => exact ⟨i + 1, by first | (rw [HWI.out]; done) | rw [HWI.out] | (rw [Int.natCast_add]; rfl), Nat.le_succ_of_le hi1, hilt, by first | exact Lib.hid trivial | exact Lib.hid rfl⟩
              case measure => first | (rw [HWI.out]; exact meas8 hilt) | exact meas15 hilt
end Go.Proofs.YtojndkdhjhcphaaDoor
namespace Go.Proofs.YtojndkdhjhcphaaDoor
open Go.ChangeShapes Go.WideShapes Go.ChangeAt Go.WideMaps Go.WideElems Go.RowKit Sets Tr
section
variable {H : Type} {enc : TypeId × Value → H} {W : World} {base : Nat} {spare : Nat → Bool} {held : Bool}
set_option maxRecDepth 100000 in
theorem set_cells {n : Nat} {cs : List Value} {x : DataW H × List MemPlace} (hl : cs.length = 4) (h : DataW.trod enc Tryd.prog W base spare held n 37 cs = some x) :
    ∃ S, S < 2 ^ 256 ∧ ∀ q, q < 4 → cs[q]? = some (.int .u64 (wd S q)) := by
  match cs, hl with
  | [c0, c1, c2, c3], _ =>
    have hce : Tryd.prog.cellsOf 35 = 1 := by kernel_rfl
    obtain ⟨y0, y1, y2, y3, n, -, h0, h1, h2, h3⟩ := trod_array4 Tryd.underlying37 hce h
    obtain ⟨n0, e0, -, w0⟩ := DataW.trod_int Tryd.underlying35 h0
    obtain ⟨n1, e1, -, w1⟩ := DataW.trod_int Tryd.underlying35 h1
    obtain ⟨n2, e2, -, w2⟩ := DataW.trod_int Tryd.underlying35 h2
    obtain ⟨n3, e3, -, w3⟩ := DataW.trod_int Tryd.underlying35 h3
    have bnd : ∀ n : Int, (Lit.int .u64 n).wf = true → ∃ m : Nat, n = m ∧ m < 2 ^ 64 := by
      intro n hn
      simp [Lit.wf, IntKind.min, IntKind.max, IntKind.signed, IntKind.bits] at hn
      exact ⟨n.toNat, by omega, by omega⟩
    obtain ⟨m0, rfl, l0⟩ := bnd _ w0
    obtain ⟨m1, rfl, l1⟩ := bnd _ w1
    obtain ⟨m2, rfl, l2⟩ := bnd _ w2
    obtain ⟨m3, rfl, l3⟩ := bnd _ w3
    obtain ⟨S, hS, s0, s1, s2, s3⟩ := of_words m0 m1 m2 m3 l0 l1 l2 l3
    simp at e0 e1 e2 e3
    refine ⟨S, hS, fun q hq => ?_⟩
    have : q = 0 ∨ q = 1 ∨ q = 2 ∨ q = 3 := by omega
    rcases this with rfl | rfl | rfl | rfl
    · simp [e0, s0]
    · simp [e1, s1]
    · simp [e2, s2]
    · simp [e3, s3]
set_option maxRecDepth 100000 in
theorem list_of {α : Type} [Inhabited α] {P : Nat → α → Prop} : ∀ n, (∀ i, i < n → ∃ S, P i S) → ∃ L : List α, L.length = n ∧ ∀ i, i < n → P i (L.getD i default)
  | 0, _ => ⟨[], rfl, fun i hi => by omega⟩
  | n + 1, h => by
    obtain ⟨L, hl, hL⟩ := list_of n (fun i hi => h i (by omega))
    obtain ⟨S, hS⟩ := h n (by omega)
    refine ⟨L ++ [S], by simp [hl], fun i hi => ?_⟩
    by_cases e : i < n
    · rw [List.getD_eq_getElem?_getD, List.getElem?_append_left (by omega), ← List.getD_eq_getElem?_getD]; exact hL i e
    · have : i = n := by omega
      subst this
      rw [List.getD_eq_getElem?_getD, List.getElem?_append_right (by omega), hl, Nat.sub_self]
      exact hS
set_option maxRecDepth 100000 in
theorem int_ok {n : Int} (h : (Lit.int .i64 n).wf = true) : I64 n := by
  simp [Lit.wf, IntKind.min, IntKind.max, IntKind.signed, IntKind.bits] at h
  exact h
set_option maxRecDepth 100000 in
theorem node_cells {n : Nat} {cs : List Value} {x : DataW H × List MemPlace} (h : DataW.trod enc Tryd.prog W base spare held n 39 cs = some x) :
    ∃ X, NdOk X ∧ cs = nd9 X := by
  obtain ⟨xs, m, -, -, hl, hlen, hf⟩ := DataW.trod_struct Tryd.underlying39 h
  have c9 : Tryd.prog.cellsOf 39 = 9 := by kernel_rfl
  have c1 : Tryd.prog.cellsOf 5 = 1 := by kernel_rfl
  have c4 : Tryd.prog.cellsOf 37 = 4 := by kernel_rfl
  have ci : Tryd.prog.cellsOf 3 = 1 := by kernel_rfl
  rw [c9] at hl
  match cs, hl with
  | [a0, a1, a2, a3, a4, a5, a6, a7, a8], _ =>
    match xs, hlen with
    | [y0, y1, y2, y3, y4, y5], _ =>
      have h0 : DataW.trod enc Tryd.prog W base spare held m 5 (List.take (Tryd.prog.cellsOf 5) (List.drop 0 [a0, a1, a2, a3, a4, a5, a6, a7, a8])) = some y0 := hf 0 _ rfl
      have h1 : DataW.trod enc Tryd.prog W base spare held m 37 (List.take (Tryd.prog.cellsOf 37) (List.drop 1 [a0, a1, a2, a3, a4, a5, a6, a7, a8])) = some y1 := hf 1 _ rfl
      have h2 : DataW.trod enc Tryd.prog W base spare held m 3 (List.take (Tryd.prog.cellsOf 3) (List.drop 5 [a0, a1, a2, a3, a4, a5, a6, a7, a8])) = some y2 := hf 2 _ rfl
      have h3 : DataW.trod enc Tryd.prog W base spare held m 3 (List.take (Tryd.prog.cellsOf 3) (List.drop 6 [a0, a1, a2, a3, a4, a5, a6, a7, a8])) = some y3 := hf 3 _ rfl
      have h4 : DataW.trod enc Tryd.prog W base spare held m 3 (List.take (Tryd.prog.cellsOf 3) (List.drop 7 [a0, a1, a2, a3, a4, a5, a6, a7, a8])) = some y4 := hf 4 _ rfl
      have h5 : DataW.trod enc Tryd.prog W base spare held m 3 (List.take (Tryd.prog.cellsOf 3) (List.drop 8 [a0, a1, a2, a3, a4, a5, a6, a7, a8])) = some y5 := hf 5 _ rfl
      rw [c1] at h0
      rw [c4] at h1
      rw [ci] at h2 h3 h4 h5
      simp only [List.drop_succ_cons, List.drop_zero, List.take_succ_cons, List.take_zero] at h0 h1 h2 h3 h4 h5
      obtain ⟨n0, e0, -, w0⟩ := DataW.trod_int Tryd.underlying5 h0
      obtain ⟨S, hS, hq⟩ := set_cells rfl h1
      obtain ⟨n2, e2, -, w2⟩ := DataW.trod_int Tryd.underlying3 h2
      obtain ⟨n3, e3, -, w3⟩ := DataW.trod_int Tryd.underlying3 h3
      obtain ⟨n4, e4, -, w4⟩ := DataW.trod_int Tryd.underlying3 h4
      obtain ⟨n5, e5, -, w5⟩ := DataW.trod_int Tryd.underlying3 h5
      simp [Lit.wf, IntKind.min, IntKind.max, IntKind.signed, IntKind.bits] at w0
      obtain ⟨k, rfl⟩ : ∃ k : Nat, n0 = (k : Int) := ⟨n0.toNat, by omega⟩
      have q0 := hq 0 (by decide)
      have q1 := hq 1 (by decide)
      have q2 := hq 2 (by decide)
      have q3 := hq 3 (by decide)
      simp at e0 e2 e3 e4 e5 q0 q1 q2 q3
      have hk256 : k < 256 := by omega
      refine ⟨⟨k, S, n2, n3, n4, n5⟩, ⟨hk256, hS, int_ok w2, int_ok w3, int_ok w4, int_ok w5⟩, ?_⟩
      simp [nd9, e0, e2, e3, e4, e5, q0, q1, q2, q3]
set_option maxRecDepth 100000 in
theorem part_cells {n : Nat} {cs : List Value} {x : DataW H × List MemPlace} (h : DataW.trod enc Tryd.prog W base spare held n 41 cs = some x) :
    ∃ X : Int × Bool, I64 X.1 ∧ cs = pt2 X := by
  obtain ⟨y0, y1, m, -, hl, h0, h1⟩ := trod_struct2 Tryd.underlying41 h
  have c2 : Tryd.prog.cellsOf 41 = 2 := by kernel_rfl
  have cb : Tryd.prog.cellsOf 4 = 1 := by kernel_rfl
  have ci : Tryd.prog.cellsOf 3 = 1 := by kernel_rfl
  rw [c2] at hl
  match cs, hl with
  | [a0, a1], _ =>
    rw [ci] at h0
    rw [cb] at h1
    simp only [List.drop_succ_cons, List.drop_zero, List.take_succ_cons, List.take_zero] at h0 h1
    obtain ⟨n0, e0, -, w0⟩ := DataW.trod_int Tryd.underlying3 h0
    obtain ⟨b, e1, -⟩ := DataW.trod_bool Tryd.underlying4 h1
    simp at e0 e1
    exact ⟨(n0, b), int_ok w0, by simp [pt2, e0, e1]⟩
set_option maxRecDepth 100000 in
theorem rows_of {e : TypeId} {α : Type} [Inhabited α] (f : α → List Value) (ok : α → Prop) (k : Nat) (hk : Tryd.prog.cellsOf e = k) (hk0 : 0 < k) (hlen : ∀ x, (f x).length = k) {t : TypeId} (ht : Tryd.prog.underlying t = some (.slice e))
    (hcell : ∀ (n : Nat) (cs : List Value) (x : DataW H × List MemPlace), DataW.trod enc Tryd.prog W base (fun _ => true) true n e cs = some x → ∃ X, ok X ∧ cs = f X)
    {fuel : Nat} {c : Value} {x : DataW H × List MemPlace} (h : DataW.trod enc Tryd.prog W base (fun _ => true) true fuel t [c] = some x) :
    ∃ (L : List α) (a : Option Addr) (cap : Nat), c = .slice a L.length cap ∧ (∀ X ∈ L, ok X) ∧ ∀ i, i < L.length → ∃ b o, a = some ⟨b, o, none⟩ ∧ W.rangeAt b (o + i * k) (f (L.getD i default)) := by
  rcases Deep.open_slice ht h with ⟨hcs, -⟩ | ⟨a', len, cap, m, n, D, Pl, hcs, -, hl, hm, hmm, -, hel⟩
  · simp at hcs
    exact ⟨[], none, 0, hcs, by simp, by simp⟩
  · simp at hcs
    simp only [if_true] at hmm
    subst hmm
    rw [hk] at hel
    obtain ⟨L, hLl, hL⟩ := list_of (P := fun i X => ok X ∧ ∀ j v, (f X)[j]? = some v → W.cell? ((a'.add (i * k)).add j) = some v) len (fun i hi => by
      obtain ⟨cs, hc, htr⟩ := hel i (by omega)
      obtain ⟨-, -, hcell2⟩ := World.cells?_some hc
      obtain ⟨X, hX, e⟩ := hcell n cs _ htr
      refine ⟨X, hX, fun j v hj => ?_⟩
      have hj4 : j < k := by have := (List.getElem?_eq_some_iff.1 hj).1; rwa [hlen] at this
      rw [hcell2 j hj4, e]; exact hj)
    obtain ⟨ab, ao, spot⟩ := a'
    refine ⟨L, some ⟨ab, ao, spot⟩, _, by rw [hLl]; exact hcs, fun X hX => ?_, fun i hi => ?_⟩
    · obtain ⟨i, hi, rfl⟩ := List.mem_iff_getElem.1 hX
      have := (hL i (by omega)).1
      rw [List.getD_eq_getElem?_getD, List.getElem?_eq_getElem hi] at this
      exact this
    · rw [hLl] at hi
      have hc := (hL i hi).2
      have hspot : spot = none := by
        have hlt : 0 < (f (L.getD 0 default)).length := by rw [hlen]; exact hk0
        have h0 := (hL 0 (by omega)).2 0 _ (List.getElem?_eq_getElem hlt)
        simpa [Addr.add] using World.cell?_spot h0
      subst hspot
      refine ⟨ab, ao, rfl, fun j v hj => ?_⟩
      have := hc j v hj
      rw [Addr.add_lit, Addr.add_lit] at this
      exact this
set_option maxRecDepth 100000 in
theorem open_tree {r : Reach} {b0 : Nat} {v : Value} {d : DataW H} {p : List MemPlace} (hv : Value.okWide Tryd.prog W r b0 34 v) (h : DataW.Trod enc Tryd.prog W base (fun _ => true) true 34 v d p) :
    ∃ na pa nc pc N R, v = .agg #[.slice na (List.length N) nc, .slice pa (List.length R) pc] ∧ Uns W na pa nc pc N R := by
  simp only [Value.okWide, Tryd.underlying34] at hv
  obtain ⟨cs, rfl, hsz, -⟩ := hv
  have c2 : Tryd.prog.cellsOf 34 = 2 := by kernel_rfl
  have cn : Tryd.prog.cellsOf 31 = 1 := by kernel_rfl
  have cp : Tryd.prog.cellsOf 32 = 1 := by kernel_rfl
  rw [c2] at hsz
  obtain ⟨l⟩ := cs
  match l, hsz with
  | [a0, a1], _ =>
    obtain ⟨fuel, hf⟩ := h
    obtain ⟨y0, y1, m, -, -, h0, h1⟩ := trod_struct2 Tryd.underlying34 hf
    rw [cn] at h0
    rw [cp] at h1
    simp only [Value.cells, List.drop_succ_cons, List.drop_zero, List.take_succ_cons, List.take_zero] at h0 h1
    obtain ⟨N, na, nc, rfl, hN1, hN2⟩ := rows_of (α := Nd) nd9 NdOk 9 (by kernel_rfl) (by decide) nd9_len Tryd.underlying31 (fun n cs x hx => node_cells hx) h0
    obtain ⟨R, pa, pc, rfl, hR1, hR2⟩ := rows_of (α := Int × Bool) pt2 (fun X => I64 X.1) 2 (by kernel_rfl) (by decide) pt2_len Tryd.underlying32 (fun n cs x hx => part_cells hx) h1
    refine ⟨na, pa, nc, pc, N, R, rfl, fun hg => ?_⟩
    unfold greatB at hg
    rw [Bool.or_eq_false_iff] at hg
    have g1 := of_decide_eq_false hg.1
    have g2 := of_decide_eq_false hg.2
    exact ⟨⟨hN1, by omega, na, nc, rfl, hN2⟩, ⟨hR1, by omega, pa, pc, rfl, hR2⟩⟩
end
end Go.Proofs.YtojndkdhjhcphaaDoor
