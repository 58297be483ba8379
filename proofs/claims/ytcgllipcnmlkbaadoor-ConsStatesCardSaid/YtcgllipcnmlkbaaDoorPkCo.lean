/- ConsStates. -/
import Derived.Test.YtcgllipcnmlkbaaDoorPkCn
import Derived.Test.YtcgllipcnmlkbaaDoorPkCd
import Derived.Test.YtcgllipcnmlkbaaDoorPkN
namespace Go.Proofs.YtcgllipcnmlkbaaDoor
open Go.RowKit Sets Tr Rx Sp
open Cn
theorem quiet_build9 {P : Program} {C : World → Prop} {a : Act} {K : Act → Prop} {o : Oper} (t : TypeId) (parts : Array (Nat × Operand)) (ho : o.op = .build t parts) (vs : Array (Nat × Value)) (hv : (parts.map fun (i, x) => (i, a.eval x)) = vs) (v : Value)
    (hrun : ∀ w, (Instr.build t vs).run P w = .ok v w) (h : K (a.put o.dst v)) : o.quiet P a C K := by
  refine ⟨v, fun w _ => ?_, h⟩
  unfold Oper.quietAt execOp
  simp only [ho, hv, Sem.run_bind, Sem.run_pure, hrun w, Result.andThen_ok]
  exact ⟨rfl, rfl⟩
theorem build_pl (S f : Nat) (w : World) : (Instr.build 54 #[(0, .agg (st4 S).toArray), (1, .int .u64 (f : Int))]).run Tryd.prog w = .ok (.agg (pl5 (S, f)).toArray) w :=
  run_build w _ _ _ (by kernel_rfl)
theorem quiet_build_pl {C : World → Prop} {a : Act} {K : Act → Prop} {o : Oper} (x y : Operand) (ho : o.op = .build 54 #[(0, x), (1, y)]) (S f : Nat) (hx : a.eval x = .agg (st4 S).toArray) (hy : a.eval y = .int .u64 (f : Int))
    (h : K (a.put o.dst (.agg (pl5 (S, f)).toArray))) : o.quiet Tryd.prog a C K :=
  quiet_build9 54 _ ho #[(0, .agg (st4 S).toArray), (1, .int .u64 (f : Int))] (by simp [hx, hy]) _ (fun w' => build_pl S f w') h
theorem run_buildPl (p : Nat × Nat) (w : World) : (Instr.buildSlice 50 1 #[(0, .agg (pl5 p).toArray)]).run Tryd.prog w = .ok (.slice (some ⟨w.heap.size, 0, none⟩) 1 1) (w.alloc (.cells (pl5 p).toArray 54)) := by
  have h1 : (underlying 50).run Tryd.prog w = .ok (.slice 54) w := by kernel_rfl
  have h2 : (sizeOf 54).run Tryd.prog w = .ok 5 w := by kernel_rfl
  have h3 : (zeroValue 54).run Tryd.prog w = .ok (.agg #[.int .u64 0, .int .u64 0, .int .u64 0, .int .u64 0, .int .u64 0]) w := by kernel_rfl
  unfold Instr.buildSlice
  simp only [Sem.run_bind, h1, h2, Result.andThen_ok]
  rw [if_neg (by decide), if_neg (by decide)]
  simp only [Sem.run_bind, Sem.run_pure, h3, Result.andThen_ok]
  rw [fill_whole _ _ (pl5 p).toArray 5 rfl rfl (by rw [Array.size_map, Array.size_range])]
  rfl
theorem wpList_buildPl {ops : Array Oper} {rest : List Oper} {o : Oper} {a : Act} {w : World} {Q : Exit → Act → World → Prop} (hgd : o.guard = none) (y : Operand)
    (ho : o.op = .buildSlice 50 1 #[(0, y)]) (p : Nat × Nat) (hx : a.eval y = .agg (pl5 p).toArray) (h : wpList Tryd.prog ops Q rest (a.put o.dst (.slice (some ⟨w.heap.size, 0, none⟩) 1 1)) (w.alloc (.cells (pl5 p).toArray 54))) : wpList Tryd.prog ops Q (o :: rest) a w := by
  refine wpList_plain hgd fun K hK => ?_
  unfold Oper.wp execOp
  simp only [ho]
  have e : (#[((0 : Nat), y)].map fun y : Nat × Operand => (y.1, a.eval y.2)) = #[(0, .agg (pl5 p).toArray)] := by simp [hx]
  rw [e]
  simp only [Sem.run_bind, Sem.run_pure, run_buildPl, Result.andThen_ok]
  exact hK _ _ h
theorem wpList_append_pl {ops : Array Oper} {rest : List Oper} {o : Oper} {a : Act} {w : World} {Q : Exit → Act → World → Prop} (hgd : o.guard = none) (s y : Operand)
    (ho : o.op = .call { callee := .builtin .append, args := #[s, y], argTypes := #[50, 50] }) (B : Nat) (v : Value) (N : List (Nat × Nat)) (x : Nat × Nat) (hs : a.eval s = v)
    (g : Nat) (hc : w.rangeAt g 0 (pl5 x)) (hown : OwnPl B w v N) (hx : a.eval y = .slice (some ⟨g, 0, none⟩) 1 1) (hN : N.length ≤ 1000) (hbase : B ≤ w.heap.size)
    (h : ∀ v' w', OwnPl B w' v' (N ++ [x]) → w.grownBy w' v.ownBlock → (v'.ownBlock = v.ownBlock ∨ v'.ownBlock = some w.heap.size) → wpList Tryd.prog ops Q rest (a.put o.dst v') w') :
    wpList Tryd.prog ops Q (o :: rest) a w := by
  obtain ⟨i0, hi, hz0, hz1, hz2⟩ := info_parts infoPl
  refine wpList_append_keep hgd s y 50 ho B 54 i0 _ 5 40 Tryd.underlying50 hi hz0 hz1 hz2 rfl (by decide) v _ _ hs hown ⟨g, 0, none⟩ 1 1 (pl5 x) hx rfl ?_ (pl5_ones x) ?_ ?_ hbase ?_
  · intro j u hj
    rw [Addr.add_lit]
    exact hc j u hj
  · unfold maxLen; omega
  · omega
  · intro v' w' h1 h2 h4 _
    refine h v' w' ?_ h2 h4
    unfold OwnPl
    rw [pls_append, List.length_append]
    simpa [pls] using h1
theorem eqSelf9 (S : Nat) (w : World) : (Op.equalIn 10000 52 (.agg (st4 S).toArray) (.agg (st4 S).toArray)).run Tryd.prog w = .ok true w := by
  show (Op.equalIn 10000 52 (.agg #[.int .u64 (wd S 0), .int .u64 (wd S 1), .int .u64 (wd S 2), .int .u64 (wd S 3)]) (.agg #[.int .u64 (wd S 0), .int .u64 (wd S 1), .int .u64 (wd S 2), .int .u64 (wd S 3)])).run Tryd.prog w = _
  rw [eqSet]; simp
/-- the sets from i on are still there, and all may be written -/
structure SB (w : World) (g : Nat) (L : List Nat) (i : Nat) : Prop where
  rng : ∀ j, i ≤ j → j < L.length → w.rangeAt g (j * 4) (st4 (L.getD j 0))
  thr : ∀ j, j < L.length → w.there g (j * 4) 4
  lt : g < w.heap.size
theorem SB.same {w w' : World} {g : Nat} {L : List Nat} {i : Nat} (h : SB w g L i) (e : w'.heap[g]? = w.heap[g]?) (hs : w.heap.size ≤ w'.heap.size) : SB w' g L i := by
  refine ⟨fun j h1 h2 k u hk => ?_, fun j h1 k hk => ?_, Nat.lt_of_lt_of_le h.lt hs⟩
  · rw [World.cell?_of_block (w := w) e]; exact h.rng j h1 h2 k u hk
  · have := h.thr j h1 k hk
    rw [World.cell?_of_block (w := w) e]
    refine ⟨this.1, ?_⟩
    have h5 := this.2
    unfold World.frozen? at h5 ⊢
    simp only at h5 ⊢
    rw [e]; exact h5
theorem SB.step {w : World} {g : Nat} {L : List Nat} {i : Nat} (h : SB w g L i) : SB (w.setCells g (i * 4) [.int .u64 0, .int .u64 0, .int .u64 0, .int .u64 0]) g L (i + 1) := by
  refine ⟨fun j h1 h2 => ?_, fun j h1 => World.there_setCells (h.thr j h1) _ _ _, ?_⟩
  · exact World.rangeAt_setCells_apart (h.rng j (by omega) h2) _ _ _ (.inr (.inr (by simp; omega)))
  · rw [show (w.setCells g (i * 4) [.int .u64 0, .int .u64 0, .int .u64 0, .int .u64 0]).heap.size = w.heap.size from by simp [World.setCells]]; exact h.lt
theorem SB.of {w : World} {B g c : Nat} {L : List Nat} (h : OwnS B w (.slice (some ⟨g, 0, none⟩) L.length c) L) : SB w g L 0 := by
  refine ⟨fun j _ h2 => set_range h h2, fun j hj k hk => ⟨?_, ?_⟩, (h.lt g rfl).2⟩
  · have h3 := World.ownsRow.cellAt h (j * 4 + k) (by omega)
    rw [h3]
    have : j * 4 + k < (sts L).length := by rw [sts_length]; omega
    simp [this]
  · exact World.ownsRow.frozenAt h (j * 4 + k)
def zset (w : World) (g o : Nat) : World := w.setCells g o [.int .u64 0, .int .u64 0, .int .u64 0, .int .u64 0]
theorem zset_other (w : World) (g o x : Nat) (hx : x ≠ g) : (zset w g o).heap[x]? = w.heap[x]? := by
  unfold zset
  simp only [World.setCells]
  rw [Below.heap_setCell _ _ _ _ hx, Below.heap_setCell _ _ _ _ hx, Below.heap_setCell _ _ _ _ hx, Below.heap_setCell _ _ _ _ hx]
theorem zset_below {w0 w : World} {B g : Nat} (h : Below B w0 w) (hg : B ≤ g) (o : Nat) : Below B w0 (zset w g o) :=
  h.trans ⟨rfl, rfl, rfl, by unfold zset; simp [World.setCells], fun x hx => zset_other w g o x (by omega)⟩
theorem zset_SB {w : World} {g : Nat} {L : List Nat} {i : Nat} (h : SB w g L i) : SB (zset w g (i * 4)) g L (i + 1) := by unfold zset; exact h.step
attribute [irreducible] zset
theorem zset_cell {w : World} {g o x i : Nat} {v : Value} (h : w.cell? ⟨x, i, none⟩ = some v) (hx : x ≠ g) : (zset w g o).cell? ⟨x, i, none⟩ = some v := by
  have h5 := zset_other w g o x hx
  generalize zset w g o = u at *
  rw [← h]
  exact World.cell?_of_block (w := w) h5
theorem zset_range {w : World} {g o x i : Nat} {L : List Value} (h : w.rangeAt x i L) (hx : x ≠ g) : (zset w g o).rangeAt x i L :=
  fun j u hj => zset_cell (h j u hj) hx
theorem zset_own {w : World} {g o B : Nat} {v : Value} {L : List (Nat × Nat)} (h : OwnPl B w v L) (hx : v.ownBlock ≠ some g) : OwnPl B (zset w g o) v L :=
  own_kept h fun x hv => zset_other w g o x (fun e => hx (by rw [← e]; exact hv))
theorem wpList_zset {ops : Array Oper} {rest : List Oper} {o : Oper} {a : Act} {w : World} {Q : Exit → Act → World → Prop} (hgd : o.guard = none) (x y : Operand) (ho : o.op = .store 52 x y)
    (g j : Nat) (hx : a.eval x = .pointer (some ⟨g, j, none⟩)) (hy : a.eval y = .agg #[.int .u64 0, .int .u64 0, .int .u64 0, .int .u64 0]) (ht : w.there g j 4)
    (h : wpList Tryd.prog ops Q rest (a.put o.dst undef) (zset w g j)) : wpList Tryd.prog ops Q (o :: rest) a w := by
  unfold zset at h
  exact wpList_store_mid hgd 52 x y ho g j #[.int .u64 0, .int .u64 0, .int .u64 0, .int .u64 0] hx hy ht (by kernel_rfl) (by simp [Value.oneCell']) h
theorem zip_get {s f : List Nat} (h : f.length = s.length) {i : Nat} (hi : i < s.length) : (s.zip f).getD i (0, 0) = (s.getD i 0, f.getD i 0) := by
  rw [List.getD_eq_getElem?_getD, List.getD_eq_getElem?_getD, List.getD_eq_getElem?_getD, List.getElem?_eq_getElem (by rw [List.length_zip]; omega), List.getElem_zip, List.getElem?_eq_getElem hi, List.getElem?_eq_getElem (by omega)]
  rfl
theorem zip_take {s f : List Nat} (h : f.length = s.length) {i : Nat} (hi : i < s.length) : (s.zip f).take (i + 1) = (s.zip f).take i ++ [(s.getD i 0, f.getD i 0)] := by
  have hl : i < (s.zip f).length := by rw [List.length_zip]; omega
  rw [List.take_succ_eq_append_getElem hl]
  have := zip_get h hi
  rw [List.getD_eq_getElem?_getD, List.getElem?_eq_getElem hl, Option.getD_some] at this
  rw [this]
theorem r9_next {m : Sp.Md} (hf : m.f.length = m.s.length) (q c : Nat) : r9 (m.s.zip m.f) (orL m.fi m.fi.length) q c = nextM m q c := by
  unfold r9 nextM candM
  have hl : (m.s.zip m.f).length = m.s.length := by rw [List.length_zip]; omega
  rw [hl, List.map_snd_zip (by omega), List.map_fst_zip (by omega), hf]
theorem zip_fol {m : Sp.Md} (h : Fit m) (j : Nat) : ((m.s.zip m.f).getD j (0, 0)).2 < 2 ^ 63 := by
  by_cases hj : j < m.s.length
  · rw [zip_get h.f hj]; exact h.xf j
  · rw [List.getD_eq_getElem?_getD, List.getElem?_eq_none (by rw [List.length_zip]; omega)]
    exact Nat.two_pow_pos 63
theorem ref9_is (v : Value) (m : Sp.Md) (p q c B : Nat) (w : World) (h : OwnPl B w v (m.s.zip m.f)) (hf : Fit m) (hp : orL m.fi m.fi.length = orL m.fi p) (hq : q < 2 ^ 64) (hc : c < 256) :
    Calls Tryd.prog 23 #[v, .int .u64 (orL m.fi p : Nat), .int .u64 q, .int .u8 c] w fun e w' => e = .returned (.int .u64 (nextM m q c)) ∧ Below w.heap.size w w' := by
  rw [← hp]
  have := ref9_any v (m.s.zip m.f) (orL m.fi m.fi.length) q c B w h (by have h5 := hf.s; rw [List.length_zip]; omega) (zip_fol hf) (orL_lt hf.xfi _) hq hc
  rw [r9_next hf.f] at this
  exact this
theorem ref9_top (v : Value) (m : Sp.Md) (p c B : Nat) (w : World) (h : OwnPl B w v (m.s.zip m.f)) (hf : Fit m) (hp : orL m.fi m.fi.length = orL m.fi p) (hc : c < 256) :
    Calls Tryd.prog 23 #[v, .int .u64 (orL m.fi p : Nat), .int .u64 9223372036854775808, .int .u8 c] w fun e w' => e = .returned (.int .u64 (nextM m top c)) ∧ Below w.heap.size w w' :=
  ref9_is v m p top c B w h hf hp top_lt hc
theorem own_pl {w w' : World} {B : Nat} {v : Value} {L : List (Nat × Nat)} (h : OwnPl B w v L) (hb : Below w.heap.size w w') : OwnPl B w' v L := own_kept h fun g hg => hb.block g (h.lt g hg).2
theorem good_step (m : Sp.Md) (q i : Nat) : goodN m q (i + 1) = (goodN m q i && (endsM m q i != m.nt.getD i false)) := rfl
set_option maxHeartbeats 25600000 in
set_option maxRecDepth 100000 in
theorem cstates_any (na pa : Option Addr) (nc pc : Nat) (N : List Nd) (R : List (Int × Bool)) (k1 k2 : Int) (w : World) (hU : Uns w na pa nc pc N R) (hT : Tab w) (h1 : 0 ≤ k1 ∧ k1 ≤ 18446744073709551615) (h2 : 0 ≤ k2 ∧ k2 ≤ 255) :
    Calls Tryd.prog 5 #[.agg #[.slice na N.length nc, .slice pa R.length pc], .int .u64 k1, .int .u8 k2] w fun e w' => e = .returned (.bool true) ∧ Below w.heap.size w w' := by
  obtain ⟨q, rfl⟩ := Int.eq_ofNat_of_zero_le h1.1
  obtain ⟨c, rfl⟩ := Int.eq_ofNat_of_zero_le h2.1
  have HQ : Hid (q < 2 ^ 64) := Lib.hid (by omega)
  have HCC : Hid (c < 256) := Lib.hid (by omega)
  clear h1 h2
  have HT := Lib.hid hT
  have HG := Lib.hid (tab_lt hT)
  have hg := fun w => great_any na pa N.length nc R.length pc w
  have hb0 := (Below.refl w.heap.size w).alloc (Nat.le_refl _) (.cells #[.slice na N.length nc, .slice pa R.length pc] 39)
  have HB0 := Lib.hid hb0
  have HS0 : Hid (w.heap.size < (w.alloc (.cells #[.slice na N.length nc, .slice pa R.length pc] 39)).heap.size) := Lib.hid (by simp)
  have HC0 : Hid ((w.alloc (.cells #[.slice na N.length nc, .slice pa R.length pc] 39)).cell? ⟨w.heap.size, 0, none⟩ = some (.slice na N.length nc)) := Lib.hid (by simp)
  have HC1 : Hid ((w.alloc (.cells #[.slice na N.length nc, .slice pa R.length pc] 39)).cell? ⟨w.heap.size, 1, none⟩ = some (.slice pa R.length pc)) := Lib.hid (by simp)
  clear hT hb0
  go_enter Tryd.func5, Tryd.ntmps5
  cases hgr : greatB N.length R.length
  case true =>
    rw [hgr] at hg
    have HGG := Lib.hid hg
    clear hg hgr
    go_wp2_with fail
    refine (HGG.out _).mono ?_
    rintro e w2 ⟨rfl, hB2⟩
    have HB2 := Lib.hid (HB0.out.trans (hB2.mono HB0.out.size))
    have HT2 := Lib.hid (HT.out.below HB2.out HG.out)
    clear hB2
    go_wp2_with fail
    refine (awake9_any _ HT2.out).mono ?_
    rintro e w3 ⟨rfl, hB3⟩
    have HB3 := Lib.hid (HB2.out.trans (hB3.mono HB2.out.size))
    clear hB3
    go_wp2_with fail
    go_ret
    exact ⟨rfl, HB3.out⟩
  case false =>
    obtain ⟨hN, hP⟩ := hU hgr
    rw [hgr] at hg
    have HGG := Lib.hid hg
    have HN := Lib.hid hN
    have HP := Lib.hid hP
    clear hg hgr hN hP
    go_wp2_with fail
    refine (HGG.out _).mono ?_
    rintro e w2 ⟨rfl, hB2⟩
    have HB2 := Lib.hid (HB0.out.trans (hB2.mono HB0.out.size))
    have hS2 : w.heap.size < w2.heap.size := Nat.lt_of_lt_of_le HS0.out hB2.size
    have hc0 := (hB2.cell HS0.out).trans HC0.out
    have hc1 := (hB2.cell HS0.out).trans HC1.out
    have HT2 := Lib.hid (HT.out.below HB2.out HG.out)
    have HNW := Lib.hid (new_any' _ _ N R w2 (HN.out.kept HB2.out) (HP.out.kept HB2.out) HT2.out)
    clear hB2 HB0 HS0 HC0 HC1 HGG
    go_wp2_with fail
    refine HNW.out.mono ?_
    clear HNW
    rintro e w3 ⟨hB3, hE⟩
    have HB3 := Lib.hid (HB2.out.trans (hB3.mono HB2.out.size))
    have HT3 := Lib.hid (HT.out.below HB3.out HG.out)
    have hS3 : w.heap.size < w3.heap.size := Nat.lt_of_lt_of_le hS2 hB3.size
    have hd0 := (hB3.cell hS2).trans hc0
    have hd1 := (hB3.cell hS2).trans hc1
    clear hB3 hc0 hc1 hS2 HB2 HT2
    rcases hE with ⟨-, rfl⟩ | ⟨-, -, rfl⟩ | ⟨hr, hp, C, rfl, hC⟩
    · go_wp2_with fail
      refine (awake9_any _ HT3.out).mono ?_
      rintro e w4 ⟨rfl, hB4⟩
      have HB4 := Lib.hid (HB3.out.trans (hB4.mono HB3.out.size))
      clear hB4
      go_wp2_with fail
      go_ret
      exact ⟨rfl, HB4.out⟩
    · go_wp2_with fail
      refine (awake9_any _ HT3.out).mono ?_
      rintro e w4 ⟨rfl, hB4⟩
      have HB4 := Lib.hid (HB3.out.trans (hB4.mono HB3.out.size))
      clear hB4
      go_wp2_with fail
      go_ret
      exact ⟨rfl, HB4.out⟩
    · have HR := Lib.hid hr
      have HPP := Lib.hid hp
      have HC3 := Lib.hid hC
      have HF := Lib.hid (fit_md (parts N R) (by rw [of_len (rightB_iff.1 hr) hp]; exact hp) (by unfold parts; rw [List.length_map]; exact (rightB_iff.1 hr).few.2.1))
      have HSP := Lib.hid (spotsOf_any _ _ N R w3 (HN.out.kept HB3.out) (HP.out.kept HB3.out) HT3.out (tab_lt HT3.out))
      clear hr hp hC
      go_wp2_with fail
      refine HSP.out.mono ?_
      clear HSP
      rintro e w4 ⟨hB4, hE⟩
      rw [HR.out] at hE
      rcases hE with ⟨h5, -⟩ | ⟨-, h5, -⟩ | ⟨-, -, sv, fi, la, fv, em, nt, rfl, hM⟩
      · cases h5
      · exact absurd HPP.out (by omega)
      have HOne := Lib.hid (made_slices hM)
      obtain ⟨sa, sc, rfl⟩ := own_slice hM.s
      obtain ⟨fa, fc, rfl⟩ := own_slice hM.fi
      obtain ⟨laa, lc, rfl⟩ := own_slice hM.la
      obtain ⟨va, vc, rfl⟩ := own_slice hM.f
      obtain ⟨ea, ec, rfl⟩ := own_slice hM.em
      obtain ⟨ta, tc, rfl⟩ := own_slice hM.nt
      generalize Sp.md (parts N R) = m at *
      have hal := (Below.refl w4.heap.size w4).alloc (Nat.le_refl _) (.cells (mdV (.slice sa m.s.length sc) (.slice fa m.fi.length fc) (.slice laa m.la.length lc) (.slice va m.f.length vc) (.slice ea m.em.length ec) (.slice ta m.nt.length tc)) 46)
      have HM5 := Lib.hid ((hM.mono (Nat.zero_le _)).kept hal)
      have HB5 := Lib.hid ((HB3.out.trans (hB4.mono HB3.out.size)).trans (hal.mono (Nat.le_trans HB3.out.size hB4.size)))
      have HC5 := Lib.hid ((HC3.out.kept hB4).kept hal)
      have HD5 : Hid ((w4.alloc (.cells (mdV (.slice sa m.s.length sc) (.slice fa m.fi.length fc) (.slice laa m.la.length lc) (.slice va m.f.length vc) (.slice ea m.em.length ec) (.slice ta m.nt.length tc)) 46)).heap[w4.heap.size]? = some (.cells (mdV (.slice sa m.s.length sc) (.slice fa m.fi.length fc) (.slice laa m.la.length lc) (.slice va m.f.length vc) (.slice ea m.em.length ec) (.slice ta m.nt.length tc)) 46 (0, 0))) := Lib.hid (heap_alloc_new w4 _)
      clear hal hM hB4 hd0 hd1 hS3 HB3 HT3 HC3
      go_upto_region 9 with (refine wpList_lay_made rfl _ _ rfl (mdV (.slice sa m.s.length sc) (.slice fa m.fi.length fc) (.slice laa m.la.length lc) (.slice va m.f.length vc) (.slice ea m.em.length ec) (.slice ta m.nt.length tc)) rfl HOne.out w4.heap.size rfl rfl rfl ?_)
      generalize (w4.alloc (.cells (mdV (.slice sa m.s.length sc) (.slice fa m.fi.length fc) (.slice laa m.la.length lc) (.slice va m.f.length vc) (.slice ea m.em.length ec) (.slice ta m.nt.length tc)) 46)) = w5 at *
      generalize w4.heap.size = D at *
      clear w4
      have hput : ∀ a : Act, a.put none undef = a := fun _ => rfl
      go_wp2_with fail
      refine (csets_any C m w5 HC5.out HF.out).mono ?_
      rintro e w6 ⟨v', rfl, ho, hb6⟩
      obtain ⟨ga, gc, rfl⟩ := own_slice ho
      have HO6 := Lib.hid ho
      have HB6 := Lib.hid hb6
      clear ho hb6
      have hDl := (Array.getElem?_eq_some_iff.1 HD5.out).1
      obtain ⟨z0, z1, z2, z3, z4, z5⟩ := mdV_cells HD5.out
      have HZ0 := Lib.hid z0
      have HZ1 := Lib.hid z1
      have HZ2 := Lib.hid z2
      have HZ3 := Lib.hid z3
      have HZ4 := Lib.hid z4
      have HZ5 := Lib.hid z5
      have HDL := Lib.hid hDl
      clear z1 z2 z3 z4 z5
      have d0 := (HB6.out.cell hDl).trans z0
      have hnn : ((m.s.length : Int) != (m.s.length : Int)) = false := by simp
      have hC6 := HC5.out.kept HB6.out
      have HC6 := Lib.hid hC6
      clear hC6 z0
      have HSL := Lib.hid HF.out.s
      go_upto_region 10 with fail
      go_quiet ((go_at_call 18; exact Calls.quiet_of_same ((places_c C m _ (HC6.out.kept (below_drewN (Below.refl _ _) _))).mono fun _ _ h => ⟨h.1, h.2.symm⟩)))
      have HB7 : Hid (Below w5.heap.size w5 (w6.drewN nq)) := Lib.hid (below_drewN HB6.out nq)
      have HO7 : Hid (OwnS w5.heap.size (w6.drewN nq) (.slice ga m.s.length gc) m.s) := Lib.hid (own_kept HO6.out fun _ _ => rfl)
      clear d0 HB6 HO6 HC6 hDl hnn
      generalize w6.drewN nq = w7 at *
      clear w6
      have HFL := Lib.hid HF.out.f
      generalize hn : m.s.length = n at *
      have HNN := Lib.hid hn
      clear hn
      have HSB0 : Hid (∀ g, ga = some ⟨g, 0, none⟩ → w5.heap.size ≤ g ∧ SB w7 g m.s 0) := Lib.hid (fun g hg => by
        subst hg
        have h5 := HO7.out
        rw [← HNN.out] at h5
        exact ⟨(h5.lt g rfl).1, SB.of h5⟩)
      have HGA : Hid (0 < n → ∃ g, ga = some ⟨g, 0, none⟩) := Lib.hid (fun h => by
        obtain ⟨g, c5, e⟩ := own_some HO7.out (by rw [HNN.out]; exact h)
        injection e with e1
        exact ⟨g, e1⟩)
      clear HO7
      go_wp2_with fail
      go_loopw [11, 14] (fun x i wr => ∃ (k : Nat), i = .int .i64 k ∧ k ≤ n ∧ Hid (OwnPl w5.heap.size wr x ((m.s.zip m.f).take k)) ∧ Hid (Below w5.heap.size w5 wr) ∧ Hid (∀ g, ga = some ⟨g, 0, none⟩ → w5.heap.size ≤ g ∧ SB wr g m.s k ∧ x.ownBlock ≠ some g)) (fun _ i _ => ((n : Int) - intOf i).toNat)
      case atStart => exact ⟨0, rfl, Nat.zero_le _, Lib.hid (World.ownsRow_nil _ _ _ _), HB7, Lib.hid (fun g hg => ⟨(HSB0.out g hg).1, (HSB0.out g hg).2, by intro h; cases h⟩)⟩
      case round =>
        obtain ⟨k, rfl, hk, HOP, HBK, HSB⟩ := hrel
        generalize hwr : wr = w8 at *
        clear hwr wr HB7 HSB0
        have d0 := (HBK.out.cell (p := ⟨D, 0, none⟩) HDL.out).trans HZ0.out
        have d3 := (HBK.out.cell (p := ⟨D, 3, none⟩) HDL.out).trans HZ3.out
        rw [HFL.out] at d3
        by_cases hlt : k < n
        case pos =>
          have hdd : decide ((k : Int) < (n : Int)) = true := decide_eq_true (by omega)
          have hd2 : decide (k < n) = true := decide_eq_true hlt
          obtain ⟨g, hg⟩ := HGA.out (by omega)
          subst hg
          obtain ⟨hgB, hsb, hne⟩ := HSB.out g rfl
          obtain ⟨qs, qc, e1⟩ := own_some HM5.out.s (by rw [HNN.out]; omega)
          injection e1 with e2 e3 e4
          subst e2
          obtain ⟨qf, qd, e5⟩ := own_some HM5.out.f (by have := HFL.out; omega)
          injection e5 with e6 e7 e8
          subst e6
          have hr1 := hsb.rng k (Nat.le_refl _) (by rw [HNN.out]; exact hlt)
          have hr2 : w8.rangeAt qs (k * 4) (st4 (m.s.getD k 0)) := by
            have h5 := HM5.out.s
            rw [← HNN.out] at h5
            exact range_kept (set_range h5 (by rw [HNN.out]; exact hlt)) HBK.out
          have hcf : w8.cell? ⟨qf, k, none⟩ = some (.int .u64 ((m.f.getD k 0 : Nat) : Int)) := by
            have h5 := fol_cell HM5.out.f (j := k) (by have := HFL.out; omega)
            exact (HBK.out.cell (World.block_lt_of_cell? _ _ h5)).trans h5
          have HR1 := Lib.hid hr1
          have HR2 := Lib.hid hr2
          have HTH := Lib.hid (hsb.thr k (by rw [HNN.out]; exact hlt))
          have HSBK := Lib.hid hsb
          have HZT := Lib.hid (zip_take (s := m.s) (f := m.f) (by rw [HFL.out, HNN.out]) (i := k) (by rw [HNN.out]; exact hlt))
          have HNE := Lib.hid hne
          have HGB := Lib.hid hgB
          have HSZ8 := Lib.hid hsb.lt
          have hqfl := World.block_lt_of_cell? _ _ hcf
          have HQSL : Hid (qs < w5.heap.size) := Lib.hid (HM5.out.s.lt qs rfl).2
          have HQFL : Hid (qf < w5.heap.size) := Lib.hid (HM5.out.f.lt qf rfl).2
          clear hr1 hr2 hsb hne e3 e4 e7 e8
          generalize m.s.getD k 0 = S at *
          generalize hfo : m.f.getD k 0 = fo at *
          clear hfo
          have Q1 : Hid (∀ w', (∃ n, w' = w8.drewN n) → w'.rangeAt g (k * 4) (st4 S)) := Lib.hid (fun w' h5 => by obtain ⟨n, e⟩ := h5; rw [e]; exact HR1.out)
          have Q2 : Hid (∀ w', (∃ n, w' = w8.drewN n) → w'.rangeAt qs (k * 4) (st4 S)) := Lib.hid (fun w' h5 => by obtain ⟨n, e⟩ := h5; rw [e]; exact HR2.out)
          have HWI := Lib.hid (next63 hlt HSL.out)
          go_upto_region 15 with fail
          refine wp_region_quiet_lit (by kernel_rfl) (by kernel_rfl) ?_
          repeat (first
            | (refine BigFrame.wpQuiet_want rfl (fun K hK => ?_); refine quiet_load_mid 52 _ rfl g (k * 4) rfl (st4 S) _ Q1.out Tryd.underlying52 rfl sizeSet9 ?_; refine hK _ ?_; clear hK K; simp only [Act.put, List.setIfInBounds_toArray, List.set_cons_zero, List.set_cons_succ])
            | (refine BigFrame.wpQuiet_want rfl (fun K hK => ?_); refine quiet_load_mid 52 _ rfl qs (k * 4) rfl (st4 S) _ Q2.out Tryd.underlying52 rfl sizeSet9 ?_; refine hK _ ?_; clear hK K; simp only [Act.put, List.setIfInBounds_toArray, List.set_cons_zero, List.set_cons_succ])
            | (refine BigFrame.wpQuiet_want rfl (fun K hK => ?_); refine quiet_neq 52 _ _ _ rfl _ _ rfl rfl (by kernel_rfl) true (fun w' => eqSelf9 S w') ?_; refine hK _ ?_; clear hK K; simp only [Act.put, Bool.not_true, List.setIfInBounds_toArray, List.set_cons_zero, List.set_cons_succ])
            | (go_big_quiet_step (fail)))
          refine wpQuiet_nil ?_
          rintro w' ⟨nn, rfl⟩
          clear Q1 Q2 HR1
          have HSB9 : Hid (SB (w8.drewN nn) g m.s k) := Lib.hid (HSBK.out.same rfl (Nat.le_refl _))
          have HB9 := Lib.hid (below_drewN HBK.out nn)
          have HOP9 : Hid (OwnPl w5.heap.size (w8.drewN nn) u11 ((m.s.zip m.f).take k)) := Lib.hid (own_kept HOP.out fun _ _ => rfl)
          have HR29 : Hid ((w8.drewN nn).rangeAt qs (k * 4) (st4 S)) := Lib.hid HR2.out
          have hcf9 : (w8.drewN nn).cell? ⟨qf, k, none⟩ = some (.int .u64 (fo : Int)) := hcf
          have hd09 : (w8.drewN nn).cell? ⟨D, 0, none⟩ = some (.slice (some ⟨qs, 0, none⟩) n sc) := d0
          have hd39 : (w8.drewN nn).cell? ⟨D, 3, none⟩ = some (.slice (some ⟨qf, 0, none⟩) n vc) := d3
          clear HSBK HBK HOP HR2 hcf d0 d3 HSB hqfl HSZ8 HTH
          generalize w8.drewN nn = w9 at *
          clear w8
          have HTH9 : Hid (w9.there g (k * 4) 4) := Lib.hid (HSB9.out.thr k (by rw [HNN.out]; exact hlt))
          go_upto_region 18 with (refine wpList_zset rfl _ _ rfl g (k * 4) rfl rfl HTH9.out ?_)
          have HSB10 := Lib.hid (zset_SB HSB9.out)
          have HB10 := Lib.hid (zset_below HB9.out HGB.out (k * 4))
          have HOP10 := Lib.hid (zset_own (o := k * 4) HOP9.out HNE.out)
          have HR210 := Lib.hid (zset_range (o := k * 4) (g := g) HR29.out (by have := HGB.out; have := HQSL.out; omega))
          have hcf10 := zset_cell (o := k * 4) (g := g) hcf9 (by have := HGB.out; have := HQFL.out; omega)
          have hd010 := zset_cell (o := k * 4) (g := g) hd09 (by have := HGB.out; have := HDL.out; omega)
          have hd310 := zset_cell (o := k * 4) (g := g) hd39 (by have := HGB.out; have := HDL.out; omega)
          clear HSB9 HB9 HOP9 HR29 hcf9 hd09 hd39 HTH9
          generalize zset w9 g (k * 4) = w10 at *
          clear w9
          have HSZ10 : Hid (w5.heap.size ≤ w10.heap.size) := Lib.hid HB10.out.size
          rw [hput]
          refine region_mix [(false, 0), (false, 1), (false, 2), (false, 3), (false, 4), (false, 5), (false, 6), (false, 7), (false, 8), (false, 9), (false, 10), (false, 11), (true, 12), (true, 13)] (fun w' => Below w5.heap.size w10 w') (by kernel_rfl) (by kernel_rfl) ((Below.refl _ _).drew) ?_
          simp only [planOps, List.map_cons, List.map_nil, List.getD_cons_zero, List.getD_cons_succ, List.length_cons, List.length_nil, List.drop_succ_cons, List.drop_zero]
          refine mix_seg (seg := [_, _, _, _, _, _, _, _, _, _, _, _]) rfl ((Below.refl _ _).drew) ?_
          intro ι hι F' hF'
          have g0 := fun n => ((hF' n).cell (p := ⟨D, 0, none⟩) HDL.out).trans hd010
          have g3 := fun n => ((hF' n).cell (p := ⟨D, 3, none⟩) HDL.out).trans hd310
          have gf := fun n => ((hF' n).cell (p := ⟨qf, k, none⟩) HQFL.out).trans hcf10
          have Q3 : Hid (∀ w', (∃ n, w' = F' n) → w'.rangeAt qs (k * 4) (st4 S)) := Lib.hid (fun w' h5 => by
            obtain ⟨n, e⟩ := h5
            rw [e]
            exact fun j u hj => ((hF' n).cell (p := ⟨qs, k * 4 + j, none⟩) HQSL.out).trans (HR210.out j u hj))
          repeat (first
            | (refine BigFrame.wpQuiet_want rfl (fun K hK => ?_); refine quiet_load_mid 52 _ rfl qs (k * 4) rfl (st4 S) _ Q3.out Tryd.underlying52 rfl sizeSet9 ?_; refine hK _ ?_; clear hK K; simp only [Act.put, List.setIfInBounds_toArray, List.set_cons_zero, List.set_cons_succ])
            | (refine BigFrame.wpQuiet_want rfl (fun K hK => ?_); refine quiet_build_pl _ _ rfl S fo rfl rfl ?_; refine hK _ ?_; clear hK K; simp only [Act.put, List.setIfInBounds_toArray, List.set_cons_zero, List.set_cons_succ])
            | (go_big_quiet_step (fail)))
          refine wpQuiet_nil ?_
          clear g0 g3 gf Q3 hF' hι F'
          refine mix_eff (fun K hK => ?_)
          go_wp2_with (refine wpList_buildPl rfl _ rfl (S, fo) rfl ?_)
          have HX1 : Hid (Below w5.heap.size w10 ((w10.alloc (.cells (pl5 (S, fo)).toArray 54)).drew)) := Lib.hid (((Below.refl _ _).alloc HSZ10.out _).drew)
          refine mix_on hK HX1.out ?_
          clear hK K
          have HRN : Hid (((w10.alloc (.cells (pl5 (S, fo)).toArray 54)).drew).rangeAt w10.heap.size 0 (pl5 (S, fo))) := Lib.hid (range_new w10 (pl5 (S, fo)) 54)
          have HOP11 : Hid (OwnPl w5.heap.size ((w10.alloc (.cells (pl5 (S, fo)).toArray 54)).drew) u11 ((m.s.zip m.f).take k)) := Lib.hid (own_kept HOP10.out fun x hx => Below.heap_alloc w10 _ _ (HOP10.out.lt x hx).2)
          have HSB11 : Hid (SB ((w10.alloc (.cells (pl5 (S, fo)).toArray 54)).drew) g m.s (k + 1)) := Lib.hid (HSB10.out.same (Below.heap_alloc w10 _ _ HSB10.out.lt) (by show w10.heap.size ≤ (w10.alloc _).heap.size; simp))
          have HB11 : Hid (Below w5.heap.size w5 ((w10.alloc (.cells (pl5 (S, fo)).toArray 54)).drew)) := Lib.hid (HB10.out.trans HX1.out)
          have HSZ11 : Hid (((w10.alloc (.cells (pl5 (S, fo)).toArray 54)).drew).heap.size = w10.heap.size + 1) := Lib.hid (by show (w10.alloc _).heap.size = _; simp)
          have HGL : Hid (g < w10.heap.size) := Lib.hid HSB10.out.lt
          clear hd010 hd310 hcf10 HSB10 HB10 HOP10 HR210
          generalize (w10.alloc (.cells (pl5 (S, fo)).toArray 54)).drew = w11 at *
          refine mix_eff (fun K hK => ?_)
          have hlt5 : ((m.s.zip m.f).take k).length ≤ 1000 := by have h5 := List.length_take_le k (m.s.zip m.f); have := HSL.out; omega
          have hba5 : w5.heap.size ≤ w11.heap.size := by have := HSZ11.out; have := HSZ10.out; omega
          refine wpList_append_pl rfl _ _ rfl w5.heap.size u11 ((m.s.zip m.f).take k) (S, fo) rfl w10.heap.size HRN.out HOP11.out rfl hlt5 hba5 ?_
          intro v' w12 ho hgr hz
          have HOP12 := Lib.hid ho
          have HGR := Lib.hid hgr
          have HZV := Lib.hid hz
          clear ho hgr hz hlt5 hba5
          go_wp2
          have HX2 : Hid (Below w5.heap.size w11 w12) := Lib.hid ((Below.refl _ _).grown HGR.out (by have := HSZ11.out; have := HSZ10.out; omega) (fun j hj => (HOP11.out.lt j hj).1))
          refine mix_on hK (HX1.out.trans HX2.out) ?_
          clear hK K
          refine mix_seg (seg := []) (rest := []) rfl (HX1.out.trans HX2.out) ?_
          intro ι hι F' hF'
          refine wpQuiet_nil ?_
          clear hF' hι F'
          show wpList _ _ _ _ _ _
          go_wp2
          refine NoPanic.normal ?_
          have HSB12 : Hid (SB w12 g m.s (k + 1)) := Lib.hid (HSB11.out.same (HGR.out.block g HSB11.out.lt (fun e => HNE.out e.symm)) HGR.out.size)
          go_wp2_with fail
          go_roundw
          case rel =>
            refine ⟨k + 1, by first | rfl | (rw [HWI.out]), hlt, ?_, Lib.hid (HB11.out.trans HX2.out), Lib.hid (fun g2 hg2 => ?_)⟩
            · rw [HZT.out]; exact HOP12
            · injection hg2 with hg3
              injection hg3 with hg4
              subst hg4
              refine ⟨HGB.out, HSB12.out, fun e => ?_⟩
              rcases HZV.out with h5 | h5
              · exact HNE.out (h5 ▸ e)
              · rw [h5] at e
                injection e with e
                have := HGL.out
                have := HSZ11.out
                omega
          case measure => first | (rw [HWI.out]; exact meas2 hlt) | exact meas15 hlt
        case neg =>
          have hdd : decide ((k : Int) < (n : Int)) = false := decide_eq_false (by omega)
          have hd2 : decide (k < n) = false := decide_eq_false hlt
          have hke : k = n := by omega
          have HOPZ : Hid (OwnPl w5.heap.size w8 u11 (m.s.zip m.f)) := Lib.hid (by
            have h5 := HOP.out
            rw [List.take_of_length_le (by rw [List.length_zip, HFL.out, HNN.out]; omega)] at h5
            exact h5)
          have hp1 := HF.out.fi
          have hp2 := HF.out.la
          have hp3 := HF.out.em
          have d1 := (HBK.out.cell (p := ⟨D, 1, none⟩) HDL.out).trans HZ1.out
          have d2 := (HBK.out.cell (p := ⟨D, 2, none⟩) HDL.out).trans HZ2.out
          have d4 := (HBK.out.cell (p := ⟨D, 4, none⟩) HDL.out).trans HZ4.out
          have d5 := (HBK.out.cell (p := ⟨D, 5, none⟩) HDL.out).trans HZ5.out
          rw [hp1] at d1
          rw [hp2] at d2
          rw [hp3] at d4
          have HP1 := Lib.hid hp1
          have HP2 := Lib.hid hp2
          have HP3 := Lib.hid hp3
          have HNT := Lib.hid HF.out.nt
          have HU1 := Lib.hid ((UAt.of HM5.out.fi).kept HBK.out)
          have HU2 := Lib.hid ((UAt.of HM5.out.la).kept HBK.out)
          have HU4 := Lib.hid ((BAt.of HM5.out.em).kept HBK.out)
          have HU5 := Lib.hid ((BAt.of HM5.out.nt).kept HBK.out)
          have HGD : Hid (goodM m q = goodN m q m.nt.length) := Lib.hid rfl
          have HOL : Hid (orL m.fi m.fi.length = orL m.fi m.nt.length) := Lib.hid (by rw [hp1])
          clear hp1 hp2 hp3 HOP d3
          subst hke
          generalize hpn : m.nt.length = p at *
          have HPN := Lib.hid hpn
          clear hpn
          go_wp2_with fail
          go_loopw [12, 15, 16] (fun x g i wr => ∃ j : Nat, i = .int .i64 j ∧ x = .int .u64 (orL m.fi j : Nat) ∧ g = .bool (goodN m q j) ∧ j ≤ p ∧ wr = w8) (fun _ _ i _ => ((p : Int) - intOf i).toNat)
          case atStart => exact ⟨0, rfl, rfl, rfl, Nat.zero_le _, by first | rfl | trivial⟩
          case round =>
            obtain ⟨j, rfl, rfl, rfl, hj, hwe⟩ := hrel
            subst hwe
            by_cases hjl : j < p
            case pos =>
              have he1 : decide ((j : Int) < (p : Int)) = true := decide_eq_true (by omega)
              have he2 : decide (j < p) = true := decide_eq_true hjl
              obtain ⟨a1, b1, e1, y1⟩ := HU1.out
              obtain ⟨qa, oa, rfl, z1⟩ := y1 j (by rw [HP1.out]; exact hjl)
              injection e1 with e1 _ _
              subst e1
              obtain ⟨a2, b2, e2, y2⟩ := HU2.out
              obtain ⟨qb, ob, rfl, z2⟩ := y2 j (by rw [HP2.out]; exact hjl)
              injection e2 with e2 _ _
              subst e2
              obtain ⟨a4, b4, e4, y4⟩ := HU4.out
              obtain ⟨qe, oe, rfl, z4⟩ := y4 j (by rw [HP3.out]; exact hjl)
              injection e4 with e4 _ _
              subst e4
              obtain ⟨a5, b5, e5, y5⟩ := HU5.out
              obtain ⟨qn, on, rfl, z5⟩ := y5 j (by rw [HPN.out]; exact hjl)
              injection e5 with e5 _ _
              subst e5
              clear y1 y2 y4 y5
              have hor := u64_or_nat (orL m.fi j) (m.fi.getD j 0) (Nat.lt_trans (orL_lt HF.out.xfi j) (by decide)) (Nat.lt_trans (HF.out.xfi j) (by decide))
              have HOS : Hid (orL m.fi j ||| m.fi.getD j 0 = orL m.fi (j + 1)) := Lib.hid rfl
              have hand := u64_and_nat q (m.la.getD j 0) HQ.out (Nat.lt_trans (HF.out.xla j) (by decide))
              have hne : (((q &&& m.la.getD j 0 : Nat) : Int) != 0) = decide (m.la.getD j 0 &&& q ≠ 0) := by
                rw [Nat.and_comm]
                generalize m.la.getD j 0 &&& q = x
                by_cases h : x = 0
                · subst h; rfl
                · rw [decide_eq_true h, bne_iff_ne]; omega
              have HGS := Lib.hid (good_step m q j)
              have HW1 : Hid (wrap64 ((j : Int) + 1) = ((j + 1 : Nat) : Int)) := Lib.hid (by have := HNT.out; unfold wrap64; omega)
              have HCASE : Hid ((((q : Int) == 9223372036854775808) = true ∧ endsM m q j = m.em.getD j false) ∨ (((q : Int) == 9223372036854775808) = false ∧ endsM m q j = decide (m.la.getD j 0 &&& q ≠ 0))) := Lib.hid (by
                by_cases ht : q = top
                · left
                  exact ⟨by rw [ht]; rfl, by unfold endsM; rw [if_pos ht]⟩
                · right
                  exact ⟨by rw [beq_eq_false_iff_ne]; intro e; apply ht; unfold top; omega, by unfold endsM; rw [if_neg ht]⟩)
              generalize decide (m.la.getD j 0 &&& q ≠ 0) = di at *
              generalize q &&& m.la.getD j 0 = ql at *
              generalize m.la.getD j 0 = lj at *
              generalize m.fi.getD j 0 = fj at *
              generalize orL m.fi j = ox at *
              generalize m.em.getD j false = ej at *
              generalize m.nt.getD j false = nj at *
              generalize endsM m q j = en at *
              generalize goodN m q j = gj at *
              rcases HCASE.out with ⟨hq1, hq2⟩ | ⟨hq1, hq2⟩
              all_goals
                subst hq2
                clear HCASE
                cases gj
                all_goals
                  cases en
                  all_goals
                    cases nj
                    all_goals
                      go_wp2_with fail
                      go_roundw
                      case rel => exact ⟨j + 1, by rw [HW1.out], by rw [HOS.out], by rw [HGS.out]; rfl, hjl, by first | rfl | trivial⟩
                      case measure => rw [HW1.out]; exact meas2 hjl
            case neg =>
              have he1 : decide ((j : Int) < (p : Int)) = false := decide_eq_false (by omega)
              have he2 : decide (j < p) = false := decide_eq_false hjl
              have hje : j = p := by omega
              subst hje
              have HCr := Lib.hid (HC5.out.kept HBK.out)
              have HBr := Lib.hid (HB5.out.trans (HBK.out.mono HB5.out.size))
              clear d2 d4 d5 hj hjl HSB HU1 HU2 HU4 HU5 HM5 HD5 HOne
              go_wp2_with fail
              refine (next_any C q c m wr HCr.out HF.out HQ.out HCC.out).mono ?_
              rintro e wA ⟨rfl, hb⟩
              have HBA := Lib.hid (HBr.out.trans (hb.mono HBr.out.size))
              have HCA := Lib.hid (HCr.out.kept hb)
              have HOA := Lib.hid (own_pl HOPZ.out hb)
              clear hb HBr HCr HOPZ HBK d0 d1
              go_wp2_with fail
              refine (ref9_is u11 m j q c w5.heap.size wA HOA.out HF.out HOL.out HQ.out HCC.out).mono ?_
              rintro e wB ⟨rfl, hb⟩
              have HBB := Lib.hid (HBA.out.trans (hb.mono HBA.out.size))
              have HCB := Lib.hid (HCA.out.kept hb)
              have HOB := Lib.hid (own_pl HOA.out hb)
              clear hb HBA HCA HOA
              go_wp2_with fail
              refine (start_any C wB).mono ?_
              rintro e wC ⟨rfl, hb⟩
              have HBC := Lib.hid (HBB.out.trans (hb.mono HBB.out.size))
              have HC_C := Lib.hid (HCB.out.kept hb)
              have HOC := Lib.hid (own_pl HOB.out hb)
              clear hb HBB HCB HOB
              go_wp2_with fail
              refine (next_any C top c m wC HC_C.out HF.out top_lt HCC.out).mono ?_
              rintro e wE ⟨rfl, hb⟩
              have HBE := Lib.hid (HBC.out.trans (hb.mono HBC.out.size))
              have HCE := Lib.hid (HC_C.out.kept hb)
              have HOE := Lib.hid (own_pl HOC.out hb)
              clear hb HBC HC_C HOC
              go_wp2_with fail
              refine (ref9_top u11 m j c w5.heap.size wE HOE.out HF.out HOL.out HCC.out).mono ?_
              rintro e wF ⟨rfl, hb⟩
              have HBF := Lib.hid (HBE.out.trans (hb.mono HBE.out.size))
              have HCF := Lib.hid (HCE.out.kept hb)
              clear hb HBE HCE HOE
              go_wp2_with fail
              refine (good_any C q m wF HCF.out HF.out HQ.out).mono ?_
              rintro e wH ⟨rfl, rfl⟩
              rw [HGD.out]
              have HTF := Lib.hid (HT.out.below HBF.out HG.out)
              generalize goodN m q j = gb at *
              go_wp2_with fail
              refine (awake9_any wF HTF.out).mono ?_
              rintro e wK ⟨rfl, hb⟩
              have HBK2 := Lib.hid (HBF.out.trans (hb.mono HBF.out.size))
              clear hb
              go_wp2_with fail
              go_ret
              exact ⟨rfl, HBK2.out⟩
end Go.Proofs.YtcgllipcnmlkbaaDoor
