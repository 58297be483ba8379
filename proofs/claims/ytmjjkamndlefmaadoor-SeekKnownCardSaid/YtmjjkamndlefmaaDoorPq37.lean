/- The making of an automaton. (Written by gendfd.py) -/
import Derived.Test.YtmjjkamndlefmaaDoorPq36
import Derived.Deep.Cut
import Derived.Deep.CutRange
namespace Go.Proofs.YtmjjkamndlefmaaDoor
open Go.RowKit Sets Nf Df Dbl
namespace DfR
theorem own_range {w : World} {s : Nat} {sv : Value} {L : List (Nat × Bool)} (h : w.ownsRow s 86 5 sv L.length (rowsK L)) {i : Nat} {x : (Nat × Bool)} (hi : L[i]? = some x) : ∃ g c, sv = .slice (some ⟨g, 0, none⟩) L.length c ∧ w.rangeAt g (i * 5) (rC x).toList := by
  have hil := (List.getElem?_eq_some_iff.1 hi).1
  obtain ⟨a, c, rfl, hg⟩ := own_slice h
  rcases hg with hg | ⟨g, rfl, -, -⟩
  · omega
  · refine ⟨g, c, rfl, fun j v hj => ?_⟩
    have hjn : j < 5 := by have := (List.getElem?_eq_some_iff.1 hj).1; rwa [rC_len] at this
    rw [World.ownsRow.cellAt h (i * 5 + j) (by omega), rowsK_get L i x hi j hjn]
    exact hj
theorem sizeKL (x : (Nat × Bool)) : (Tryd.prog.info? 86).map (·.size) = some (rC x).toList.length := by
  rw [rC_len]; kernel_rfl
theorem wpList_lay_k {ops : Array Oper} {rest : List Oper} {o : Oper} {a : Act} {w : World} {Q : Exit → Act → World → Prop} (hgd : o.guard = none) (x y : Operand)
    (ho : o.op = .store 86 x y) (S S0 : (Nat × Bool)) (hx : a.eval x = .pointer (some ⟨w.heap.size, 0, none⟩)) (hy : a.eval y = .agg (rC S))
    (h : wpList Tryd.prog ops Q rest (a.put o.dst undef) (w.alloc (.cells (rC S) 86))) : wpList Tryd.prog ops Q (o :: rest) a (w.alloc (.cells (rC S0) 86)) := by
  refine wpList_store_row hgd 86 x y ho w.heap.size (rC S) hx hy 86 (rC S0) (heap_alloc_new w _) (sizeRuns S) rfl (oneRuns S) ?_
  rw [World.setRow_alloc_new]
  exact h
theorem is64_get (l : List Int) (j : Nat) (h : j < l.length) : (is64 l)[j]? = some (.int .i64 (l.getD j 0)) := by
  unfold is64
  rw [List.getElem?_map, List.getElem?_eq_getElem h, List.getD_eq_getElem?_getD, List.getElem?_eq_getElem h]; rfl
theorem infoSl : (Tryd.prog.info? 41).map (fun i => (i.zero, i.size, i.bytes)) = some (some nilS, 1, 24) := by kernel_rfl
theorem infoBl : (Tryd.prog.info? 4).map (fun i => (i.zero, i.size, i.bytes)) = some (some (.bool false), 1, 1) := by kernel_rfl
theorem hmki (nc : Nat) (h : nc ≤ 256) (w : World) : (Instr.makeSlice 41 (.int .i64 nc) (.int .i64 nc)).run Tryd.prog w = .ok (.slice (some ⟨w.heap.size, 0, none⟩) nc nc) (w.alloc (.cells (madeCells #[.int .i64 0] nc) 3)) := by
  obtain ⟨i0, hi, hz0, hz1, hz2⟩ := info_parts infoInt
  have hrun := run_make (P := Tryd.prog) w 41 3 i0 _ Tryd.underlying41 hi hz0 .i64 .i64 nc nc (by omega) (Int.le_refl _) (by rw [hz2]; omega) (by omega)
  simp only [Int.toNat_natCast, hz1, Nat.mul_one] at hrun
  exact hrun
theorem wpList_lay_df {ops : Array Oper} {rest : List Oper} {o : Oper} {a : Act} {w : World} {Q : Exit → Act → World → Prop} (hgd : o.guard = none) (x y : Operand)
    (ho : o.op = .store 28 x y) (of : Nat → Nat) (n : Int) (hx : a.eval x = .pointer (some ⟨w.heap.size, 0, none⟩)) (hy : a.eval y = .agg (dfC of n nilS nilS))
    (h : wpList Tryd.prog ops Q rest (a.put o.dst undef) (w.alloc (.cells (dfC of n nilS nilS) 28))) : wpList Tryd.prog ops Q (o :: rest) a (w.alloc (.cells (dfC (fun _ => 0) 0 nilS nilS) 28)) := by
  refine wpList_store_row hgd 28 x y ho w.heap.size (dfC of n nilS nilS) hx hy 28 (dfC (fun _ => 0) 0 nilS nilS) (heap_alloc_new w _) (sizeDf of n _ _) (by rw [dfC_size, dfC_size]) (oneDf of n none none 0 0 0 0) ?_
  rw [World.setRow_alloc_new]
  exact h
theorem keep1 {w : World} {k : Nat} {o : Obj} (h : w.heap[k]? = some o) (o' : Obj) : (w.alloc o').heap[k]? = some o := (((Below.refl w.heap.size w).alloc (Nat.le_refl _) o').block k (Array.getElem?_eq_some_iff.1 h).1).trans h
theorem new1 (w : World) (o : Obj) {k : Nat} (hk : k = w.heap.size) : (w.alloc o).heap[k]? = some o := by rw [hk]; exact heap_alloc_new w o
theorem five (w : World) (o0 o1 o2 o3 o4 : Obj) : (((((w.alloc o0).alloc o1).alloc o2).alloc o3).alloc o4).heap[w.heap.size]? = some o0 ∧ (((((w.alloc o0).alloc o1).alloc o2).alloc o3).alloc o4).heap[w.heap.size + 1]? = some o1 ∧
    (((((w.alloc o0).alloc o1).alloc o2).alloc o3).alloc o4).heap[w.heap.size + 1 + 1]? = some o2 ∧ (((((w.alloc o0).alloc o1).alloc o2).alloc o3).alloc o4).heap[w.heap.size + 1 + 1 + 1]? = some o3 ∧ (((((w.alloc o0).alloc o1).alloc o2).alloc o3).alloc o4).heap[w.heap.size + 1 + 1 + 1 + 1]? = some o4 ∧
    (((((w.alloc o0).alloc o1).alloc o2).alloc o3).alloc o4).heap.size = w.heap.size + 1 + 1 + 1 + 1 + 1 ∧ Below w.heap.size w (((((w.alloc o0).alloc o1).alloc o2).alloc o3).alloc o4) := by
  refine ⟨keep1 (keep1 (keep1 (keep1 (new1 w o0 rfl) _) _) _) _, keep1 (keep1 (keep1 (new1 _ _ (by simp)) _) _) _, keep1 (keep1 (new1 _ _ (by simp)) _) _, keep1 (new1 _ _ (by simp)) _, new1 _ _ (by simp), by simp, ?_⟩
  exact (((((Below.refl _ _).alloc (Nat.le_refl _) _).alloc (by simp) _).alloc (by simp; omega) _).alloc (by simp; omega) _).alloc (by simp; omega) _
theorem Df.meas {K n : Nat} (h : n < K) : ((K : Int) + 1 - ((n + 1 : Nat) : Int)).toNat < ((K : Int) + 1 - (n : Int)).toNat := by omega
/-- What is told at the end: the automaton of all states; or the purse was overspent. -/
def AuEnd (into : (Nat × Bool) → Nat → (Nat × Bool)) (fin : (Nat × Bool) → Bool) (nc : Nat) (s0 : (Nat × Bool)) (Ok : (Nat × Bool) → Prop) (of : Nat → Nat) (p : Option (Nat × Nat)) (t0 s : Nat) (w : World) (e : Ending) (w' : World) : Prop :=
  BelP p s w w' ∧
  ((∃ L R F nv fv vs, e = .returned (.agg (dfC of nc nv fv)) ∧ OwnD s w' R F nv fv vs ∧ Mk into fin nc s0 Ok L R F ∧ R.length = L.length ∧ PayAt w' p (t0 + L.length) ∧ Aff p (t0 + L.length)) ∨
   (∃ (q : Nat × Nat) (L : List (Nat × Bool)), p = some q ∧ e = .panicked [{ v := ovr q.1, recovered := false }] ∧ L.Nodup ∧ (∀ x ∈ L, Ok x) ∧ cap q.2 + 1 = t0 + L.length ∧ PurseAt w' q.1 q.2 (t0 + L.length)))
set_option maxHeartbeats 6400000 in
set_option maxRecDepth 100000 in
theorem auto_any (P : World → Prop) (into : (Nat × Bool) → Nat → (Nat × Bool)) (fin : (Nat × Bool) → Bool) (nc K : Nat) (s0 : (Nat × Bool)) (Ok : (Nat × Bool) → Prop) (rv : Value) (of : Nat → Nat) (p : Option (Nat × Nat)) (t0 : Nat) (w : World)
    (hP0 : P w) (hP : ∀ W W', P W → BelP p w.heap.size W W' → P W') (h0 : Ok s0) (hok : ∀ x c, Ok x → c < nc → Ok (into x c)) (hk : ∀ x, Ok x → okK x) (hK : ∀ L : List (Nat × Bool), L.Nodup → (∀ x ∈ L, Ok x) → L.length ≤ K) (hK2 : K ≤ 90000) (hnc : nc ≤ 256)
    (hpay : PayAt w p t0) (hlow : ∀ q, p = some q → q.1 < w.heap.size) (hcap : Aff p t0) (ht0 : t0 ≤ 1000)
    (hbeh : ∀ W x, P W → Ok x → Calls Tryd.prog 41 #[rv, .agg (rC x)] W fun e w' => ∃ i1 i2, e = .returned (.func (.func 68) #[] #[i1, i2]) ∧ Below W.heap.size W w' ∧
      ∀ W'' (c : Nat), P W'' → c < nc → (∀ k, W.heap.size ≤ k → k < w'.heap.size → W''.heap[k]? = w'.heap[k]?) → Calls Tryd.prog 68 #[.int .i64 c, i1, i2] W'' fun e w3 => e = .returned (.agg (rC (into x c))) ∧ Below W''.heap.size W'' w3)
    (hfin : ∀ W x, P W → Ok x → Calls Tryd.prog 42 #[rv, .agg (rC x)] W fun e w' => e = .returned (.bool (fin x)) ∧ Below W.heap.size W w') :
    Calls Tryd.prog 40 #[.agg (partC of nc), payV p, .agg (rC s0), .func (.func 41) #[rv] #[], .func (.func 42) #[rv] #[]] w (AuEnd into fin nc s0 Ok of p t0 w.heap.size w) := by
  have HP := Lib.hid hP
  have HOK := Lib.hid hok
  have HKK := Lib.hid hk
  have HKB := Lib.hid hK
  have HK2 := Lib.hid hK2
  have HNC := Lib.hid hnc
  have HBEH := Lib.hid hbeh
  have HFIN := Lib.hid hfin
  have H0 := Lib.hid h0
  have HLOW := Lib.hid hlow
  have HPAY := Lib.hid hpay
  have HCAP := Lib.hid hcap
  have HT0 := Lib.hid ht0
  have HP0 := Lib.hid hP0
  clear hP hok hk hK hK2 hnc hbeh hfin h0 hlow hpay hcap ht0 hP0
  have hz := zeroD
  have hmm := @run_makeMap Tryd.prog
  unfold payV
  go_enter Tryd.func40, Tryd.ntmps40
  go_upto_region 2 with fail
  obtain ⟨s, hs⟩ : ∃ s, Hid (w.heap.size = s) := ⟨_, Lib.hid rfl⟩
  have HW1 : ∃ w1, Hid (w1 = (((((w.alloc (.cells (partC of nc) 24)).alloc (.cells (rC s0) 86)).alloc (.cells (dfC (fun _ => 0) 0 nilS nilS) 28)).alloc (.map #[] 0)).alloc (.cells #[.pointer (p.map fun q => ⟨q.1, 0, none⟩), .map (some (w.heap.size + 1 + 1 + 1)), .slice none 0 0] 123))) := ⟨_, Lib.hid rfl⟩
  obtain ⟨w1, hw1⟩ := HW1
  rw [← hw1.out]
  obtain ⟨g0, g1, g2, g3, g4, g5, g6⟩ := five w (.cells (partC of nc) 24) (.cells (rC s0) 86) (.cells (dfC (fun _ => 0) 0 nilS nilS) 28) (.map #[] 0) (.cells #[.pointer (p.map fun q => ⟨q.1, 0, none⟩), .map (some (w.heap.size + 1 + 1 + 1)), .slice none 0 0] 123)
  rw [← hw1.out] at g0 g1 g2 g3 g4 g5 g6
  rw [hs.out] at g0 g1 g2 g3 g4 g5 g6 HLOW HP ⊢
  have HS1 := Lib.hid (show s ≤ w1.heap.size by rw [g5]; omega)
  have HMK : Hid (MkAt w1 s (s + 1 + 1 + 1 + 1) (s + 1 + 1 + 1) p t0 (.slice none 0 0) []) := Lib.hid ⟨g4, ⟨g3, fun x hx => by cases hx⟩, World.ownsRow_nil _ _ _ _, fun q hq => (HPAY.out q hq).kept (g6.block _ (by have := HLOW.out q hq; have := hs.out; omega)), ⟨by omega, by omega, HLOW.out⟩⟩
  have HFB : Hid (BoxS w1 (s + 1) s0) := Lib.hid ⟨g1⟩
  have HAU : Hid (AuI w s (s + 1 + 1 + 1 + 1) (s + 1 + 1 + 1) s (s + 1) (s + 1 + 1) p t0 of nc (.slice none 0 0) [] nilS nilS [] [] [] w1 → True) := Lib.hid (fun _ => trivial)
  have HG0 := Lib.hid g0
  have HG2 := Lib.hid g2
  have HB1 : Hid (BelP p s w w1) := Lib.hid (BelP.of_below g6)
  clear g0 g1 g2 g3 g4 g5 g6 hw1 HAU
  have HST := Lib.hid (state_any s (s + 1 + 1 + 1 + 1) (s + 1 + 1 + 1) p t0 (.slice none 0 0) [] s0 w1 HMK.out (HKK.out s0 H0.out) (by have := HT0.out; simp; omega) HCAP.out (by simp) HS1.out)
  go_upto_region 3 with (first
    | (refine wpList_load_runs rfl _ rfl (s + 1) s0 rfl HFB.out ?_)
    | (go_at_call 66; refine HST.out.mono ?_; rintro e w2 (⟨rfl, sv2, hm2, hf2, ha2⟩ | ⟨hn2, q, hq2, hc2, rfl, hp2, hf2⟩)))
  rotate_left
  · subst hq2
    refine ⟨rfl, HB1.out.trans ⟨hf2.os, hf2.tape, hf2.output, hf2.size, fun k hk hq => hf2.block k (Nat.lt_of_lt_of_le hk HS1.out) (by omega) (by omega) (fun e => by cases e) hq⟩, .inr ⟨q, [s0], rfl, rfl, by simp, fun x hx => ?_, ?_, hp2⟩⟩
    · rw [List.mem_singleton] at hx; rw [hx]; exact H0.out
    · have := HCAP.out q rfl
      simp at hc2 ⊢; omega
  rw [show put [] s0 = [s0] from put_new (by simp)] at hm2 ha2
  have HM2 := Lib.hid hm2
  have HA2 := Lib.hid ha2
  have HG02 := Lib.hid ((hf2.typ HMK.out HG0.out (by decide) (by decide) (by decide)).trans HG0.out)
  have HG22 := Lib.hid ((hf2.typ HMK.out HG2.out (by decide) (by decide) (by decide)).trans HG2.out)
  have HB2 : Hid (BelP p s w w2) := Lib.hid (HB1.out.trans ⟨hf2.os, hf2.tape, hf2.output, hf2.size, fun k hk hq => hf2.block k (Nat.lt_of_lt_of_le hk HS1.out) (by omega) (by omega) (fun e => by cases e) hq⟩)
  clear hm2 hf2 ha2 HST HMK HFB HG0 HG2 HB1 HS1
  clear w1
  go_upto_region 4 with (first
    | (refine wpList_load_row rfl 24 _ rfl s rfl 24 (partC of nc) (0, 0) _ HG02.out Tryd.underlying24 rfl (sizeP of nc) ?_)
    | (refine wpList_build_df rfl (.tmp 23) rfl of nc rfl ?_)
    | (refine wpList_lay_df rfl (.tmp 12) (.tmp 24) rfl of nc rfl rfl ?_))
  rw [show ∀ a : Act, a.put none undef = a from fun _ => rfl]
  obtain ⟨db, hdb⟩ : ∃ db, Hid (w2.heap.size = db) := ⟨_, Lib.hid rfl⟩
  have hal := (Below.refl w2.heap.size w2).alloc (Nat.le_refl _) (.cells (dfC of nc nilS nilS) 28)
  have hs2 : s ≤ w2.heap.size := Nat.le_trans HM2.out.low.1 (Nat.le_of_lt HM2.out.lt)
  have HAU : Hid (AuI w s (s + 1 + 1 + 1 + 1) (s + 1 + 1 + 1) s db (s + 1 + 1) p t0 of nc sv2 [s0] nilS nilS [] [] [] (w2.alloc (.cells (dfC of nc nilS nilS) 28))) := Lib.hid
    ⟨HM2.out.stay hal, keep1 HG02.out _, by rw [← hdb.out]; exact heap_alloc_new w2 _, keep1 HG22.out _, OwnD.nil _ _, ⟨by have := hdb.out; omega, by omega, by have h1 := hdb.out; have h2 := (Array.getElem?_eq_some_iff.1 HG22.out).1; omega⟩, HB2.out.trans (BelP.of_below (hal.mono hs2))⟩
  have HMK : Hid (Mk into fin nc s0 Ok [s0] [] []) := Lib.hid (Mk.start H0.out)
  clear hal hs2 HM2 HG02 HG22 HB2
  rw [hdb.out]
  generalize w2.alloc (.cells (dfC of nc nilS nilS) 28) = w3 at *
  clear hdb w2
  obtain ⟨mb, hmb⟩ : ∃ mb, Hid (s + 1 + 1 + 1 + 1 = mb) := ⟨_, Lib.hid rfl⟩
  obtain ⟨mg, hmg⟩ : ∃ mg, Hid (s + 1 + 1 + 1 = mg) := ⟨_, Lib.hid rfl⟩
  obtain ⟨rb, hrb⟩ : ∃ rb, Hid (s + 1 + 1 = rb) := ⟨_, Lib.hid rfl⟩
  rw [hmb.out, hmg.out, hrb.out] at HAU
  rw [hmb.out, hmg.out, hrb.out]
  clear hmb hmg hrb
  go_wp2_with fail
  go_loopw [13] (fun i wr => ∃ (n : Nat) (sv : Value) (L : List (Nat × Bool)) (nv fv : Value) (vs : List Value) (R : List (List Int)) (F : List Bool), i = .int .i64 n ∧ R.length = n ∧ Hid (AuI w s mb mg s db rb p t0 of nc sv L nv fv vs R F wr) ∧ Hid (Mk into fin nc s0 Ok L R F) ∧ Hid (Aff p (t0 + L.length))) (fun i _ => ((K : Int) + 1 - intOf i).toNat)
  case atStart => exact ⟨0, sv2, [s0], nilS, nilS, [], [], [], rfl, rfl, HAU, HMK, HA2⟩
  case round =>
    clear HAU HMK HA2
    obtain ⟨n, sv, L, nv, fv, vs, R, F, rfl, hn, HAU, HMK, HA⟩ := hrel
    generalize hwr : wr = w4 at *
    clear hwr wr w3
    have HNR := Lib.hid hn
    clear hn
    have HLK : Hid (L.length ≤ K) := Lib.hid (HKB.out L HMK.out.nd HMK.out.ok)
    obtain ⟨a1, c1, hsv, -⟩ := own_slice HAU.out.mka.own
    have HSV := Lib.hid hsv
    clear hsv
    have c2 := HAU.out.mka.cells.2.2
    rw [HSV.out] at c2
    by_cases hlt : n < L.length
    · have hdd : decide ((n : Int) < (L.length : Int)) = true := decide_eq_true (by omega)
      have hd2 : decide (n < L.length) = true := decide_eq_true hlt
      have HN := Lib.hid hlt
      have hnl : (n : Int) < (L.length : Int) := by omega
      have HWN : Hid (wrap64 ((n : Int) + 1) = ((n + 1 : Nat) : Int)) := Lib.hid (nat_wrap (by have h1 := HLK.out; have h2 := HK2.out; omega))
      obtain ⟨x, hx⟩ : ∃ x, Hid (L[n]? = some x) := ⟨_, Lib.hid (List.getElem?_eq_getElem hlt)⟩
      obtain ⟨g, c3, hsv2, hrg⟩ := own_range HAU.out.mka.own hx.out
      have HRG := Lib.hid hrg
      have HE : Hid (a1 = some ⟨g, 0, none⟩) := Lib.hid (by rw [HSV.out] at hsv2; injection hsv2)
      rw [HE.out] at c2
      have HOX : Hid (Ok x) := Lib.hid (HMK.out.ok x (List.mem_of_getElem? hx.out))
      clear hsv2 hrg hlt
      go_upto_region 8 with (first
        | (refine wpList_load_mid rfl 86 _ rfl g (n * 5) rfl (rC x).toList _ HRG.out Tryd.underlying86 rfl (sizeKL x) ?_)
        | (rw [zeroR]; refine wpList_lay_k rfl (.tmp 14) (.tmp 36) rfl x (0, false) rfl rfl ?_))
      rw [show ∀ a : Act, a.put none undef = a from fun _ => rfl]
      have hal := (Below.refl w4.heap.size w4).alloc (Nat.le_refl _) (.cells (rC x) 86)
      have HAU5 := Lib.hid (HAU.out.stay hal)
      have HX5 : Hid (BoxS (w4.alloc (.cells (rC x) 86)) w4.heap.size x) := Lib.hid (BoxS.new w4 x)
      have HOF5 : Hid (Off mb mg p sv w4.heap.size) := Lib.hid ⟨by have := HAU.out.mka.lt; omega, by have := HAU.out.mka.map.lt; omega, fun e => by have := (HAU.out.mka.own.lt _ e).2; omega, fun q hq => by have := HAU.out.mka.low.2.2 q hq; have := HAU.out.size; omega⟩
      clear hal c2 HRG HAU
      obtain ⟨xb, hxb⟩ : ∃ xb, Hid (w4.heap.size = xb) := ⟨_, Lib.hid rfl⟩
      rw [hxb.out] at HX5 HOF5
      rw [hxb.out]
      generalize w4.alloc (.cells (rC x) 86) = w5 at *
      clear hxb w4
      have HP5 : Hid (P w5) := Lib.hid (HP.out _ _ HP0.out HAU5.out.bel)
      go_upto_region 9 with (first
        | (refine wpList_load_runs rfl _ rfl xb x rfl HX5.out ?_)
        | (go_at_call 41; refine (HBEH.out _ x HP5.out HOX.out).mono ?_; rintro e w6 ⟨i1, i2, rfl, hb6, hin6⟩; have HB6 := Lib.hid hb6; have HIN := Lib.hid hin6; clear hb6 hin6))
      have HAU6 := Lib.hid (HAU5.out.stay HB6.out)
      have HX6 := Lib.hid (HX5.out.stay HB6.out)
      have HOFN : Hid (∀ k, w5.heap.size ≤ k → Off mb mg p sv k) := Lib.hid (fun k hk => ⟨by have := HAU5.out.mka.lt; omega, by have := HAU5.out.mka.map.lt; omega, fun e => by have := (HAU5.out.mka.own.lt _ e).2; omega, fun q hq => by have := HAU5.out.mka.low.2.2 q hq; have := HAU5.out.size; omega⟩)
      have HXL : Hid (xb < w5.heap.size) := Lib.hid HX5.out.lt
      clear HAU5 HX5 HP5
      have c256 : w6.cell? ⟨s, 256, none⟩ = some (.int .i64 nc) := by rw [cell_of_row w6 s 256 _ _ _ HAU6.out.part]; exact partC_n of nc
      have hmk := hmki nc HNC.out
      go_upto_region 10 with fail
      have hal := (Below.refl w6.heap.size w6).alloc (Nat.le_refl _) (.cells (madeCells #[.int .i64 0] nc) 3)
      have HROW : Hid ((w6.alloc (.cells (madeCells #[.int .i64 0] nc) 3)).ownsRow s 3 1 (.slice (some ⟨w6.heap.size, 0, none⟩) nc nc) nc (is64 (rowCl (into x) L nc 0))) := Lib.hid (by
        rw [rowCl_zero, is64_zero]
        exact World.ownsRow_lit w6 _ nc HAU6.out.size (by have := HNC.out; unfold maxLen; omega) (by rw [size_madeCells, Nat.mul_one]))
      have HAU7 : Hid (AuI w s mb mg s db rb p t0 of nc sv (puts (into x) L 0) nv fv vs R F (w6.alloc (.cells (madeCells #[.int .i64 0] nc) 3))) := Lib.hid (HAU6.out.stay hal)
      have HX7 := Lib.hid (HX6.out.stay hal)
      have HNG6 : Hid (∀ i, i < R.length → ∀ k, (vs.getD i nilS).ownBlock = some k → k < w6.heap.size) := Lib.hid (fun i hi k hk => ((HAU6.out.own.each i hi).lt k hk).2)
      have HKP7 : Hid (∀ k, w5.heap.size ≤ k → k < w6.heap.size → (w6.alloc (.cells (madeCells #[.int .i64 0] nc) 3)).heap[k]? = w6.heap[k]?) := Lib.hid (fun k _ hk => hal.block k hk)
      have HSZ : Hid (w5.heap.size ≤ w6.heap.size) := Lib.hid HB6.out.size
      clear hal HAU6 HX6 c256 hmk HB6
      obtain ⟨gb, hgb⟩ : ∃ gb, Hid (w6.heap.size = gb) := ⟨_, Lib.hid rfl⟩
      rw [hgb.out] at HROW
      rw [hgb.out]
      generalize w6.alloc (.cells (madeCells #[.int .i64 0] nc) 3) = w7 at *
      have HPAN : Hid (∀ (c : Nat) (sv9 : Value) (q : Nat × Nat) (w8 w9 : World), c < nc → AuI w s mb mg s db rb p t0 of nc sv9 (puts (into x) L c) nv fv vs R F w8 → Aff p (t0 + (puts (into x) L c).length) → into x c ∉ puts (into x) L c → p = some q → cap q.2 < t0 + (puts (into x) L c).length + 1 → PurseAt w9 q.1 q.2 (t0 + (puts (into x) L c).length + 1) → FrM mb mg p w8 sv9 w9 sv9 →
          AuEnd into fin nc s0 Ok of p t0 w.heap.size w (.panicked [{ v := ovr q.1, recovered := false }]) w9) := Lib.hid (fun c sv9 q w8 w9 hc hau haf hnm hpq hcc hpu hfr => by
        rw [hs.out]
        have hau9 := hau.bel.trans ⟨hfr.os, hfr.tape, hfr.output, hfr.size, fun k hk hq => hfr.block k (Nat.lt_of_lt_of_le hk hau.size) (by have := hau.mka.low; omega) (by have := hau.mka.low; omega) (fun e => by have := (hau.mka.own.lt _ e).1; omega) hq⟩
        refine ⟨hau9, .inr ⟨q, puts (into x) L c ++ [into x c], hpq, rfl, ?_, fun y hy => ?_, ?_, ?_⟩⟩
        · have := put_nodup (puts_nodup HMK.out.nd (into x) c) (into x c)
          rwa [put_new hnm] at this
        · rcases List.mem_append.1 hy with hy | hy
          · rcases (mem_puts _ _ _ _).1 hy with hy | ⟨d, hd, rfl⟩
            · exact HMK.out.ok y hy
            · exact HOK.out _ _ HOX.out (by omega)
          · rw [List.mem_singleton] at hy; rw [hy]; exact HOK.out _ _ HOX.out hc
        · have := haf q hpq
          rw [List.length_append, List.length_singleton]; omega
        · rw [List.length_append, List.length_singleton, ← Nat.add_assoc]; exact hpu)
      have HGB : Hid (w6.heap.size ≤ gb) := Lib.hid (Nat.le_of_eq hgb.out)
      have HNG : Hid (∀ i, i < R.length → ∀ k, (vs.getD i nilS).ownBlock = some k → k ≠ gb) := Lib.hid (fun i hi k hk => by have := HNG6.out i hi k hk; have := hgb.out; omega)
      clear hgb HNG6
      go_wp2_with fail
      go_loopw [45] (fun i wr => ∃ (c : Nat) (sv : Value), i = .int .i64 c ∧ c ≤ nc ∧ Hid (AuI w s mb mg s db rb p t0 of nc sv (puts (into x) L c) nv fv vs R F wr) ∧ Hid (wr.ownsRow s 3 1 (.slice (some ⟨gb, 0, none⟩) nc nc) nc (is64 (rowCl (into x) L nc c))) ∧ Hid (BoxS wr xb x ∧ Off mb mg p sv xb) ∧
        Hid (∀ k, w5.heap.size ≤ k → k < w6.heap.size → wr.heap[k]? = w6.heap[k]? ∧ Off mb mg p sv k) ∧ Hid (Aff p (t0 + (puts (into x) L c).length)) ∧ Hid (w6.heap.size ≤ wr.heap.size)) (fun i _ => ((nc : Int) - intOf i).toNat)
      case atStart => exact ⟨0, sv, rfl, Nat.zero_le _, HAU7, HROW, Lib.hid ⟨HX7.out, HOF5.out⟩, Lib.hid (fun k h1 h2 => ⟨HKP7.out k h1 h2, HOFN.out k h1⟩), HA, Lib.hid (by have h1 := (HROW.out.lt gb rfl).2; have h2 := HGB.out; omega)⟩
      case round =>
        clear HAU7 HROW HX7 HKP7 HOF5 HOFN
        clear HA
        obtain ⟨c, sv9, rfl, hc, HAU, HROW, HX, HKP, HA, HSZ9⟩ := hrel
        generalize hwr : wr = w8 at *
        clear hwr wr w7
        by_cases hlt : c < nc
        · have hdd : decide ((c : Int) < (nc : Int)) = true := decide_eq_true (by omega)
          have hd2 : decide (c < nc) = true := decide_eq_true hlt
          have HC := Lib.hid hlt
          have hcn : (c : Int) < (nc : Int) := by omega
          have HWC : Hid (wrap64 ((c : Int) + 1) = ((c + 1 : Nat) : Int)) := Lib.hid (nat_wrap (by have h1 := HNC.out; omega))
          have HIC := Lib.hid (HIN.out w8 c (HP.out _ _ HP0.out HAU.out.bel) hlt (fun k h1 h2 => (HKP.out k h1 h2).1))
          have HLC : Hid ((puts (into x) L c).length ≤ K) := Lib.hid (HKB.out _ (puts_nodup HMK.out.nd _ _) (fun y hy => by
            rcases (mem_puts _ _ _ _).1 hy with hy | ⟨d, hd, rfl⟩
            · exact HMK.out.ok y hy
            · exact HOK.out _ _ HOX.out (by omega)))
          have HST : Hid (∀ w10, Below w8.heap.size w8 w10 → _) := Lib.hid (fun w10 (hb : Below w8.heap.size w8 w10) => state_any s mb mg p t0 sv9 (puts (into x) L c) (into x c) w10 (HAU.out.stay hb).mka (HKK.out _ (HOK.out _ _ HOX.out hlt)) (by have h1 := HLC.out; have h2 := HK2.out; have h3 := HT0.out; omega) HA.out (by have h1 := HLC.out; have h2 := HK2.out; omega) (HAU.out.stay hb).size)
          have HRS : Hid (∀ (w10 w11 : World) (sv11 : Value), Below w8.heap.size w8 w10 → FrM mb mg p w10 sv9 w11 sv11 → w11.ownsRow s 3 1 (.slice (some ⟨gb, 0, none⟩) nc nc) nc (is64 (rowCl (into x) L nc c))) := Lib.hid (fun w10 w11 sv11 hb hf => by
            have h10 := own_stay HROW.out hb
            exact own_kept h10 fun g hg => by
              obtain ⟨cs, hcs⟩ := own_type h10 hg
              exact hf.typ (HAU.out.stay hb).mka hcs (by decide) (by decide) (by decide))
          clear hlt
          go_upto_region 14 with (first
            | (go_at_call 68; refine HIC.out.mono ?_; rintro e w10 ⟨rfl, hb10⟩; have HB10 := Lib.hid hb10; clear hb10)
            | (go_at_call 66; refine (HST.out _ HB10.out).mono ?_; rintro e w11 (⟨rfl, sv11, hm11, hf11, ha11⟩ | ⟨hn11, q, hq11, hc11, rfl, hp11, hf11⟩); rotate_left; exact ⟨rfl, HPAN.out c sv9 q w10 w11 HC.out (HAU.out.stay HB10.out) HA.out hn11 hq11 hc11 hp11 hf11⟩; have HR11 := Lib.hid (HRS.out _ _ _ HB10.out hf11); have c11 := World.ownsRow.cellAt HR11.out c (by have := HC.out; omega); have z11 := World.ownsRow.frozenAt HR11.out c; have HM11 := Lib.hid hm11; have HF11 := Lib.hid hf11; have HA11 := Lib.hid ha11; clear hm11 hf11 ha11; rw [is64_get _ _ (by rw [rowCl_len]; exact HC.out)] at c11))
          have HAU12 := Lib.hid ((HAU.out.stay HB10.out).put HM11.out HF11.out)
          have HXB : Hid (BoxS w11 xb x ∧ Off mb mg p sv11 xb) := Lib.hid ⟨BoxS.of (HX.out.1.stay HB10.out) (HF11.out.keep HX.out.2 (HX.out.1.stay HB10.out).lt), HF11.out.off HX.out.2 (HX.out.1.stay HB10.out).lt⟩
          have HKP12 : Hid (∀ k, w5.heap.size ≤ k → k < w6.heap.size → w11.heap[k]? = w6.heap[k]? ∧ Off mb mg p sv11 k) := Lib.hid (fun k h1 h2 => by
            obtain ⟨h3, h4⟩ := HKP.out k h1 h2
            have hk8 : k < w8.heap.size := Nat.lt_of_lt_of_le h2 HSZ9.out
            have hk10 : k < w10.heap.size := Nat.lt_of_lt_of_le hk8 HB10.out.size
            exact ⟨((HF11.out.keep h4 hk10).trans (HB10.out.block k hk8)).trans h3, HF11.out.off h4 hk10⟩)
          have HGS : Hid (s ≤ gb) := Lib.hid ((HR11.out.lt gb rfl).1)
          have HGT := Lib.hid (own_type HR11.out (show (Value.slice (some ⟨gb, 0, none⟩) nc nc).ownBlock = some gb from rfl))
          have HSET := Lib.hid (World.ownsRow.stored HR11.out c (.int .i64 ((ix (puts (into x) L c) (into x c) : Nat) : Int)))
          have HNEX : Hid (xb ≠ gb) := Lib.hid (by have h1 := HXL.out; have h2 := HSZ.out; have h3 := HGB.out; omega)
          clear HAU HROW HX HKP HST HRS HIC HPAN HM11 HF11 c11 z11
          have HSZ12 : Hid (w6.heap.size ≤ w11.heap.size) := Lib.hid (by have h1 := (HR11.out.lt gb rfl).2; have h2 := HGB.out; omega)
          have hset : ∀ k, k ≠ gb → (w11.setCell ⟨gb, c, none⟩ (.int .i64 ((ix (puts (into x) L c) (into x c) : Nat) : Int))).heap[k]? = w11.heap[k]? := fun k hk => Below.heap_setCell w11 ⟨gb, c, none⟩ _ k hk
          have HAU13 : Hid (AuI w s mb mg s db rb p t0 of nc sv11 (puts (into x) L (c + 1)) nv fv vs R F (w11.setCell ⟨gb, c, none⟩ (.int .i64 ((ix (puts (into x) L c) (into x c) : Nat) : Int)))) := Lib.hid (by
            obtain ⟨cs, hcs⟩ := HGT.out
            exact HAU12.out.wrote hcs HGS.out HNG.out)
          have HROW13 : Hid ((w11.setCell ⟨gb, c, none⟩ (.int .i64 ((ix (puts (into x) L c) (into x c) : Nat) : Int))).ownsRow s 3 1 (.slice (some ⟨gb, 0, none⟩) nc nc) nc (is64 (rowCl (into x) L nc (c + 1)))) := Lib.hid (by
            have h1 := HSET.out.1
            rw [is64_set, rowCl_set _ _ _ _ HC.out] at h1
            exact h1)
          go_wp2_with fail
          go_roundw
          case rel => exact ⟨c + 1, sv11, by rw [HWC.out], HC.out, HAU13, HROW13, Lib.hid ⟨HXB.out.1.of (hset xb HNEX.out), HXB.out.2⟩, Lib.hid (fun k h1 h2 => ⟨(hset k (by have := HGB.out; omega)).trans (HKP12.out k h1 h2).1, (HKP12.out k h1 h2).2⟩), HA11, Lib.hid (by simpa using HSZ12.out)⟩
          case measure => rw [HWC.out]; exact meas9 HC.out
        · have hdd : decide ((c : Int) < (nc : Int)) = false := decide_eq_false (by omega)
          have hd2 : decide (c < nc) = false := decide_eq_false hlt
          have hcc : c = nc := by omega
          subst hcc
          rw [rowCl_all] at HROW
          have HSW : Hid (s ≤ w8.heap.size) := Lib.hid HAU.out.size
          have HRN : Hid (R.length ≤ 100000) := Lib.hid (by have h1 := HNR.out; have h2 := HN.out; have h3 := HLK.out; have h4 := HK2.out; omega)
          have HFN : Hid (F.length ≤ 100000) := Lib.hid (by rw [HMK.out.flen]; exact HRN.out)
          have c257 : w8.cell? ⟨db, 257, none⟩ = some nv := by rw [cell_of_row w8 db 257 _ _ _ HAU.out.row]; exact dfC_nv _ _ _ _
          clear hlt HIN HPAN HKP
          obtain ⟨an, cn, hnv, -⟩ := own_slice HAU.out.own.nx
          have HNV := Lib.hid hnv
          clear hnv
          rw [HNV.out] at c257
          go_upto_region 16 with (refine wpList_push 25 41 nilS 1 24 Tryd.underlying25 infoSl rfl (by decide) rfl (.tmp 57) (.tmp 59) rfl s nv R.length vs (by exact HNV.out.symm) HAU.out.own.nx [.slice (some ⟨gb, 0, none⟩) c c] _ rfl rfl (fun u hu => by rw [List.mem_singleton] at hu; rw [hu]; rfl) rfl HRN.out (by decide) HSW.out ?_; intro nv2 w9 ho9 hb9 ha9; obtain ⟨a9, c9, hnv2, -⟩ := own_slice ho9; have HO9 := Lib.hid ho9; have HB9 := Lib.hid hb9; have HA9 := Lib.hid ha9; have HNV2 := Lib.hid hnv2; clear ho9 hb9 ha9 hnv2; have hr9 := (HA9.out.block db (Array.getElem?_eq_some_iff.1 HAU.out.row).1 (fun e => by obtain ⟨cs, hc⟩ := own_type HAU.out.own.nx e; rw [HAU.out.row] at hc; injection hc with hc; injection hc with _ hc; exact absurd hc (by decide))).trans HAU.out.row; have c9d : w9.cell? ⟨db, 257, none⟩ = some nv := (by rw [cell_of_row w9 db 257 _ _ _ hr9]; exact dfC_nv _ _ _ _); have z9d := frozen_of_row w9 db 257 _ _ hr9; clear hr9; rw [HNV2.out])
          have HRT : Hid (OwnN s w8 (.slice (some ⟨gb, 0, none⟩) c c) (rowTo (into x) L c)) := Lib.hid (by unfold OwnN; rw [rowTo_len]; exact HROW.out)
          have HAU10 := Lib.hid (HAU.out.pushN HO9.out HRT.out HB9.out HA9.out)
          have HX10 : Hid (BoxS (w9.setCell ⟨db, 257, none⟩ nv2) xb x) := Lib.hid (by
            refine BoxS.of (HX.out.1.of (HA9.out.block xb HX.out.1.lt (fun e => ?_))) (Below.heap_setCell w9 ⟨db, 257, none⟩ nv2 xb (fun e => ?_))
            · obtain ⟨cs, hc⟩ := own_type HAU.out.own.nx e
              rw [HX.out.1.row] at hc; injection hc with hc; injection hc with _ hc; exact absurd hc (by decide)
            · have h1 := HX.out.1.row
              rw [show xb = db from e, HAU.out.row] at h1; injection h1 with h1; injection h1 with _ h1; exact absurd h1 (by decide))
          rw [HNV2.out] at HAU10 HX10
          clear HAU HROW HX HO9 HB9 HA9 HNV2 HNV c9d z9d c257 HSZ9 HGB HNG HSW HRT
          generalize w9.setCell ⟨db, 257, none⟩ (.slice a9 (R.length + 1) c9) = w12 at *
          try clear nv2
          have HSW : Hid (s ≤ w12.heap.size) := Lib.hid HAU10.out.size
          have HC0 : Hid (w12.drew.cell? ⟨db, 258, none⟩ = some fv ∧ BoxS w12.drew xb x) := Lib.hid ⟨by
            show w12.cell? _ = _
            rw [cell_of_row w12 db 258 _ _ _ HAU10.out.row]; exact dfC_fv _ _ _ _, BoxS.of HX10.out rfl⟩
          refine region_mix [(false, 0), (false, 1), (false, 2), (false, 3), (true, 4), (true, 5), (true, 6), (false, 7)] (fun w' => w'.cell? ⟨db, 258, none⟩ = some fv ∧ BoxS w' xb x) (by kernel_rfl) (by kernel_rfl) HC0.out ?_
          simp only [planOps, List.map_cons, List.map_nil, List.getD_cons_zero, List.getD_cons_succ, List.length_cons, List.length_nil, List.drop_succ_cons, List.drop_zero]
          refine mix_seg (seg := [_, _, _, _]) rfl HC0.out ?_
          intro ι hι F2 hF
          have f1 := fun n => (hF n).1
          have f2 := Lib.hid (fun n => (hF n).2)
          iterate 3 (go_big_quiet_step (fail))
          refine BigFrame.wpQuiet_want rfl (fun K hK => ?_); refine quiet_load_row 86 _ rfl xb rfl 86 (rC x) (0, 0) _ (fun w' ⟨n, e⟩ => e ▸ (f2.out n).row) Tryd.underlying86 rfl (sizeRuns x) ?_; refine hK _ ?_; clear hK K; simp only [Act.put, List.setIfInBounds_toArray, List.set_cons_zero, List.set_cons_succ]
          refine wpQuiet_nil ?_
          clear f1 f2 hF hι F2
          have HBD : Hid (Below w12.heap.size w12 w12.drew) := Lib.hid ((Below.refl _ _).drew)
          have HAU11 := Lib.hid (HAU10.out.stay HBD.out)
          clear HAU10 HX10 HBD
          generalize w12.drew = w13 at *
          clear HSW
          have HFC := Lib.hid (HFIN.out w13 x (HP.out _ _ HP0.out HAU11.out.bel) HOX.out)
          refine mix_eff (fun K hK => ?_)
          go_wp2_with (go_at_call 42; refine HFC.out.mono ?_; rintro e w14 ⟨rfl, hb14⟩; have HB14 := Lib.hid hb14; clear hb14)
          have HAU14 := Lib.hid (HAU11.out.stay HB14.out)
          have HC14 : Hid (w14.cell? ⟨db, 258, none⟩ = some fv ∧ BoxS w14 xb x) := Lib.hid ⟨(HB14.out.cell (p := ⟨db, 258, none⟩) (World.block_lt_of_cell? _ _ HC0.out.1)).trans HC0.out.1, HC0.out.2.stay HB14.out⟩
          refine mix_on hK HC14.out ?_
          clear hK K HAU11 HFC HC0 HB14
          refine mix_eff (fun K hK => ?_)
          go_wp2_with fail
          refine mix_on hK ⟨by rw [World.cell?_alloc_past _ _ _ (World.block_lt_of_cell? _ _ HC14.out.1)]; exact HC14.out.1, HC14.out.2.stay ((Below.refl _ _).alloc (Nat.le_refl _) _)⟩ ?_
          clear hK K
          have HSW : Hid (s ≤ w14.heap.size) := Lib.hid HAU14.out.size
          refine mix_eff (fun K hK => ?_)
          refine wpList_push 26 4 (.bool false) 1 1 Tryd.underlying26 infoBl rfl (by decide) rfl (.tmp 63) (.tmp 67) rfl s fv F.length (bL F) rfl HAU14.out.own.fl [.bool (fin x)] _ rfl rfl (fun u hu => by rw [List.mem_singleton] at hu; rw [hu]; rfl) rfl HFN.out (by decide) HSW.out ?_
          intro fv2 w15 ho15 hb15 ha15
          obtain ⟨a10, c10, hfv2, -⟩ := own_slice ho15
          have HFV2 := Lib.hid hfv2
          clear hfv2
          have hnd : fv.ownBlock ≠ some db := fun e => by
            obtain ⟨cs, hc⟩ := own_type HAU14.out.own.fl e
            rw [HAU14.out.row] at hc; injection hc with hc; injection hc with _ hc; exact absurd hc (by decide)
          have hnx : fv.ownBlock ≠ some xb := fun e => by
            obtain ⟨cs, hc⟩ := own_type HAU14.out.own.fl e
            rw [HC14.out.2.row] at hc; injection hc with hc; injection hc with _ hc; exact absurd hc (by decide)
          have hr15 := (ha15.block db (Array.getElem?_eq_some_iff.1 HAU14.out.row).1 hnd).trans HAU14.out.row
          have HC15 : Hid (w15.cell? ⟨db, 258, none⟩ = some fv ∧ BoxS w15 xb x) := Lib.hid ⟨by rw [cell_of_row w15 db 258 _ _ _ hr15]; exact dfC_fv _ _ _ _, HC14.out.2.of (ha15.block xb HC14.out.2.lt hnx)⟩
          have HZ15 := Lib.hid (frozen_of_row w15 db 258 _ _ hr15)
          have HAU16 := Lib.hid (HAU14.out.pushF ho15 hb15 ha15)
          clear hr15 hnx hnd ho15 hb15 ha15 HAU14 HC14
          refine wpList_nil ?_
          refine mix_on hK HC15.out ?_
          clear hK K
          refine mix_seg (seg := [_]) (rest := []) rfl HC15.out ?_
          intro ι hι F2 hF
          simp only [Act.put, List.setIfInBounds_toArray, List.set_cons_zero, List.set_cons_succ]
          iterate 1 (go_big_quiet_step (fail))
          refine wpQuiet_nil ?_
          clear hF hι F2
          show wpList _ _ _ _ _ _
          have c15 := HC15.out.1
          have z15 := HZ15.out
          rw [HFV2.out] at HAU16 ⊢
          go_wp2_with fail
          refine NoPanic.normal ?_
          clear c15 z15
          have HMK2 : Hid (Mk into fin c s0 Ok (puts (into x) L c) (R ++ [rowTo (into x) L c]) (F ++ [fin x])) := Lib.hid (HMK.out.step (by rw [HNR.out]; exact hx.out) HOK.out)
          go_wp2_with fail
          go_roundw
          case rel => exact ⟨n + 1, _, _, _, _, _, _, _, by rw [HWN.out], by rw [List.length_append, List.length_singleton, HNR.out], HAU16, HMK2, HA⟩
          case measure => rw [HWN.out]; exact Df.meas (Nat.lt_of_lt_of_le HN.out HLK.out)
    · have hdd : decide ((n : Int) < (L.length : Int)) = false := decide_eq_false (by omega)
      have hd2 : decide (n < L.length) = false := decide_eq_false hlt
      have HE : Hid (R.length = L.length) := Lib.hid (by have := HNR.out; have := HMK.out.len; omega)
      obtain ⟨a2, k2, hnv, -⟩ := own_slice HAU.out.own.nx
      obtain ⟨a3, k3, hfv, -⟩ := own_slice HAU.out.own.fl
      have HNV := Lib.hid hnv
      have HFV := Lib.hid hfv
      have HROWD := Lib.hid HAU.out.row
      rw [hnv, hfv] at HROWD
      clear hnv hfv hlt
      go_wp2_with (first
        | (refine wpList_load_row rfl 28 _ rfl db rfl 28 (dfC of nc (.slice a2 R.length k2) (.slice a3 F.length k3)) (0, 0) _ HROWD.out Tryd.underlying28 rfl (sizeDf of nc _ _) ?_)
        | (refine wpList_store_df rfl (.tmp 10) (.tmp 70) rfl rb of nc a2 a3 R.length F.length k2 k3 _ rfl rfl HAU.out.res (dfC_size _ _ _ _) ?_))
      refine bodyPost_ret (v := .agg (dfC of nc (.slice a2 R.length k2) (.slice a3 F.length k3))) (results_cell_row (p := 10) Tryd.results40 _ _ rb 28 _ (0, 0) _ rfl (setRow_heap w4 _ _ _ _ _ HAU.out.res) Tryd.underlying28 rfl (sizeDf of nc _ _)) rfl ?_
      rw [hs.out]
      have hset : ∀ k, k ≠ rb → (w4.setRow rb (dfC of nc (.slice a2 R.length k2) (.slice a3 F.length k3))).heap[k]? = w4.heap[k]? := fun k hk => setRow_other _ _ _ _ hk
      have hlow := HAU.out.low
      refine ⟨HAU.out.bel.trans ⟨rfl, rfl, rfl, by simp, fun k hk _ => hset k (by omega)⟩, .inl ⟨L, R, F, .slice a2 R.length k2, .slice a3 F.length k3, vs, rfl, ?_, HMK.out, HE.out, fun q hq => ?_, HA.out⟩⟩
      · have := HAU.out.own.kept (w' := w4.setRow rb (dfC of nc (.slice a2 R.length k2) (.slice a3 F.length k3))) fun k cs t hc ht => hset k (fun e => by
          rw [e, HAU.out.res] at hc; injection hc with hc; injection hc with _ hc; subst hc
          rcases ht with h | h | h <;> exact absurd h (by decide))
        rw [HNV.out, HFV.out] at this
        exact this
      · have h1 := HAU.out.mka.pay q hq
        have h2 := HAU.out.mka.low.2.2 q hq
        exact h1.kept (hset _ (by omega))
end DfR
end Go.Proofs.YtmjjkamndlefmaaDoor
