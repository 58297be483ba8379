/- Several texts in one. -/
import Derived.Test.YtplkhgmjcljjhaaDoorPqM7
namespace Go.Proofs.YtplkhgmjcljjhaaDoor
open Sets Nf Df Cls
namespace Mi
section
variable {σ : Type} [DecidableEq σ] {into : σ → Nat → σ} {fin : σ → Bool} {s0 : σ} {Ok : σ → Prop} {L : List σ} {d e : Dm} {nc : Nat}
theorem done_run (h : Done into fin s0 Ok L d) (hn : d.n = (nc : Int)) : ∀ (l : List Nat) (i : Nat) (s : σ), (∀ c ∈ l, c < nc) → L[i]? = some s → L[l.foldl (goR d.R) i]? = some (l.foldl into s)
  | [], i, s, _, hi => hi
  | c :: l, i, s, hl, hi => by
    have hc := hl c (List.mem_cons_self ..)
    rw [List.foldl_cons, List.foldl_cons]
    refine done_run h hn l _ _ (fun x hx => hl x (List.mem_cons_of_mem _ hx)) ?_
    obtain ⟨nc', hn', -, hm⟩ := h.nc
    obtain rfl : nc = nc' := by omega
    obtain ⟨r1, r2⟩ := hm.row i s (by rw [h.all]; exact (List.getElem?_eq_some_iff.1 hi).1) hi
    have hg : goR d.R i c = ix L (into s c) := by
      unfold goR
      rw [List.getD_eq_getElem?_getD (l := d.R), r1, Option.getD_some, List.getD_eq_getElem?_getD, List.getElem?_map, List.getElem?_range hc]
      simp
    rw [hg]
    exact ix_get (r2 c hc)
theorem done_fin (h : Done into fin s0 Ok L d) {i : Nat} {s : σ} (hi : L[i]? = some s) : d.F.getD i false = fin s := by
  obtain ⟨nc', hn', -, hm⟩ := h.nc
  rw [List.getD_eq_getElem?_getD, hm.fin i s (by rw [h.all]; exact (List.getElem?_eq_some_iff.1 hi).1) hi]; rfl
theorem done_hd (h : Done into fin s0 Ok L d) : L[0]? = some s0 := by
  obtain ⟨nc', hn', -, hm⟩ := h.nc
  exact hm.hd
omit [DecidableEq σ] in
theorem fold_at (P : σ → Prop) (φ : σ → Nat) (hP : ∀ s c, P s → c < nc → P (into s c) ∧ goR e.R (φ s) c = φ (into s c)) : ∀ (l : List Nat) (s : σ), P s → (∀ c ∈ l, c < nc) → P (l.foldl into s) ∧ l.foldl (goR e.R) (φ s) = φ (l.foldl into s)
  | [], s, hs, _ => ⟨hs, rfl⟩
  | c :: l, s, hs, hl => by
    obtain ⟨h1, h2⟩ := hP s c hs (hl c (List.mem_cons_self ..))
    rw [List.foldl_cons, List.foldl_cons, h2]
    exact fold_at P φ hP l _ h1 (fun x hx => hl x (List.mem_cons_of_mem _ hx))
theorem xa_of (h : Done into fin s0 Ok L d) (hn : d.n = (nc : Int)) (P : σ → Prop) (φ : σ → Nat) (hP : ∀ s c, P s → c < nc → P (into s c) ∧ goR e.R (φ s) c = φ (into s c)) (hF : ∀ s, P s → fin s = e.F.getD (φ s) false) (h0 : P s0) : Xa nc d e 0 (φ s0) := fun l hl => by
  obtain ⟨h1, h2⟩ := fold_at P φ hP l s0 h0 hl
  rw [done_fin h (done_run h hn l 0 s0 hl (done_hd h)), h2]
  exact hF _ h1
end
theorem pair_run (a b : Dm) : ∀ (l : List Nat) (s : Nat × Nat), l.foldl (intoP a b) s = (l.foldl (goR a.R) s.1, l.foldl (goR b.R) s.2)
  | [], s => rfl
  | c :: l, s => by rw [List.foldl_cons, pair_run a b l]; rfl
theorem rc_run {σ : Type} {into : σ → Nat → σ} {nc : Nat} {s0 s : σ} (h : Rc into nc s0 s) : ∃ l : List Nat, (∀ c ∈ l, c < nc) ∧ l.foldl into s0 = s := by
  induction h with
  | start => exact ⟨[], fun _ h => (by cases h), rfl⟩
  | @step s c _ hc ih =>
    obtain ⟨l, h1, h2⟩ := ih
    refine ⟨l ++ [c], fun x hx => ?_, by rw [List.foldl_append, h2]; rfl⟩
    rcases List.mem_append.1 hx with hx | hx
    · exact h1 x hx
    · rw [List.mem_singleton] at hx; rw [hx]; exact hc
/-- The automaton of what just one takes has no final state just if no text tells the two apart. -/
theorem xor_none {a b x : Dm} {nc : Nat} {L : List (Nat × Nat)} (h : Done (intoP a b) (finP 3 a b) (0, 0) (OkP a b nc) L x) (hn : x.n = (nc : Int)) : (∀ f ∈ x.F, f = false) ↔ Xa nc a b 0 0 := by
  have hfl : x.F.length = L.length := by
    obtain ⟨nc', hn', -, hm⟩ := h.nc
    rw [hm.flen, h.all]
  have hfp : ∀ s : Nat × Nat, finP 3 a b s = false ↔ a.F.getD s.1 false = b.F.getD s.2 false := fun s => by
    show (a.F.getD s.1 false != b.F.getD s.2 false) = false ↔ _
    simp
  constructor
  · intro hf l hl
    have h1 := done_run h hn l 0 (0, 0) hl (done_hd h)
    have h2 := done_fin h h1
    have h3 : x.F.getD (l.foldl (goR x.R) 0) false = false := hf _ (getD_mem (by rw [hfl]; exact (List.getElem?_eq_some_iff.1 h1).1))
    rw [h3, pair_run] at h2
    exact (hfp _).1 h2.symm
  · intro hx f hf
    obtain ⟨i, hi⟩ := List.getElem?_of_mem hf
    have hiL : i < L.length := by rw [← hfl]; exact (List.getElem?_eq_some_iff.1 hi).1
    have h1 : L[i]? = some L[i] := List.getElem?_eq_getElem hiL
    have h2 := done_fin h h1
    rw [List.getD_eq_getElem?_getD, hi, Option.getD_some] at h2
    obtain ⟨l, h3, h4⟩ := rc_run (h.okL.2 _ (List.getElem_mem hiL)).2
    rw [h2, ← h4, pair_run]
    exact (hfp _).2 (hx l h3)
/-- The chapter's least automaton. -/
def K4 : Dm := ⟨cls (same L3), 4, [[1, 2, 1, 1], [1, 1, 1, 1], [1, 1, 3, 1], [1, 1, 1, 1]], [true, false, false, true]⟩
theorem k4_rrt : RRt K4.R 4 := ⟨by decide, by decide⟩
theorem k4_ker : Ker K4 4 id := ⟨k4_rrt, fun s t hs ht => by
  constructor
  · rintro rfl; exact fun _ _ => rfl
  · intro h
    have h0 := h [] (fun _ hx => by cases hx)
    have h1 := h [1] (fun c hx => by rw [List.mem_singleton] at hx; omega)
    have h2 := h [2] (fun c hx => by rw [List.mem_singleton] at hx; omega)
    have h3 := h [1, 2] (fun c hx => by simp at hx; omega)
    have hs' : s < 4 := hs
    have ht' : t < 4 := ht
    have key : ∀ s, s < 4 → ∀ t, t < 4 → K4.F.getD s false = K4.F.getD t false → K4.F.getD (goR K4.R s 2) false = K4.F.getD (goR K4.R t 2) false → K4.F.getD (goR K4.R (goR K4.R s 1) 2) false = K4.F.getD (goR K4.R (goR K4.R t 1) 2) false → s = t := by decide +kernel
    exact key s hs' t ht' h0 h2 h3⟩
theorem k4_fold : Fold K4 4 id [0, 1, 2, 3] K4 := by
  have g1 : puts (inD K4 id 0) [0] 4 = [0, 1, 2] := by decide +kernel
  have g2 : puts (inD K4 id 1) [0, 1, 2] 4 = [0, 1, 2] := by decide +kernel
  have g3 : puts (inD K4 id 2) [0, 1, 2] 4 = [0, 1, 2, 3] := by decide +kernel
  have g4 : puts (inD K4 id 3) [0, 1, 2, 3] 4 = [0, 1, 2, 3] := by decide +kernel
  have e1 : Gn (inD K4 id) 4 (rpO id 0) 1 [0, 1, 2] := g1 ▸ Gn.step (s := 0) .start rfl
  have e2 : Gn (inD K4 id) 4 (rpO id 0) 2 [0, 1, 2] := by have := Gn.step (s := 1) e1 rfl; rwa [g2] at this
  have e3 : Gn (inD K4 id) 4 (rpO id 0) 3 [0, 1, 2, 3] := by have := Gn.step (s := 2) e2 rfl; rwa [g3] at this
  have e4 : Gn (inD K4 id) 4 (rpO id 0) 4 [0, 1, 2, 3] := by have := Gn.step (s := 3) e3 rfl; rwa [g4] at this
  refine ⟨rfl, rfl, ⟨by decide, rfl, by decide, rfl, fun i s hi hs => ?_, fun i s hi hs => ?_, ?_, fun i s hi hs => ?_⟩, e4, rfl⟩
  · have key : ∀ i, i < 4 → K4.R[i]? = some ((List.range 4).map fun c => ((ix [0, 1, 2, 3] (inD K4 id i c) : Nat) : Int)) ∧ ∀ c, c < 4 → inD K4 id i c ∈ [0, 1, 2, 3] := by decide +kernel
    have k2 : ∀ i, i < 4 → [0, 1, 2, 3][i]? = some i := by decide
    obtain rfl : i = s := by have := k2 i hi; rw [this] at hs; injection hs
    exact key i hi
  · have key : ∀ i, i < 4 → K4.F[i]? = some (K4.F.getD i false) := by decide
    have k2 : ∀ i, i < 4 → [0, 1, 2, 3][i]? = some i := by decide
    obtain rfl : i = s := by have := k2 i hi; rw [this] at hs; injection hs
    exact key i hi
  · decide +kernel
  · have key : ∀ i, i < 4 → 0 < i → ∃ j, j < i ∧ ∃ c, c < 4 ∧ i = inD K4 id j c := by decide +kernel
    have k2 : ∀ i, i < 4 → [0, 1, 2, 3][i]? = some i := by decide
    have hi4 := (List.getElem?_eq_some_iff.1 hs).1
    obtain rfl : i = s := by have := k2 i hi4; rw [this] at hs; injection hs
    obtain ⟨j, hj, c, hc, e⟩ := key i hi4 hi
    have hj4 : j < 4 := Nat.lt_trans hj hi4
    exact ⟨j, j, c, hj, hj4, hc, k2 j hj4, e⟩
/-- Of the states of the chapter's machine those of its least automaton. -/
def ph5 (s : Nat × Bool) : Nat := if s = (0, false) then 0 else if s = (1, true) then 2 else if s = (2, true) then 3 else 1
theorem some_k4 {L : List (Nat × Bool)} {d : Dm} (h : Done (intoS (rdOf someM (cls (same L3)) 4)) (finS (rdOf someM (cls (same L3)) 4)) (0, false) (OkB someM (cls (same L3)) 4) L d) (hn : d.n = (4 : Nat)) : Xa 4 d K4 0 0 := by
  rw [some_rd] at h
  have h1 : ∀ s ∈ S5, ∀ c, c < 4 → intoS r5 s c ∈ S5 ∧ goR K4.R (ph5 s) c = ph5 (intoS r5 s c) := by decide +kernel
  have h2 : ∀ s ∈ S5, finS r5 s = K4.F.getD (ph5 s) false := by decide +kernel
  exact xa_of h hn (fun s => s ∈ S5) ph5 (fun s c hs hc => h1 s hs c hc) h2 (by decide)
/-- The least automaton of what takes what the chapter's takes. -/
theorem lst_k4 {d d' : Dm} (hr : DRt d) (hn : d.n = (4 : Nat)) (h : Lst d d') (hx : Xa 4 d K4 0 0) : d'.R = K4.R ∧ d'.F = K4.F := by
  obtain ⟨k, O, L, hk, hker, hf⟩ := h
  obtain ⟨k2, hk2, -, hr2⟩ := drt_row hr
  obtain rfl : k = 4 := by omega
  obtain rfl : k2 = 4 := by omega
  exact fold_unique ⟨hr2, hker⟩ k4_ker hf k4_fold hx
end Mi
end Go.Proofs.YtplkhgmjcljjhaaDoor
namespace Go.Proofs.YtplkhgmjcljjhaaDoor
open Go.RowKit Sets Nf Cls Df DfK DfR
namespace Mi
/-- What the chapter's automaton is. -/
structure Some5 (d : Dm) : Prop where
  of : d.of = cls (same L3)
  n : d.n = (4 : Nat)
  fine : DFine d
  rt : DRt d
  five : d.R.length = 5
  xa : Xa 4 d K4 0 0
set_option maxHeartbeats 12800000 in
set_option maxRecDepth 100000 in
theorem some12_any (w : World) (hT : Tab w) :
    Calls Tryd.prog 15 #[] w fun e w' => ∃ z d, e = .returned (.tuple #[.agg (dvC z d), .int .i64 0]) ∧ DAt w' z d ∧ Some5 d ∧ Below w.heap.size w w' := by
  have HG : Hid (0 < w.heap.size) := Lib.hid (World.block_lt_of_cell? _ _ (hT 0 (by decide)))
  have HT := Lib.hid hT
  clear hT
  have hz := zeroD
  have HP4 : Hid (prightB (cls (same L3)) (4 : Nat) = true) := Lib.hid (by have := psame_right L3; rwa [l3_n] at this)
  have HWH : Hid (Whole someM (cls (same L3))) := Lib.hid (psame_whole (fun S hS => by rw [some_st] at hS; exact hS))
  have HEND : Hid (∀ (w3 w4 : World) (e : Ending), BEnd someM (cls (same L3)) 4 none 0 w3 e w4 → ∃ z d, e = .returned (.tuple #[.agg (dvC z d), .int .i64 0]) ∧ OwnDm w3.heap.size w4 z d ∧ Some5 d ∧ Below w3.heap.size w3 w4) := Lib.hid (fun w3 w4 e ⟨hb, h⟩ => by
    rcases h with ⟨L, z, d, he, hof, hn, ho, hd, -, -⟩ | ⟨q, L, hq, -⟩
    · have hl := (ok_few (m := someM) (by decide) L hd.okL.1 (fun s hs => (hd.okL.2 s hs).1))
      exact ⟨z, d, he, ho, ⟨hof, hn, hd.fine (by omega), (dright_iff d).1 hd.right, some_five hd hn, some_k4 hd hn⟩, hb.below⟩
    · cases hq)
  go_enter Tryd.func15, Tryd.ntmps15
  go_upto_region 1 with fail
  obtain ⟨s, hs⟩ : ∃ s, Hid (w.heap.size = s) := ⟨_, Lib.hid rfl⟩
  have HR1 := Lib.hid (heap_alloc_new w (.cells (dfC (fun _ => 0) 0 nilS nilS) 28))
  have HB0 := Lib.hid ((Below.refl w.heap.size w).alloc (Nat.le_refl _) (.cells (dfC (fun _ => 0) 0 nilS nilS) 28))
  have HT1 := Lib.hid (HT.out.below HB0.out HG.out)
  rw [hs.out] at HR1 HB0 HG ⊢
  generalize w.alloc (.cells (dfC (fun _ => 0) 0 nilS nilS) 28) = w0 at *
  have HS1 : Hid (s ≤ w0.heap.size) := Lib.hid (by have := HB0.out.size; rw [hs.out] at this; exact this)
  have HG1 : Hid (0 < w0.heap.size) := Lib.hid (Nat.lt_of_lt_of_le HG.out HS1.out)
  go_wp2_with fail
  refine (some_any w0).mono ?_
  rintro e w1 ⟨x, rfl, ho, hb⟩
  have HM := Lib.hid ho.mat
  have HB1 := Lib.hid hb
  clear ho hb
  have HO1 := Lib.hid (of_any _ [97] _ (bytes_litN w1 [97] (by decide) #[.int .u8 97] rfl (by decide)))
  have HA1 : Hid (Below w1.heap.size w1 (w1.alloc (.cells #[.int .u8 97] 5))) := Lib.hid ((Below.refl _ _).alloc (Nat.le_refl _) _)
  go_wp2_with fail
  refine HO1.out.mono ?_
  rintro e w2 ⟨rfl, hb2⟩
  have HB2 := Lib.hid (HA1.out.trans (hb2.mono HA1.out.size))
  clear hb2 HO1 HA1
  have HO1 := Lib.hid (of_any _ [98] _ (bytes_litN w2 [98] (by decide) #[.int .u8 98] rfl (by decide)))
  have HA1 : Hid (Below w2.heap.size w2 (w2.alloc (.cells #[.int .u8 98] 5))) := Lib.hid ((Below.refl _ _).alloc (Nat.le_refl _) _)
  go_wp2_with fail
  refine HO1.out.mono ?_
  rintro e w3 ⟨rfl, hb3⟩
  have HB3 := Lib.hid (HB2.out.trans ((HA1.out.trans (hb3.mono HA1.out.size)).mono HB2.out.size))
  clear hb3 HO1 HA1
  have HO1 := Lib.hid (of_any _ [99] _ (bytes_litN w3 [99] (by decide) #[.int .u8 99] rfl (by decide)))
  have HA1 : Hid (Below w3.heap.size w3 (w3.alloc (.cells #[.int .u8 99] 5))) := Lib.hid ((Below.refl _ _).alloc (Nat.le_refl _) _)
  go_wp2_with fail
  refine HO1.out.mono ?_
  rintro e w4 ⟨rfl, hb4⟩
  have HB4 := Lib.hid (HB3.out.trans ((HA1.out.trans (hb4.mono HA1.out.size)).mono HB3.out.size))
  clear hb4 HO1 HA1
  have HRF := Lib.hid (Refine_any _ [ofN [97], ofN [98], ofN [99]] _ (sets_three w4 (ofN [97]) (ofN [98]) (ofN [99])) (by decide))
  have HA1 : Hid (Below w4.heap.size w4 (w4.alloc (.cells #[.int .u64 (wd (ofN [97]) 0), .int .u64 (wd (ofN [97]) 1), .int .u64 (wd (ofN [97]) 2), .int .u64 (wd (ofN [97]) 3), .int .u64 (wd (ofN [98]) 0), .int .u64 (wd (ofN [98]) 1), .int .u64 (wd (ofN [98]) 2), .int .u64 (wd (ofN [98]) 3), .int .u64 (wd (ofN [99]) 0), .int .u64 (wd (ofN [99]) 1), .int .u64 (wd (ofN [99]) 2), .int .u64 (wd (ofN [99]) 3)] 66))) := Lib.hid ((Below.refl _ _).alloc (Nat.le_refl _) _)
  have HLL : Hid ([ofN [97], ofN [98], ofN [99]] = L3) := Lib.hid rfl
  rw [HLL.out, l3_n] at HRF
  have HB5 := Lib.hid (HB1.out.trans (HB4.out.mono HB1.out.size))
  have HM4 := Lib.hid (HM.out.kept HB4.out)
  clear HB4 HB3 HB2 HM HB1
  obtain ⟨of, hof⟩ : ∃ of, Hid (cls (same L3) = of) := ⟨_, Lib.hid rfl⟩
  rw [hof.out] at HRF HP4 HWH HEND
  have HRR : Hid (∀ w5, Below w0.heap.size w0 w5 → w5.heap[s]? = some (.cells (dfC (fun _ => 0) 0 nilS nilS) 28 (0, 0))) := Lib.hid (fun w5 hb => (hb.block _ (Array.getElem?_eq_some_iff.1 HR1.out).1).trans HR1.out)
  go_wp2_with (first
    | (go_at_call 18; refine HRF.out.mono ?_; rintro e w5 ⟨rfl, hb5⟩; have HB6 := Lib.hid (HA1.out.trans (hb5.mono HA1.out.size)); have HM5 := Lib.hid (HM4.out.kept HB6.out); have HB7 := Lib.hid (HB5.out.trans (HB6.out.mono HB5.out.size)); clear hb5)
    | (go_at_call 17; refine (build_ok x someM of 4 none 0 w5 HM5.out some_fine some_rt (by decide) HP4.out HWH.out (HT1.out.below HB7.out HG1.out) (fun q hq => by cases hq) (fun q hq => by cases hq) (fun q hq => by cases hq) (by decide) (fun q hq => by cases hq)).mono ?_; intro e w6 hE; obtain ⟨z, d, rfl, hd1, hd2, hd3⟩ := HEND.out _ _ _ hE; have HD1 := Lib.hid hd1; have HD2 := Lib.hid hd2; have HB8 := Lib.hid (HB7.out.trans (hd3.mono HB7.out.size)); have HR6 := Lib.hid (HRR.out _ HB8.out); clear hE hd1 hd2 hd3)
    | (refine wpList_store_row rfl 28 (.tmp 0) (.tmp 12) rfl s (dvC z d) rfl rfl 28 _ HR6.out (sizeDf _ _ _ _) (by unfold dvC; rw [dfC_size, dfC_size]) (oneDf _ _ _ _ _ _ _ _) ?_))
  refine bodyPost_ret (v := .tuple #[.agg (dvC z d), .int .i64 0]) (res_cell_tmp (p := 0) (q := 1) Tryd.results15 _ _ s 28 _ (0, 0) _ (.int .i64 0) rfl rfl (setRow_heap w6 _ _ _ _ _ HR6.out) Tryd.underlying28 rfl (sizeDf _ _ _ _)) rfl ⟨z, d, rfl, ?_, HD2.out, ?_⟩
  · obtain ⟨vs, ho⟩ := HD1.out
    have h4 := ho.kept (w' := w6.setRow s (dvC z d)) fun k cs t hc ht => setRow_other _ _ _ _ (fun e => by
      rw [e, HR6.out] at hc; injection hc with hc; injection hc with _ hc; subst hc
      rcases ht with h | h | h <;> exact absurd h (by decide))
    exact OwnDm.at ⟨vs, h4⟩
  · rw [hs.out]
    exact But.below (HB0.out.trans (HB8.out.mono HS1.out)) (But.setRow _ _ _) (Nat.le_refl _) (by have h1 := HB0.out.size; have h2 := hs.out; have h3 := HB8.out.size; omega)
set_option maxHeartbeats 12800000 in
set_option maxRecDepth 100000 in
theorem awake12_any (w : World) (hT : Tab w) :
    Calls Tryd.prog 8 #[] w fun e w' => e = .returned (.bool true) ∧ Below w.heap.size w w' := by
  have HG : Hid (0 < w.heap.size) := Lib.hid (World.block_lt_of_cell? _ _ (hT 0 (by decide)))
  have HT := Lib.hid hT
  clear hT
  have hz := zeroD
  go_enter Tryd.func8, Tryd.ntmps8
  go_upto_region 2 with (first
    | (go_at_call 15; refine (some12_any w HT.out).mono ?_; rintro e w1 ⟨z, d, rfl, h1, h2, hb⟩; have HD1 := Lib.hid h1; have HS5 := Lib.hid h2; have HB1 := Lib.hid hb; clear h1 h2 hb)
    | (refine wpList_lay_dv rfl (.tmp 1) (.tmp 7) rfl z d rfl rfl ?_))
  have hal := (Below.refl w1.heap.size w1).alloc (Nat.le_refl _) (.cells (dvC z d) 28)
  have HX2 := Lib.hid (BoxD.new w1 z d)
  have HD2 := Lib.hid (HD1.out.kept hal)
  have HB2 := Lib.hid (HB1.out.trans (hal.mono HB1.out.size))
  clear hal HD1 HB1
  generalize w1.heap.size = k1 at *
  generalize w1.alloc (.cells (dvC z d) 28) = w2 at *
  clear w1
  have HSM : Hid (d.R.length ≤ 1000 ∧ (d.R.length : Int) * d.n ≤ 100000) := Lib.hid (by rw [HS5.out.five, HS5.out.n]; decide)
  have HLA := Lib.hid (least_any z d w2 HD2.out HS5.out.fine HS5.out.rt HSM.out.1 HSM.out.2)
  go_upto_region 3 with (first
    | (refine wpList_load_df rfl _ rfl k1 z d rfl HX2.out ?_)
    | (go_at_call 9; refine HLA.out.mono ?_; rintro e w4 ⟨u, d', rfl, h1, h2, hb2⟩; have HL2 := Lib.hid h1; have HO4 := Lib.hid h2.at; have HB4 := Lib.hid hb2; clear h1 h2 hb2)
    | (refine wpList_lay_dv rfl (.tmp 3) (.tmp 12) rfl u d' rfl rfl ?_))
  have hal := (Below.refl w4.heap.size w4).alloc (Nat.le_refl _) (.cells (dvC u d') 28)
  have HU5 := Lib.hid (BoxD.new w4 u d')
  have HX5 := Lib.hid ((HX2.out.stay HB4.out).stay hal)
  have HD5 := Lib.hid ((HD2.out.kept HB4.out).kept hal)
  have HO5 := Lib.hid (HO4.out.kept hal)
  have HB5 := Lib.hid ((HB2.out.trans (HB4.out.mono HB2.out.size)).trans (hal.mono (Nat.le_trans HB2.out.size HB4.out.size)))
  clear hal HB4 HO4 HB2 HD2 HX2 HLA
  generalize w4.heap.size = k2 at *
  generalize w4.alloc (.cells (dvC u d') 28) = w5 at *
  clear w2 w4
  have HK := Lib.hid (lst_k4 HS5.out.rt HS5.out.n HL2.out HS5.out.xa)
  have HRT := Lib.hid (HL2.out.drt HS5.out.rt)
  have HL4 : Hid (d'.R.length = 4) := Lib.hid (by rw [HK.out.1]; rfl)
  have c257 := HU5.out.c257
  rw [HL4.out] at c257
  have HFN : Hid (DFine d') := Lib.hid (Mi.DRt.fineFew HRT.out (by rw [HL2.out.part.1]; exact HS5.out.fine.of) (by rw [HL4.out]; decide))
  have HXA : Hid (Xa 4 d d' 0 0) := Lib.hid (fun l hl => ((HL2.out.cross HS5.out.rt HS5.out.n) l hl).symm)
  have HSA := Lib.hid (msame_any z u d d' 4 w5 HD5.out HO5.out HS5.out.fine HFN.out HS5.out.rt HRT.out HL2.out.part.1.symm HL2.out.part.2.symm HS5.out.n HSM.out.1 HSM.out.2 (by rw [HL4.out]; decide) (by rw [HL4.out, HL2.out.part.2, HS5.out.n]; decide))
  go_wp2_with (first
    | (refine BigFrame.wpList_want rfl (fun K' hK' => ?_); refine wp_load_dv _ rfl k1 z d rfl HX5.out ?_; refine hK' _ _ ?_; clear hK' K')
    | (refine BigFrame.wpList_want rfl (fun K' hK' => ?_); refine wp_load_dv _ rfl k2 u d' rfl HU5.out ?_; refine hK' _ _ ?_; clear hK' K')
    | (go_at_call 13; refine HSA.out.mono ?_; rintro e w6 ⟨r, rfl, hr, hb6⟩; have HB6 := Lib.hid hb6; obtain rfl := hr.2 HXA.out; clear hr hb6))
  go_ret
  exact ⟨rfl, HB5.out.trans (HB6.out.mono HB5.out.size)⟩
end Mi
end Go.Proofs.YtplkhgmjcljjhaaDoor
