/- Several texts in one. -/
import Derived.Test.YtplkhgmjcljjhaaDoorPqM6
import Derived.Test.YtplkhgmjcljjhaaDoorPqN0
import Derived.Test.YtplkhgmjcljjhaaDoorPq45
namespace Go.Proofs.YtplkhgmjcljjhaaDoor
open Go.RowKit Sets Nf Df Cls
namespace Mi
/-- d' is the least automaton of d. -/
def Lst (d d' : Dm) : Prop := ∃ (nc : Nat) (O : Nat → Nat) (L : List Nat), d.n = (nc : Int) ∧ (∀ s t, s < d.R.length → t < d.R.length → (O s = O t ↔ Alk nc (goR d.R) (fun s => d.F.getD s false) s t)) ∧ Fold d nc O L d'
theorem drt_row {d : Dm} (h : DRt d) : ∃ nc : Nat, d.n = (nc : Int) ∧ nc ≤ 256 ∧ RRt d.R nc := by
  obtain ⟨k, hn, hk, hof⟩ := pright_is h.pr
  refine ⟨k, hn, by omega, h.pos, fun l hl => ?_⟩
  have := h.row l hl
  exact ⟨by omega, this.2⟩
set_option maxHeartbeats 12800000 in
set_option maxRecDepth 100000 in
theorem least_wrong (x : Dx) (d : Dm) (w : World) (h : DAt w x d) (hf : DFine d) (hr : rightD d = false) :
    Calls Tryd.prog 9 #[.agg (dvC x d)] w fun e w' => e = .returned (.tuple #[.agg (dfC (fun _ => 0) 0 nilS nilS), .int .i64 1]) ∧ Below w.heap.size w w' := by
  have HM0 := Lib.hid h
  have HF := Lib.hid hf
  have HRI := Lib.hid hr
  clear h hf hr
  have hz := zeroD
  go_enter Tryd.func9, Tryd.ntmps9
  go_upto_region 1 with fail
  obtain ⟨s, hs⟩ : ∃ s, Hid (w.heap.size = s) := ⟨_, Lib.hid rfl⟩
  have hal := (Below.refl _ (w.alloc (.cells (dvC x d) 28))).alloc (Nat.le_refl _) (.cells (dfC (fun _ => 0) 0 nilS nilS) 28)
  have HX1 : Hid (BoxD ((w.alloc (.cells (dvC x d) 28)).alloc (.cells (dfC (fun _ => 0) 0 nilS nilS) 28)) s x d) := Lib.hid (by rw [← hs.out]; exact (BoxD.new w x d).stay hal)
  have HR1 : Hid (((w.alloc (.cells (dvC x d) 28)).alloc (.cells (dfC (fun _ => 0) 0 nilS nilS) 28)).heap[s + 1]? = some (.cells (dfC (fun _ => 0) 0 nilS nilS) 28 (0, 0))) := Lib.hid (by rw [← hs.out]; exact DfR.new1 _ _ (by simp))
  have HB1 : Hid (Below s w ((w.alloc (.cells (dvC x d) 28)).alloc (.cells (dfC (fun _ => 0) 0 nilS nilS) 28))) := Lib.hid (by rw [← hs.out]; exact ((Below.refl _ _).alloc (Nat.le_refl _) _).alloc (by simp) _)
  rw [hs.out]
  clear hal
  generalize (w.alloc (.cells (dvC x d) 28)).alloc (.cells (dfC (fun _ => 0) 0 nilS nilS) 28) = w1 at *
  have HRD := Lib.hid (dright_any x d w1 (HM0.out.kept (hs.out ▸ HB1.out)) HF.out)
  rw [HRI.out] at HRD
  go_wp2_with (first
    | (refine wpList_load_df rfl _ rfl s x d rfl HX1.out ?_)
    | (go_at_call 12; refine HRD.out.mono ?_; rintro e w2 ⟨rfl, hb2⟩; have HB2 := Lib.hid (HB1.out.trans (hb2.mono (Nat.le_of_lt HX1.out.lt))); have HR2 : Hid (w2.heap[s + 1]? = some (.cells (dfC (fun _ => 0) 0 nilS nilS) 28 (0, 0))) := Lib.hid ((hb2.block _ (Array.getElem?_eq_some_iff.1 HR1.out).1).trans HR1.out); have HSZ : Hid (s ≤ w2.heap.size) := Lib.hid (Nat.le_trans (Nat.le_of_lt HX1.out.lt) hb2.size); clear hb2)
    | (refine wpList_build_z rfl rfl ?_)
    | (refine wpList_store_df rfl (.tmp 2) (.tmp 7) rfl (s + 1) (fun _ => 0) 0 none none 0 0 0 0 _ rfl rfl HR2.out (dfC_size _ _ _ _) ?_))
  refine bodyPost_ret (v := .tuple #[.agg (dfC (fun _ => 0) 0 nilS nilS), .int .i64 1]) (res_cell_tmp (p := 2) (q := 3) Tryd.results9 _ _ (s + 1) 28 _ (0, 0) _ (.int .i64 1) rfl rfl (setRow_heap w2 _ _ _ _ _ HR2.out) Tryd.underlying28 rfl (sizeDf _ _ _ _)) rfl ⟨rfl, ?_⟩
  rw [hs.out]
  exact But.below HB2.out (But.setRow _ _ _) (by omega) HSZ.out
set_option maxHeartbeats 12800000 in
set_option maxRecDepth 100000 in
theorem least_any (x : Dx) (d : Dm) (w : World) (h : DAt w x d) (hf : DFine d) (hr : DRt d) (hn : d.R.length ≤ 1000) (hmn : (d.R.length : Int) * d.n ≤ 100000) :
    Calls Tryd.prog 9 #[.agg (dvC x d)] w fun e w' => ∃ z d', e = .returned (.tuple #[.agg (dvC z d'), .int .i64 0]) ∧ Lst d d' ∧ OwnDm w.heap.size w' z d' ∧ Below w.heap.size w w' := by
  have HM0 := Lib.hid h
  have HF := Lib.hid hf
  have HRI := Lib.hid ((dright_iff d).2 hr)
  obtain ⟨nc, hdn, hnc, hrr⟩ := drt_row hr
  have HMN : Hid (d.R.length * nc ≤ 100000) := Lib.hid (by
    have h2 : ((d.R.length * nc : Nat) : Int) = (d.R.length : Int) * (nc : Int) := Int.natCast_mul _ _
    rw [hdn, ← h2] at hmn
    omega)
  have HRT := Lib.hid (And.intro hdn (And.intro hnc (And.intro hrr hr.fl)))
  have HN := Lib.hid hn
  clear h hf hr hdn hnc hrr hn hmn
  have hz := zeroD
  go_enter Tryd.func9, Tryd.ntmps9
  go_upto_region 1 with fail
  obtain ⟨s, hs⟩ : ∃ s, Hid (w.heap.size = s) := ⟨_, Lib.hid rfl⟩
  have hal := (Below.refl _ (w.alloc (.cells (dvC x d) 28))).alloc (Nat.le_refl _) (.cells (dfC (fun _ => 0) 0 nilS nilS) 28)
  have HX1 : Hid (BoxD ((w.alloc (.cells (dvC x d) 28)).alloc (.cells (dfC (fun _ => 0) 0 nilS nilS) 28)) s x d) := Lib.hid (by rw [← hs.out]; exact (BoxD.new w x d).stay hal)
  have HR1 : Hid (((w.alloc (.cells (dvC x d) 28)).alloc (.cells (dfC (fun _ => 0) 0 nilS nilS) 28)).heap[s + 1]? = some (.cells (dfC (fun _ => 0) 0 nilS nilS) 28 (0, 0))) := Lib.hid (by rw [← hs.out]; exact DfR.new1 _ _ (by simp))
  have HB1 : Hid (Below s w ((w.alloc (.cells (dvC x d) 28)).alloc (.cells (dfC (fun _ => 0) 0 nilS nilS) 28))) := Lib.hid (by rw [← hs.out]; exact ((Below.refl _ _).alloc (Nat.le_refl _) _).alloc (by simp) _)
  rw [hs.out]
  clear hal
  generalize (w.alloc (.cells (dvC x d) 28)).alloc (.cells (dfC (fun _ => 0) 0 nilS nilS) 28) = w1 at *
  have HRD := Lib.hid (dright_any x d w1 (HM0.out.kept (hs.out ▸ HB1.out)) HF.out)
  rw [HRI.out] at HRD
  go_upto_region 3 with (first
    | (refine wpList_load_df rfl _ rfl s x d rfl HX1.out ?_)
    | (go_at_call 12; refine HRD.out.mono ?_; rintro e w2 ⟨rfl, hb2⟩; have HB2 := Lib.hid (HB1.out.trans (hb2.mono (Nat.le_of_lt HX1.out.lt))); have HX2 := Lib.hid (HX1.out.stay hb2); have HR2 : Hid (w2.heap[s + 1]? = some (.cells (dfC (fun _ => 0) 0 nilS nilS) 28 (0, 0))) := Lib.hid ((hb2.block _ (Array.getElem?_eq_some_iff.1 HR1.out).1).trans HR1.out); clear hb2))
  clear HX1 HR1 HB1 HRD hz
  clear w1
  have HB3 : Hid (Below s w w2.drew) := Lib.hid HB2.out.drew
  have HX3 : Hid (BoxD w2.drew s x d) := Lib.hid ⟨HX2.out.row⟩
  have HR3 : Hid (w2.drew.heap[s + 1]? = some (.cells (dfC (fun _ => 0) 0 nilS nilS) 28 (0, 0))) := HR2
  clear HB2 HX2 HR2
  refine region_mix [(false, 0), (false, 1), (true, 2), (true, 3), (true, 4)] (fun w' => BoxD w' s x d) (by kernel_rfl) (by kernel_rfl) HX3.out ?_
  simp only [planOps, List.map_cons, List.map_nil, List.getD_cons_zero, List.getD_cons_succ, List.length_cons, List.length_nil, List.drop_succ_cons, List.drop_zero]
  refine mix_seg (seg := [_, _]) rfl HX3.out ?_
  intro ι hι F hF
  have f2 := Lib.hid hF
  refine BigFrame.wpQuiet_want rfl (fun K hK => ?_); refine quiet_load_row 28 _ rfl s rfl 28 (dvC x d) (0, 0) _ (fun w' ⟨n, e⟩ => e ▸ (f2.out n).row) Tryd.underlying28 rfl (sizeDf _ _ _ _) ?_; refine hK _ ?_; clear hK K; simp only [Act.put, List.setIfInBounds_toArray, List.set_cons_zero, List.set_cons_succ]
  refine BigFrame.wpQuiet_want rfl (fun K hK => ?_); refine quiet_load_row 28 _ rfl s rfl 28 (dvC x d) (0, 0) _ (fun w' ⟨n, e⟩ => e ▸ (f2.out n).row) Tryd.underlying28 rfl (sizeDf _ _ _ _) ?_; refine hK _ ?_; clear hK K; simp only [Act.put, List.setIfInBounds_toArray, List.set_cons_zero, List.set_cons_succ]
  refine wpQuiet_nil ?_
  clear f2 hF hι F
  generalize w2.drew = w3 at *
  have HD3 := Lib.hid (HM0.out.kept (hs.out ▸ HB3.out))
  refine mix_eff (fun K' hK => ?_)
  go_wp2_with (go_at_call 25; refine (alike_any x d nc w3 HD3.out HRT.out.2.2.1 HRT.out.1 HRT.out.2.2.2 (by have := HN.out; omega) HRT.out.2.1 HMN.out).mono ?_; rintro e w4 ⟨o, O, rfl, h1, h2, h3, h4, hb4⟩; have HOR := Lib.hid h1; have HOL := Lib.hid h3; have HOK := Lib.hid h4; have HB4 := Lib.hid hb4; clear h1 h2 h3 h4 hb4)
  have HX4 := Lib.hid (HX3.out.stay HB4.out)
  have HR4 : Hid (w4.heap[s + 1]? = some (.cells (dfC (fun _ => 0) 0 nilS nilS) 28 (0, 0))) := Lib.hid ((HB4.out.block _ (Array.getElem?_eq_some_iff.1 HR3.out).1).trans HR3.out)
  have HB5 : Hid (Below s w w4) := Lib.hid (HB3.out.trans (HB4.out.mono (Nat.le_of_lt HX3.out.lt)))
  refine mix_on hK HX4.out ?_
  clear hK K' HB3 HR3 HD3 HB4 HX3
  have HD4 := Lib.hid (HM0.out.kept (hs.out ▸ HB5.out))
  refine mix_eff (fun K' hK => ?_)
  go_wp2_with (go_at_call 24; refine (folded_any x d nc o O w4 HD4.out HRT.out.2.2.1 HRT.out.1 HRT.out.2.2.2 HN.out HRT.out.2.1 HOR.out HOL.out HOK.out).mono ?_; rintro e w5 ⟨z, d', L, rfl, h1, h2, hb5⟩; have HFL := Lib.hid h1; have HOW := Lib.hid h2; have HB6 := Lib.hid hb5; clear h1 h2 hb5)
  have HX5 := Lib.hid (HX4.out.stay HB6.out)
  have HR5 : Hid (w5.heap[s + 1]? = some (.cells (dfC (fun _ => 0) 0 nilS nilS) 28 (0, 0))) := Lib.hid ((HB6.out.block _ (Array.getElem?_eq_some_iff.1 HR4.out).1).trans HR4.out)
  have HB7 : Hid (Below s w w5) := Lib.hid (HB5.out.trans (HB6.out.mono (Nat.le_of_lt HX4.out.lt)))
  refine mix_on hK HX5.out ?_
  clear hK K'
  refine mix_eff (fun K' hK => ?_)
  refine wpList_store_row rfl 28 (.tmp 2) (.tmp 11) rfl (s + 1) (dvC z d') rfl rfl 28 _ HR5.out (sizeDf _ _ _ _) (by unfold dvC; rw [dfC_size, dfC_size]) (oneDf _ _ _ _ _ _ _ _) ?_
  refine wpList_nil ?_
  have HX6 : BoxD (w5.setRow (s + 1) (dvC z d')) s x d := ⟨(setRow_other _ _ _ _ (by omega)).trans HX5.out.row⟩
  refine mix_on hK HX6 ?_
  clear hK K' HX6
  show wpList _ _ _ _ _ _
  go_wp2_with fail
  refine NoPanic.normal ?_
  go_wp2_with fail
  refine bodyPost_ret (v := .tuple #[.agg (dvC z d'), .int .i64 0]) (res_cell_tmp (p := 2) (q := 3) Tryd.results9 _ _ (s + 1) 28 _ (0, 0) _ (.int .i64 0) rfl rfl (setRow_heap w5 _ _ _ _ _ HR5.out) Tryd.underlying28 rfl (sizeDf _ _ _ _)) rfl ⟨z, d', rfl, ⟨nc, O, L, HRT.out.1, HOK.out, HFL.out⟩, ?_, ?_⟩
  · obtain ⟨vs, ho⟩ := HOW.out
    have h4 := ho.kept (w' := w5.setRow (s + 1) (dvC z d')) fun k cs t hc ht => setRow_other _ _ _ _ (fun e => by
      rw [e, HR5.out] at hc; injection hc with hc; injection hc with _ hc; subst hc
      rcases ht with h | h | h <;> exact absurd h (by decide))
    have hsz : w.heap.size ≤ w4.heap.size := by rw [hs.out]; exact Nat.le_of_lt HX4.out.lt
    exact ⟨vs, own_mono h4.nx hsz, h4.len, fun j hj => own_mono (h4.each j hj) hsz, own_mono h4.fl hsz⟩
  · rw [hs.out]
    exact But.below HB7.out (But.setRow _ _ _) (by omega) (Nat.le_of_lt HX5.out.lt)
end Mi
end Go.Proofs.YtplkhgmjcljjhaaDoor
namespace Go.Proofs.YtplkhgmjcljjhaaDoor
open Df
namespace Mi
/-- No text tells a state of the one from a state of the other. -/
def Xa (nc : Nat) (d e : Dm) (s t : Nat) : Prop := ∀ l : List Nat, (∀ c ∈ l, c < nc) → d.F.getD (l.foldl (goR d.R) s) false = e.F.getD (l.foldl (goR e.R) t) false
section
variable {nc : Nat} {d e : Dm} {s t : Nat}
theorem Xa.step (h : Xa nc d e s t) {c : Nat} (hc : c < nc) : Xa nc d e (goR d.R s c) (goR e.R t c) := fun l hl => h (c :: l) (fun x hx => by
  rcases List.mem_cons.1 hx with rfl | hx
  · exact hc
  · exact hl x hx)
theorem Xa.left (h : Xa nc d e s t) {s' : Nat} (ha : Alk nc (goR d.R) (fun s => d.F.getD s false) s s') : Xa nc d e s' t := fun l hl => (ha l hl).symm.trans (h l hl)
theorem Xa.right (h : Xa nc d e s t) {t' : Nat} (ha : Alk nc (goR e.R) (fun s => e.F.getD s false) t t') : Xa nc d e s t' := fun l hl => (h l hl).trans (ha l hl)
theorem Xa.alkR (h : Xa nc d e s t) {t' : Nat} (h2 : Xa nc d e s t') : Alk nc (goR e.R) (fun s => e.F.getD s false) t t' := fun l hl => (h l hl).symm.trans (h2 l hl)
theorem Xa.alkL (h : Xa nc d e s t) {s' : Nat} (h2 : Xa nc d e s' t) : Alk nc (goR d.R) (fun s => d.F.getD s false) s s' := fun l hl => (h l hl).trans (h2 l hl).symm
end
/-- A numbering of the classes of states that are alike. -/
structure Ker (d : Dm) (nc : Nat) (O : Nat → Nat) : Prop where
  row : RRt d.R nc
  iff : ∀ s t, s < d.R.length → t < d.R.length → (O s = O t ↔ Alk nc (goR d.R) (fun s => d.F.getD s false) s t)
section
variable {nc : Nat} {d e : Dm} {O O2 : Nat → Nat}
theorem Ker.alk (h : Ker d nc O) {s : Nat} (hs : s < d.R.length) : Alk nc (goR d.R) (fun s => d.F.getD s false) s (rpO O s) :=
  (h.iff s _ hs (Nat.lt_of_le_of_lt (rpO_is O s).2 hs)).1 (rpO_is O s).1.symm
theorem Ker.lt (_ : Ker d nc O) {s : Nat} (hs : s < d.R.length) : rpO O s < d.R.length := Nat.lt_of_le_of_lt (rpO_is O s).2 hs
/-- States that stand for their classes. -/
def Rep (d : Dm) (O : Nat → Nat) (L : List Nat) : Prop := ∀ k ∈ L, k < d.R.length ∧ rpO O k = k
theorem Ker.rep (h : Ker d nc O) {s t : Nat} (hs : s < d.R.length ∧ rpO O s = s) (ht : t < d.R.length ∧ rpO O t = t) (ha : Alk nc (goR d.R) (fun s => d.F.getD s false) s t) : s = t := by
  have h1 := rpO_eq O ((h.iff s t hs.1 ht.1).2 ha)
  rw [hs.2, ht.2] at h1
  exact h1
structure Sync (nc : Nat) (d e : Dm) (L M : List Nat) : Prop where
  len : L.length = M.length
  xa : ∀ (j a b : Nat), L[j]? = some a → M[j]? = some b → Xa nc d e a b
theorem get_some {M : List Nat} {j : Nat} (h : j < M.length) : ∃ y, M[j]? = some y ∧ y ∈ M := ⟨M[j], List.getElem?_eq_getElem h, List.getElem_mem _⟩
theorem sync_ix {L M : List Nat} (h : Sync nc d e L M) (ke : Ker e nc O2) (hM : Rep e O2 M) (hMn : M.Nodup) {a b : Nat} (ha : a ∈ L) (hb : b < e.R.length ∧ rpO O2 b = b) (hx : Xa nc d e a b) : b ∈ M ∧ ix L a = ix M b := by
  obtain ⟨y, h3, hm⟩ := get_some (M := M) (j := ix L a) (by rw [← h.len]; exact ix_lt ha)
  obtain rfl : y = b := ke.rep (hM _ hm) hb ((h.xa _ _ _ (ix_get ha) h3).alkR hx)
  exact ⟨hm, (ix_at hMn h3).symm⟩
theorem sync_out {L M : List Nat} (h : Sync nc d e L M) (kd : Ker d nc O) (hL : Rep d O L) {a b : Nat} (ha : a ∉ L) (hra : a < d.R.length ∧ rpO O a = a) (hx : Xa nc d e a b) : b ∉ M := fun hb => by
  obtain ⟨j, hj⟩ := List.getElem?_of_mem hb
  obtain ⟨y, h1, hm⟩ := get_some (M := L) (j := j) (by rw [h.len]; exact (List.getElem?_eq_some_iff.1 hj).1)
  obtain rfl : y = a := kd.rep (hL _ hm) hra ((h.xa _ _ _ h1 hj).alkL hx)
  exact ha hm
theorem sync_put {L M : List Nat} (h : Sync nc d e L M) (kd : Ker d nc O) (ke : Ker e nc O2) (hL : Rep d O L) (hM : Rep e O2 M) (hMn : M.Nodup) {a b : Nat} (ha : a < d.R.length ∧ rpO O a = a) (hb : b < e.R.length ∧ rpO O2 b = b) (hx : Xa nc d e a b) :
    Sync nc d e (put L a) (put M b) ∧ Rep d O (put L a) ∧ Rep e O2 (put M b) ∧ (put M b).Nodup := by
  have hr1 : Rep d O (Df.put L a) := fun k hk => by
    rcases (mem_put _ _ _).1 hk with hk | rfl
    · exact hL k hk
    · exact ha
  have hr2 : Rep e O2 (Df.put M b) := fun k hk => by
    rcases (mem_put _ _ _).1 hk with hk | rfl
    · exact hM k hk
    · exact hb
  refine ⟨?_, hr1, hr2, put_nodup hMn b⟩
  by_cases hm : a ∈ L
  · rw [put_old hm, put_old (sync_ix h ke hM hMn hm hb hx).1]; exact h
  · have hm2 := sync_out h kd hL hm ha hx
    rw [put_new hm, put_new hm2]
    refine ⟨by rw [List.length_append, List.length_append, h.len]; rfl, fun j x y h1 h2 => ?_⟩
    by_cases hj : j < L.length
    · rw [List.getElem?_append_left hj] at h1
      rw [List.getElem?_append_left (by rw [← h.len]; exact hj)] at h2
      exact h.xa j x y h1 h2
    · have hj1 := (List.getElem?_eq_some_iff.1 h1).1
      rw [List.length_append] at hj1
      simp at hj1
      obtain rfl : j = L.length := by omega
      rw [List.getElem?_append_right (Nat.le_refl _), Nat.sub_self] at h1
      rw [List.getElem?_append_right (by rw [h.len]; exact Nat.le_refl _), h.len, Nat.sub_self] at h2
      simp at h1 h2
      rw [← h1, ← h2]; exact hx
abbrev inD (d : Dm) (O : Nat → Nat) : Nat → Nat → Nat := fun k c => rpO O (goR d.R k c)
theorem Ker.inRep (h : Ker d nc O) {s c : Nat} (hs : s < d.R.length) (hc : c < nc) : inD d O s c < d.R.length ∧ rpO O (inD d O s c) = inD d O s c :=
  ⟨h.lt (h.row.go hs hc).2.2, rpO_eq O (rpO_is O _).1⟩
theorem Xa.into (kd : Ker d nc O) (ke : Ker e nc O2) {s t c : Nat} (h : Xa nc d e s t) (hs : s < d.R.length) (ht : t < e.R.length) (hc : c < nc) : Xa nc d e (inD d O s c) (inD e O2 t c) :=
  ((h.step hc).left (kd.alk (kd.row.go hs hc).2.2)).right (ke.alk (ke.row.go ht hc).2.2)
theorem sync_puts {L M : List Nat} (h : Sync nc d e L M) (kd : Ker d nc O) (ke : Ker e nc O2) (hL : Rep d O L) (hM : Rep e O2 M) (hMn : M.Nodup) {s t : Nat} (hs : s < d.R.length) (ht : t < e.R.length) (hx : Xa nc d e s t) :
    ∀ c, c ≤ nc → Sync nc d e (puts (inD d O s) L c) (puts (inD e O2 t) M c) ∧ Rep d O (puts (inD d O s) L c) ∧ Rep e O2 (puts (inD e O2 t) M c) ∧ (puts (inD e O2 t) M c).Nodup
  | 0, _ => ⟨h, hL, hM, hMn⟩
  | c + 1, hc => by
    obtain ⟨h1, h2, h3, h4⟩ := sync_puts h kd ke hL hM hMn hs ht hx c (by omega)
    exact sync_put h1 kd ke h2 h3 h4 (kd.inRep hs (by omega)) (ke.inRep ht (by omega)) (hx.into kd ke hs ht (by omega))
theorem gn_sync (kd : Ker d nc O) (ke : Ker e nc O2) (hx : Xa nc d e 0 0) : ∀ (i : Nat) (L M : List Nat), Gn (inD d O) nc (rpO O 0) i L → Gn (inD e O2) nc (rpO O2 0) i M → Sync nc d e L M ∧ Rep d O L ∧ Rep e O2 M ∧ M.Nodup
  | 0, L, M, h1, h2 => by
    cases h1
    cases h2
    refine ⟨⟨rfl, fun j a b h1 h2 => ?_⟩, fun k hk => ?_, fun k hk => ?_, by simp⟩
    · have hj := (List.getElem?_eq_some_iff.1 h1).1
      simp at hj
      subst hj
      simp at h1 h2
      subst h1
      subst h2
      exact (hx.left (kd.alk kd.row.pos)).right (ke.alk ke.row.pos)
    · rw [List.mem_singleton] at hk; subst hk
      exact ⟨kd.lt kd.row.pos, rpO_eq O (rpO_is O 0).1⟩
    · rw [List.mem_singleton] at hk; subst hk
      exact ⟨ke.lt ke.row.pos, rpO_eq O2 (rpO_is O2 0).1⟩
  | i + 1, _, _, .step (L := L) (s := s) h1 hs, .step (L := M) (s := t) h2 ht => by
    obtain ⟨a1, a2, a3, a4⟩ := gn_sync kd ke hx i L M h1 h2
    exact sync_puts a1 kd ke a2 a3 a4 (a2 s (List.mem_of_getElem? hs)).1 (a3 t (List.mem_of_getElem? ht)).1 (a1.xa i s t hs ht) nc (Nat.le_refl _)
theorem gn_prefix {into : Nat → Nat → Nat} {s0 : Nat} : ∀ (n : Nat) (L : List Nat), Gn into nc s0 n L → ∀ m, m < n → ∃ K s, Gn into nc s0 m K ∧ K[m]? = some s
  | 0, _, _, m, hm => absurd hm (Nat.not_lt_zero _)
  | n + 1, _, .step (L := L) (s := s) h hs, m, hm => by
    by_cases e : m = n
    · subst e; exact ⟨L, s, h, hs⟩
    · exact gn_prefix n L h m (by omega)
/-- What is taken settles what is made. -/
theorem fold_unique (kd : Ker d nc O) (ke : Ker e nc O2) {L M : List Nat} {d' e' : Dm} (h1 : Fold d nc O L d') (h2 : Fold e nc O2 M e') (hx : Xa nc d e 0 0) : d'.R = e'.R ∧ d'.F = e'.F := by
  have hlen : d'.R.length = e'.R.length := by
    rcases Nat.lt_trichotomy d'.R.length e'.R.length with h | h | h
    · exfalso
      obtain ⟨K, s, hK, hs⟩ := gn_prefix _ _ h2.gn _ h
      have := (gn_sync kd ke hx _ _ _ h1.gn hK).1.len
      have h3 := (List.getElem?_eq_some_iff.1 hs).1
      have := h1.all
      omega
    · exact h
    · exfalso
      obtain ⟨K, s, hK, hs⟩ := gn_prefix _ _ h1.gn _ h
      have := (gn_sync kd ke hx _ _ _ hK h2.gn).1.len
      have h3 := (List.getElem?_eq_some_iff.1 hs).1
      have := h2.all
      omega
  have hs := gn_sync kd ke hx _ L M h1.gn (hlen ▸ h2.gn)
  obtain ⟨a1, a2, a3, a4⟩ := hs
  have hget : ∀ i, i < d'.R.length → ∃ a b, L[i]? = some a ∧ M[i]? = some b ∧ Xa nc d e a b ∧ a < d.R.length ∧ b < e.R.length := fun i hi => by
    have hl : i < L.length := by rw [← h1.all]; exact hi
    have hm : i < M.length := by rw [← a1.len]; exact hl
    have e1 : L[i]? = some L[i] := List.getElem?_eq_getElem hl
    have e2 : M[i]? = some M[i] := List.getElem?_eq_getElem hm
    exact ⟨_, _, e1, e2, a1.xa _ _ _ e1 e2, (a2 _ (List.getElem_mem _)).1, (a3 _ (List.getElem_mem _)).1⟩
  constructor
  · apply List.ext_getElem?
    intro i
    by_cases hi : i < d'.R.length
    · obtain ⟨a, b, e1, e2, hab, ha, hb⟩ := hget i hi
      obtain ⟨r1, r2⟩ := h1.mki.row i a hi e1
      obtain ⟨r3, r4⟩ := h2.mki.row i b (by rw [← hlen]; exact hi) e2
      rw [r1, r3]
      congr 1
      refine List.map_congr_left (fun c hc => ?_)
      rw [List.mem_range] at hc
      congr 1
      exact (sync_ix a1 ke a3 a4 (r2 c hc) (ke.inRep hb hc) (hab.into kd ke ha hb hc)).2
    · rw [List.getElem?_eq_none (by omega), List.getElem?_eq_none (by omega)]
  · apply List.ext_getElem?
    intro i
    by_cases hi : i < d'.R.length
    · obtain ⟨a, b, e1, e2, hab, ha, hb⟩ := hget i hi
      rw [h1.mki.fin i a hi e1, h2.mki.fin i b (by rw [← hlen]; exact hi) e2]
      exact congrArg some (hab [] (fun _ hx => by cases hx))
    · have f1 := h1.mki.flen
      have f2 := h2.mki.flen
      rw [List.getElem?_eq_none (by omega), List.getElem?_eq_none (by omega)]
/-- The rows of what is made. -/
theorem Fold.rrt {L : List Nat} {d' : Dm} (h : Fold d nc O L d') : RRt d'.R nc ∧ d'.F.length = d'.R.length := by
  refine ⟨⟨by rw [h.all]; exact (List.getElem?_eq_some_iff.1 h.mki.hd).1, fun l hl => ?_⟩, h.mki.flen⟩
  obtain ⟨i, hi⟩ := List.getElem?_of_mem hl
  have hiR := (List.getElem?_eq_some_iff.1 hi).1
  obtain ⟨s, hs⟩ : ∃ s, L[i]? = some s := ⟨_, List.getElem?_eq_getElem (by rw [← h.all]; exact hiR)⟩
  obtain ⟨h1, h2⟩ := h.mki.row i s hiR hs
  rw [hi] at h1
  injection h1 with h1
  subst h1
  refine ⟨by simp, fun k hk => ?_⟩
  obtain ⟨c, hc, rfl⟩ := List.mem_map.1 hk
  have := ix_lt (h2 c (List.mem_range.1 hc))
  rw [h.all]
  omega
theorem Fold.go {L : List Nat} {d' : Dm} (h : Fold d nc O L d') {i c s : Nat} (hi : L[i]? = some s) (hc : c < nc) : L[goR d'.R i c]? = some (inD d O s c) := by
  have hiL := (List.getElem?_eq_some_iff.1 hi).1
  obtain ⟨h1, h2⟩ := h.mki.row i s (by rw [h.all]; exact hiL) hi
  unfold goR
  rw [List.getD_eq_getElem?_getD (l := d'.R), h1, Option.getD_some, List.getD_eq_getElem?_getD, List.getElem?_map, List.getElem?_range hc]
  exact ix_get (h2 _ hc)
/-- State by state: what is made takes what stands for it takes. -/
theorem Fold.xa (kd : Ker d nc O) {L : List Nat} {d' : Dm} (h : Fold d nc O L d') : ∀ (l : List Nat) (i s : Nat), (∀ c ∈ l, c < nc) → L[i]? = some s → s < d.R.length → d'.F.getD (l.foldl (goR d'.R) i) false = d.F.getD (l.foldl (goR d.R) s) false
  | [], i, s, _, hi, _ => by
    have hiL := (List.getElem?_eq_some_iff.1 hi).1
    show d'.F.getD i false = _
    rw [List.getD_eq_getElem?_getD, h.mki.fin i s (by rw [h.all]; exact hiL) hi]; rfl
  | c :: l, i, s, hl, hi, hs => by
    have hc := hl c (List.mem_cons_self ..)
    have hl2 : ∀ x ∈ l, x < nc := fun x hx => hl x (List.mem_cons_of_mem _ hx)
    rw [List.foldl_cons, List.foldl_cons, h.xa kd l _ _ hl2 (h.go hi hc) (kd.inRep hs hc).1]
    exact (kd.alk (kd.row.go hs hc).2.2 l hl2).symm
theorem Fold.cross (kd : Ker d nc O) {L : List Nat} {d' : Dm} (h : Fold d nc O L d') : Xa nc d' d 0 0 := fun l hl => by
  rw [h.xa kd l 0 _ hl h.mki.hd (kd.lt kd.row.pos)]
  exact (kd.alk kd.row.pos l hl).symm
end
end Mi
end Go.Proofs.YtplkhgmjcljjhaaDoor
namespace Go.Proofs.YtplkhgmjcljjhaaDoor
open Go.RowKit Sets Nf Df Cls
namespace Mi
section
variable {nc : Nat} {a b a' b' d d' : Dm}
theorem Lst.few (h : Lst d d') : d'.R.length ≤ d.R.length := by
  obtain ⟨nc, O, L, hn, hk, hf⟩ := h
  rw [hf.all]
  exact nodup_few hf.mki.nd (fun y hy => (hf.mki.ok y hy).1)
theorem Lst.drt (h : Lst d d') (hr : DRt d) : DRt d' := by
  obtain ⟨nc, O, L, hn, hk, hf⟩ := h
  obtain ⟨h1, h2⟩ := hf.rrt
  refine ⟨by rw [hf.of, hf.n]; exact hr.pr, h1.pos, h2, fun l hl => ?_⟩
  have := h1.row l hl
  exact ⟨by rw [hf.n]; omega, this.2⟩
theorem Lst.part (h : Lst d d') : d'.of = d.of ∧ d'.n = d.n := by
  obtain ⟨nc, O, L, hn, hk, hf⟩ := h
  exact ⟨hf.of, hf.n⟩
theorem Lst.cross (h : Lst d d') (hr : DRt d) (hn : d.n = (nc : Int)) : Xa nc d' d 0 0 := by
  obtain ⟨k, O, L, hn2, hk, hf⟩ := h
  obtain rfl : nc = k := by omega
  obtain ⟨k, hk1, -, hrr⟩ := drt_row hr
  obtain rfl : nc = k := by omega
  exact hf.cross ⟨hrr, hk⟩
theorem DRt.fineFew (h : DRt d) (hf : ∀ c, c < 256 → d.of c < 256) (hm : d.R.length ≤ 1000) : DFine d := by
  obtain ⟨k, hn, hk, hrr⟩ := drt_row h
  refine ⟨by omega, by rw [h.fl]; omega, fun l hl => ?_, hf⟩
  have := hrr.row l hl
  refine ⟨by omega, fun x hx => ?_⟩
  have := this.2 x hx
  exact ⟨by omega, by omega⟩
theorem lst_same (ha : DRt a) (hb : DRt b) (hn : a.n = b.n) (hnc : a.n = (nc : Int)) (h1 : Lst a a') (h2 : Lst b b') : (a'.F = b'.F ∧ a'.R = b'.R) ↔ Xa nc a b 0 0 := by
  have c1 := h1.cross ha hnc
  have c2 := h2.cross hb (hn ▸ hnc)
  constructor
  · rintro ⟨e1, e2⟩ l hl
    rw [← c1 l hl, ← c2 l hl, e1, e2]
  · intro hx
    obtain ⟨k, O, L, hk, hker, hf⟩ := h1
    obtain ⟨k2, O2, L2, hk2, hker2, hf2⟩ := h2
    obtain ⟨k3, hk3, -, hr3⟩ := drt_row ha
    obtain ⟨k4, hk4, -, hr4⟩ := drt_row hb
    obtain rfl : nc = k := by omega
    obtain rfl : nc = k2 := by omega
    obtain rfl : nc = k3 := by omega
    obtain rfl : nc = k4 := by omega
    exact (fold_unique ⟨hr3, hker⟩ ⟨hr4, hker2⟩ hf hf2 hx).symm
end
set_option maxHeartbeats 12800000 in
set_option maxRecDepth 100000 in
theorem msame_any (x y : Dx) (a b : Dm) (nc : Nat) (w : World) (hA : DAt w x a) (hB : DAt w y b) (hfa : DFine a) (hfb : DFine b) (hra : DRt a) (hrb : DRt b) (hof : a.of = b.of) (hn : a.n = b.n) (hnc : a.n = (nc : Int))
    (ha : a.R.length ≤ 1000) (ha2 : (a.R.length : Int) * a.n ≤ 100000) (hb : b.R.length ≤ 1000) (hb2 : (b.R.length : Int) * b.n ≤ 100000) :
    Calls Tryd.prog 13 #[.agg (dvC x a), .agg (dvC y b)] w fun e w' => ∃ r, e = .returned (.bool r) ∧ (r = true ↔ Xa nc a b 0 0) ∧ Below w.heap.size w w' := by
  have HA := Lib.hid hA
  have HB := Lib.hid hB
  have HFA := Lib.hid hfa
  have HFB := Lib.hid hfb
  have HRA := Lib.hid hra
  have HRB := Lib.hid hrb
  have HN := Lib.hid hn
  have HNC := Lib.hid hnc
  have HSM := Lib.hid (And.intro ha (And.intro ha2 (And.intro hb hb2)))
  have HPQ : Hid (partC b.of b.n = partC a.of a.n) := Lib.hid (by rw [hof, hn])
  have HPE := Lib.hid (partEq a.of a.n)
  clear hA hB hfa hfb hra hrb hof hn hnc ha ha2 hb hb2
  have hz := zeroD
  go_enter Tryd.func13, Tryd.ntmps13
  go_upto_region 1 with fail
  obtain ⟨s, hs⟩ : ∃ s, Hid (w.heap.size = s) := ⟨_, Lib.hid rfl⟩
  have hal := (Below.refl _ (w.alloc (.cells (dvC x a) 28))).alloc (Nat.le_refl _) (.cells (dvC y b) 28)
  have HX1 : Hid (BoxD ((w.alloc (.cells (dvC x a) 28)).alloc (.cells (dvC y b) 28)) s x a) := Lib.hid (by rw [← hs.out]; exact (BoxD.new w x a).stay hal)
  have HY1 : Hid (BoxD ((w.alloc (.cells (dvC x a) 28)).alloc (.cells (dvC y b) 28)) (s + 1) y b) := Lib.hid ⟨by rw [← hs.out]; exact DfR.new1 _ _ (by simp)⟩
  have HB1 : Hid (Below s w ((w.alloc (.cells (dvC x a) 28)).alloc (.cells (dvC y b) 28))) := Lib.hid (by rw [← hs.out]; exact ((Below.refl _ _).alloc (Nat.le_refl _) _).alloc (by simp) _)
  rw [hs.out]
  clear hal
  generalize (w.alloc (.cells (dvC x a) 28)).alloc (.cells (dvC y b) 28) = w1 at *
  have HLA := Lib.hid (least_any x a w1 (HA.out.kept (hs.out ▸ HB1.out)) HFA.out HRA.out HSM.out.1 HSM.out.2.1)
  go_upto_region 4 with (first
    | (refine BigFrame.wpList_want rfl (fun K' hK' => ?_); refine wp_load_mid 24 _ rfl s 0 rfl (partC a.of a.n).toList _ (partC_mid _ _ _ _ _ _ HX1.out.row) Tryd.underlying24 rfl (sizePL _ _) ?_; rw [Array.toArray_toList]; refine hK' _ _ ?_; clear hK' K')
    | (refine BigFrame.wpList_want rfl (fun K' hK' => ?_); refine wp_load_mid 24 _ rfl (s + 1) 0 rfl (partC b.of b.n).toList _ (partC_mid _ _ _ _ _ _ HY1.out.row) Tryd.underlying24 rfl (sizePL _ _) ?_; rw [Array.toArray_toList, HPQ.out]; refine hK' _ _ ?_; clear hK' K')
    | (refine BigFrame.wpList_want rfl (fun K' hK' => ?_); refine wp_neq_rows 24 _ _ _ rfl (partC a.of a.n) (partC a.of a.n) rfl rfl (by kernel_rfl) true (fun w => HPE.out w) ?_; refine hK' _ _ ?_; clear hK' K')
    | (refine wpList_load_df rfl _ rfl s x a rfl HX1.out ?_)
    | (go_at_call 9; refine HLA.out.mono ?_; rintro e w2 ⟨z, a', rfl, h1, h2, hb2⟩; have HL1 := Lib.hid h1; have HO1 := Lib.hid h2.at; have HB2 := Lib.hid hb2; clear h1 h2 hb2)
    | (refine wpList_lay_dv rfl (.tmp 5) (.tmp 17) rfl z a' rfl rfl ?_))
  have HY2 := Lib.hid (HY1.out.stay HB2.out)
  have HBB : Hid (Below s w w2) := Lib.hid (HB1.out.trans (HB2.out.mono (Nat.le_of_lt HX1.out.lt)))
  have hal := (Below.refl w2.heap.size w2).alloc (Nat.le_refl _) (.cells (dvC z a') 28)
  have HZ3 := Lib.hid (BoxD.new w2 z a')
  have HO3 := Lib.hid (HO1.out.kept hal)
  have HY3 := Lib.hid (HY2.out.stay hal)
  have HB3 : Hid (Below s w (w2.alloc (.cells (dvC z a') 28))) := Lib.hid (HBB.out.trans (hal.mono (Nat.le_of_lt (Nat.lt_trans (Nat.lt_succ_self _) HY2.out.lt))))
  clear hal HBB HY2 HB2 HO1 HLA HX1 HY1 HB1 HPE HPQ
  generalize w2.heap.size = k1 at *
  generalize w2.alloc (.cells (dvC z a') 28) = w3 at *
  clear w1 w2
  have HLB := Lib.hid (least_any y b w3 (HB.out.kept (hs.out ▸ HB3.out)) HFB.out HRB.out HSM.out.2.2.1 HSM.out.2.2.2)
  go_upto_region 5 with (first
    | (refine wpList_load_df rfl _ rfl (s + 1) y b rfl HY3.out ?_)
    | (go_at_call 9; refine HLB.out.mono ?_; rintro e w4 ⟨u, b', rfl, h1, h2, hb2⟩; have HL2 := Lib.hid h1; have HO4 := Lib.hid h2.at; have HB4 := Lib.hid hb2; clear h1 h2 hb2)
    | (refine wpList_lay_dv rfl (.tmp 7) (.tmp 22) rfl u b' rfl rfl ?_))
  have HBB : Hid (Below s w w4) := Lib.hid (HB3.out.trans (HB4.out.mono (Nat.le_of_lt (Nat.lt_trans (Nat.lt_succ_self _) HY3.out.lt))))
  have hal := (Below.refl w4.heap.size w4).alloc (Nat.le_refl _) (.cells (dvC u b') 28)
  have HU5 := Lib.hid (BoxD.new w4 u b')
  have HZ5 := Lib.hid ((HZ3.out.stay HB4.out).stay hal)
  have HO5 := Lib.hid (HO4.out.kept hal)
  have HP5 := Lib.hid ((HO3.out.kept HB4.out).kept hal)
  have HSZ : Hid (s ≤ w4.heap.size) := Lib.hid (Nat.le_trans (Nat.le_of_lt (Nat.lt_trans (Nat.lt_succ_self _) HY3.out.lt)) HB4.out.size)
  have HB5 : Hid (Below s w (w4.alloc (.cells (dvC u b') 28))) := Lib.hid (HBB.out.trans (hal.mono HSZ.out))
  have HS5 : Hid (s ≤ (w4.alloc (.cells (dvC u b') 28)).heap.size) := Lib.hid (Nat.le_trans HSZ.out hal.size)
  clear hal HBB HB4 HO4 HO3 HB3 HZ3 HY3 HLB HSZ
  generalize w4.heap.size = k2 at *
  generalize w4.alloc (.cells (dvC u b') 28) = w5 at *
  clear w3 w4
  have HIF := Lib.hid (lst_same HRA.out HRB.out HN.out HNC.out HL1.out HL2.out)
  have hf1 := HL1.out.few
  have hf2 := HL1.out.drt HRA.out
  obtain ⟨k3, hk3, hk4, hr3⟩ := drt_row hf2
  have hbn := fun k => below_drewN (Below.refl w5.heap.size w5) k
  have E1 := Lib.hid (equalB_any z.b u.b z.bc u.bc a'.F b'.F w5 HP5.out.fl HO5.out.fl (by rw [hf2.fl]; have := HSM.out.1; omega))
  have E2 := Lib.hid (fun k => equalF_any z.a u.a z.ac u.ac a'.R b'.R (w5.drewN k) (HP5.out.kept (hbn k)).nx (HO5.out.kept (hbn k)).nx (by have := HSM.out.1; omega) (fun l hl => by have := hr3.row l hl; omega))
  clear hf1 hf2 hk3 hk4 hr3 k3 hbn
  have HRE : Hid (∀ k, Below w.heap.size w (w5.drewN k)) := Lib.hid (fun k => by rw [hs.out]; exact HB5.out.trans ((below_drewN (Below.refl _ _) k).mono HS5.out))
  have c0 := HZ5.out.c257
  have c1 := HZ5.out.c258
  have e0 := HU5.out.c257
  have e1 := HU5.out.c258
  by_cases q1 : a'.F = b'.F
  · by_cases q2 : a'.R = b'.R
    · have HR := Lib.hid (HIF.out.1 ⟨q1, q2⟩)
      rw [decide_eq_true q1] at E1
      rw [decide_eq_true q2] at E2
      clear q1 q2
      go_wp2_with (first | (go_at_call 30; refine E1.out.mono ?_; rintro e w6 ⟨rfl, j1, rfl⟩) | (go_at_call 31; refine (E2.out _).mono ?_; rintro e w7 ⟨rfl, j2, rfl⟩))
      go_ret
      exact ⟨true, rfl, ⟨fun _ => HR.out, fun _ => rfl⟩, by first | exact HRE.out _ | (rw [World.drewN_drewN]; exact HRE.out _)⟩
    · have HR := Lib.hid (fun h => q2 (HIF.out.2 h).2)
      rw [decide_eq_true q1] at E1
      rw [decide_eq_false q2] at E2
      clear q1 q2
      go_wp2_with (first | (go_at_call 30; refine E1.out.mono ?_; rintro e w6 ⟨rfl, j1, rfl⟩) | (go_at_call 31; refine (E2.out _).mono ?_; rintro e w7 ⟨rfl, j2, rfl⟩))
      go_ret
      exact ⟨false, rfl, ⟨fun h => (by cases h), fun h => absurd h HR.out⟩, by first | exact HRE.out _ | (rw [World.drewN_drewN]; exact HRE.out _)⟩
  · have HR := Lib.hid (fun h => q1 (HIF.out.2 h).1)
    rw [decide_eq_false q1] at E1
    clear q1
    go_wp2_with (first | (go_at_call 30; refine E1.out.mono ?_; rintro e w6 ⟨rfl, j1, rfl⟩))
    go_ret
    exact ⟨false, rfl, ⟨fun h => (by cases h), fun h => absurd h HR.out⟩, HRE.out _⟩
end Mi
end Go.Proofs.YtplkhgmjcljjhaaDoor
