/- Several texts in one. -/
import Derived.Test.YtplkhgmjcljjhaaDoorPqM8
import Derived.Test.YtplkhgmjcljjhaaDoorPq45
import Derived.Test.YtplkhgmjcljjhaaDoorPq12
namespace Go.Proofs.YtplkhgmjcljjhaaDoor
open Go.RowKit Sets Nf Df Cls
namespace Mi
theorem forIn_some {σ : Type} {P : Program} {w : World} (f : Nat → σ → Sem (ForInStep σ)) : ∀ (l : List Nat) (b : σ), (∀ i ∈ l, ∀ b, ∃ s, (f i b).run P w = .ok s w) → ∃ c, (forIn l b f).run P w = .ok c w
  | [], b, _ => ⟨b, rfl⟩
  | x :: l, b, h => by
    obtain ⟨s, hs⟩ := h x (by simp) b
    rw [List.forIn_cons, Sem.run_bind, hs]
    cases s with
    | done c => exact ⟨c, rfl⟩
    | yield c => exact forIn_some f l c (fun i hi => h i (by simp [hi]))
theorem run_forIn {σ : Type} {P : Program} {w : World} (f : Nat → σ → Sem (ForInStep σ)) (l : List Nat) (b : σ) (k : σ → Sem Bool) (h : ∀ i ∈ l, ∀ b, ∃ s, (f i b).run P w = .ok s w) (hk : ∀ c, ∃ r, (k c).run P w = .ok r w) :
    ∃ r, (((forIn l b f).run P w).andThen fun a w' => (k a).run P w') = .ok r w := by
  obtain ⟨c, hc⟩ := forIn_some f l b h
  rw [hc]
  exact hk c
theorem eqAny (of of' : Nat → Nat) (d : Nat) (w : World) : ∃ r, (Op.equalIn (d + 2) 22 (.agg (ofL of).toArray) (.agg (ofL of').toArray)).run Tryd.prog w = .ok r w := by
  have u3 := Tryd.underlying5
  have a3 : (isAgg 5).run Tryd.prog w = .ok false w := by kernel_rfl
  have z3 : (sizeOf 5).run Tryd.prog w = .ok 1 w := by kernel_rfl
  rw [Op.equalIn]
  simp only [Sem.run_bind, run_underlying Tryd.underlying22, Result.andThen_ok, z3]
  simp only [Std.Legacy.Range.forIn_eq_forIn_range', Std.Legacy.Range.size, Nat.sub_zero, Nat.add_sub_cancel, Nat.div_one]
  refine run_forIn _ _ _ _ ?_ (fun c => ?_)
  · intro i hi b
    simp at hi
    have hp : ∀ of : Nat → Nat, (part 5 (ofL of).toArray (i * 1)).run Tryd.prog w = .ok (.int .u8 (of i)) w := fun of => by
      unfold part
      simp only [Sem.run_bind, a3, Result.andThen_ok, Nat.mul_one, List.getElem?_toArray, ofL_get of i hi]
      rfl
    simp only [Sem.run_bind, hp, Result.andThen_ok, run_equalIn_int w (d) 5 .u8 .u8 _ _ u3]
    split <;> exact ⟨_, rfl⟩
  · obtain ⟨c1, c2⟩ := c
    cases c1 with
    | none => exact ⟨_, rfl⟩
    | some b => exact ⟨_, rfl⟩
theorem partNe (of of' : Nat → Nat) (n n' : Int) (hn : n ≠ n') (w : World) : (Op.equalIn 10000 24 (.agg (partC of n)) (.agg (partC of' n'))).run Tryd.prog w = .ok false w := by
  rw [show (10000 : Nat) = 9999 + 1 from rfl, run_equalIn_struct w 9999 24 _ _ (by kernel_rfl) (by kernel_rfl)]
  have hf : (Tryd.prog.fieldsOf 24).toList.map (fun f => (f.name, f.type, f.offset)) = [("Of", 22, 0), ("N", 3, 256)] := by kernel_rfl
  generalize (Tryd.prog.fieldsOf 24).toList = fs at hf ⊢
  obtain ⟨f1, fs1, rfl⟩ : ∃ f1 fs1, fs = f1 :: fs1 := by
    cases fs with
    | nil => simp at hf
    | cons a l => exact ⟨a, l, rfl⟩
  obtain ⟨f2, fs2, rfl⟩ : ∃ f2 fs2, fs1 = f2 :: fs2 := by
    cases fs1 with
    | nil => simp at hf
    | cons a l => exact ⟨a, l, rfl⟩
  obtain rfl : fs2 = [] := by
    cases fs2 with
    | nil => rfl
    | cons a l => simp at hf
  have h := hf
  simp only [List.map_cons, List.map_nil, List.cons.injEq, Prod.mk.injEq, and_true] at h
  obtain ⟨⟨n1, t1, o1⟩, n2, t2, o2⟩ := h
  unfold Op.eqFields
  rw [n1, t1, o1, if_pos (by decide)]
  simp only [Sem.run_bind, partO, Result.andThen_ok]
  obtain ⟨r, hr⟩ := eqAny of of' 9997 w
  rw [show (9999 : Nat) = 9997 + 2 from rfl, hr]
  cases r with
  | false => rfl
  | true =>
    simp only [Result.andThen_ok, Bool.not_true, Bool.false_eq_true, if_false]
    unfold Op.eqFields
    rw [n2, t2, o2, if_pos (by decide)]
    simp only [Sem.run_bind, partN', Result.andThen_ok]
    rw [run_equalIn_int w 9998 3 .i64 .i64 _ _ Tryd.underlying3]
    have hne : (n == n') = false := by rw [beq_eq_false_iff_ne]; exact hn
    simp only [Result.andThen_ok, hne]
    rfl
set_option maxHeartbeats 12800000 in
set_option maxRecDepth 100000 in
theorem msame_apart (x y : Dx) (a b : Dm) (w : World) (hn : a.n ≠ b.n) :
    Calls Tryd.prog 13 #[.agg (dvC x a), .agg (dvC y b)] w fun e w' => e = .returned (.bool false) ∧ Below w.heap.size w w' := by
  have HPE := Lib.hid (partNe a.of b.of a.n b.n hn)
  clear hn
  have hz := zeroD
  go_enter Tryd.func13, Tryd.ntmps13
  go_upto_region 1 with fail
  obtain ⟨s, hs⟩ : ∃ s, Hid (w.heap.size = s) := ⟨_, Lib.hid rfl⟩
  have hal := (Below.refl _ (w.alloc (.cells (dvC x a) 28))).alloc (Nat.le_refl _) (.cells (dvC y b) 28)
  have HX1 : Hid (BoxD ((w.alloc (.cells (dvC x a) 28)).alloc (.cells (dvC y b) 28)) s x a) := Lib.hid (by rw [← hs.out]; exact (BoxD.new w x a).stay hal)
  have HY1 : Hid (BoxD ((w.alloc (.cells (dvC x a) 28)).alloc (.cells (dvC y b) 28)) (s + 1) y b) := Lib.hid ⟨by rw [← hs.out]; exact DfR.new1 _ _ (by simp)⟩
  have HB1 : Hid (Below s w ((w.alloc (.cells (dvC x a) 28)).alloc (.cells (dvC y b) 28))) := Lib.hid (by rw [← hs.out]; exact ((Below.refl _ _).alloc (Nat.le_refl _) _).alloc (by simp) _)
  rw [hs.out]
  clear hal
  generalize (w.alloc (.cells (dvC x a) 28)).alloc (.cells (dvC y b) 28) = w1 at *
  go_wp2_with (first
    | (refine BigFrame.wpList_want rfl (fun K' hK' => ?_); refine wp_load_mid 24 _ rfl s 0 rfl (partC a.of a.n).toList _ (partC_mid _ _ _ _ _ _ HX1.out.row) Tryd.underlying24 rfl (sizePL _ _) ?_; rw [Array.toArray_toList]; refine hK' _ _ ?_; clear hK' K')
    | (refine BigFrame.wpList_want rfl (fun K' hK' => ?_); refine wp_load_mid 24 _ rfl (s + 1) 0 rfl (partC b.of b.n).toList _ (partC_mid _ _ _ _ _ _ HY1.out.row) Tryd.underlying24 rfl (sizePL _ _) ?_; rw [Array.toArray_toList]; refine hK' _ _ ?_; clear hK' K')
    | (refine BigFrame.wpList_want rfl (fun K' hK' => ?_); refine wp_neq_rows 24 _ _ _ rfl (partC a.of a.n) (partC b.of b.n) rfl rfl (by kernel_rfl) false (fun w => HPE.out w) ?_; refine hK' _ _ ?_; clear hK' K'))
  go_ret
  exact ⟨rfl, by rw [hs.out]; exact HB1.out⟩
set_option maxHeartbeats 12800000 in
set_option maxRecDepth 100000 in
theorem msame_wrong (x y : Dx) (a b : Dm) (w : World) (hA : DAt w x a) (hB : DAt w y b) (hfa : DFine a) (hfb : DFine b) (hra : rightD a = false) (hrb : rightD b = false) (hof : a.of = b.of) (hn : a.n = b.n) :
    Calls Tryd.prog 13 #[.agg (dvC x a), .agg (dvC y b)] w fun e w' => e = .returned (.bool false) ∧ Below w.heap.size w w' := by
  have HB := Lib.hid hB
  have HA := Lib.hid hA
  have HFA := Lib.hid hfa
  have HFB := Lib.hid hfb
  have HRA := Lib.hid hra
  have HRB := Lib.hid hrb
  have HPQ : Hid (partC b.of b.n = partC a.of a.n) := Lib.hid (by rw [hof, hn])
  have HPE := Lib.hid (partEq a.of a.n)
  clear hA hB hfa hfb hra hrb hof hn
  have hz := zeroD
  go_enter Tryd.func13, Tryd.ntmps13
  go_upto_region 1 with fail
  obtain ⟨s, hs⟩ : ∃ s, Hid (w.heap.size = s) := ⟨_, Lib.hid rfl⟩
  have hal := (Below.refl _ (w.alloc (.cells (dvC x a) 28))).alloc (Nat.le_refl _) (.cells (dvC y b) 28)
  have HX1 : Hid (BoxD ((w.alloc (.cells (dvC x a) 28)).alloc (.cells (dvC y b) 28)) s x a) := Lib.hid (by rw [← hs.out]; exact (BoxD.new w x a).stay hal)
  have HY1 : Hid (BoxD ((w.alloc (.cells (dvC x a) 28)).alloc (.cells (dvC y b) 28)) (s + 1) y b) := Lib.hid ⟨by rw [← hs.out]; exact DfR.new1 _ _ (by simp)⟩
  have HB1 : Hid (Below s w ((w.alloc (.cells (dvC x a) 28)).alloc (.cells (dvC y b) 28))) := Lib.hid (by rw [← hs.out]; exact ((Below.refl _ _).alloc (Nat.le_refl _) _).alloc (by simp) _)
  rw [hs.out]
  clear hal
  generalize (w.alloc (.cells (dvC x a) 28)).alloc (.cells (dvC y b) 28) = w1 at *
  have HLA := Lib.hid (least_wrong x a w1 (HA.out.kept (hs.out ▸ HB1.out)) HFA.out HRA.out)
  go_upto_region 4 with (first
    | (refine BigFrame.wpList_want rfl (fun K' hK' => ?_); refine wp_load_mid 24 _ rfl s 0 rfl (partC a.of a.n).toList _ (partC_mid _ _ _ _ _ _ HX1.out.row) Tryd.underlying24 rfl (sizePL _ _) ?_; rw [Array.toArray_toList]; refine hK' _ _ ?_; clear hK' K')
    | (refine BigFrame.wpList_want rfl (fun K' hK' => ?_); refine wp_load_mid 24 _ rfl (s + 1) 0 rfl (partC b.of b.n).toList _ (partC_mid _ _ _ _ _ _ HY1.out.row) Tryd.underlying24 rfl (sizePL _ _) ?_; rw [Array.toArray_toList, HPQ.out]; refine hK' _ _ ?_; clear hK' K')
    | (refine BigFrame.wpList_want rfl (fun K' hK' => ?_); refine wp_neq_rows 24 _ _ _ rfl (partC a.of a.n) (partC a.of a.n) rfl rfl (by kernel_rfl) true (fun w => HPE.out w) ?_; refine hK' _ _ ?_; clear hK' K')
    | (refine wpList_load_df rfl _ rfl s x a rfl HX1.out ?_)
    | (go_at_call 9; refine HLA.out.mono ?_; rintro e w2 ⟨rfl, hb2⟩; have HB2 := Lib.hid hb2; clear hb2)
    | (refine wpList_lay_dv rfl (.tmp 5) (.tmp 17) rfl ⟨none, 0, none, 0⟩ ⟨fun _ => 0, 0, [], []⟩ rfl rfl ?_))
  have HY2 := Lib.hid (HY1.out.stay HB2.out)
  have HBB : Hid (Below s w w2) := Lib.hid (HB1.out.trans (HB2.out.mono (Nat.le_of_lt HX1.out.lt)))
  have hal := (Below.refl w2.heap.size w2).alloc (Nat.le_refl _) (.cells (dvC ⟨none, 0, none, 0⟩ ⟨fun _ => 0, 0, [], []⟩) 28)
  have HY3 := Lib.hid (HY2.out.stay hal)
  have HB3 : Hid (Below s w (w2.alloc (.cells (dvC ⟨none, 0, none, 0⟩ ⟨fun _ => 0, 0, [], []⟩) 28))) := Lib.hid (HBB.out.trans (hal.mono (Nat.le_of_lt (Nat.lt_trans (Nat.lt_succ_self _) HY2.out.lt))))
  clear hal HBB HY2 HB2 HLA HX1 HY1 HB1 HPE HPQ
  generalize w2.heap.size = k1 at *
  generalize w2.alloc (.cells (dvC ⟨none, 0, none, 0⟩ ⟨fun _ => 0, 0, [], []⟩) 28) = w3 at *
  clear w1 w2
  have HLB := Lib.hid (least_wrong y b w3 (HB.out.kept (hs.out ▸ HB3.out)) HFB.out HRB.out)
  go_wp2_with (first
    | (refine wpList_load_df rfl _ rfl (s + 1) y b rfl HY3.out ?_)
    | (go_at_call 9; refine HLB.out.mono ?_; rintro e w4 ⟨rfl, hb2⟩; have HB4 := Lib.hid hb2; clear hb2)
    | (refine wpList_lay_dv rfl (.tmp 7) (.tmp 22) rfl ⟨none, 0, none, 0⟩ ⟨fun _ => 0, 0, [], []⟩ rfl rfl ?_))
  go_ret
  refine ⟨rfl, ?_⟩
  rw [hs.out]
  have hsz : s ≤ w3.heap.size := Nat.le_of_lt (Nat.lt_trans (Nat.lt_succ_self _) HY3.out.lt)
  exact (HB3.out.trans (HB4.out.mono hsz)).alloc (Nat.le_trans hsz HB4.out.size) _
/-- The automaton of nothing. -/
def d0 : Dm := ⟨fun _ => 0, 0, [], []⟩
def x0 : Dx := ⟨none, 0, none, 0⟩
theorem d0_at (w : World) : DAt w x0 d0 := ⟨fun _ hi => absurd hi (Nat.not_lt_zero _), fun _ hi => absurd hi (Nat.not_lt_zero _)⟩
theorem d0_fine : DFine d0 := ⟨by decide, by decide, fun l hl => (by cases hl), fun _ _ => (by decide : (0 : Nat) < 256)⟩
theorem d0_wrong : rightD d0 = false := by
  unfold rightD
  rw [show d0.R = [] from rfl]
  simp
theorem build12_any (x : Ma) (m : Mc) (of : Nat → Nat) (nc : Nat) (w : World) (h : MAt w x m) (hf : Fine m) (h8 : m.sp.length ≤ 8) (hp : prightB of nc = true) (hw : Whole m of) (hT : Tab w) :
    Calls Tryd.prog 17 #[.agg (mc x m), .agg (partC of nc), .pointer none] w fun e w' => ∃ z d, e = .returned (.tuple #[.agg (dvC z d), .int .i64 (if rightM m then 0 else 1)]) ∧ DAt w' z d ∧ DFine d ∧ Below w.heap.size w w' ∧ (rightM m = false → z = x0 ∧ d = d0) ∧ (rightM m = true → d.of = of ∧ d.n = (nc : Int) ∧ DRt d ∧ d.R.length ≤ 257) := by
  cases hr : rightM m with
  | false =>
    refine (build_bad x m of nc (.pointer none) w h hf hr).mono ?_
    rintro e w' ⟨rfl, hb⟩
    exact ⟨x0, d0, rfl, d0_at w', d0_fine, hb, fun _ => ⟨rfl, rfl⟩, fun h => by cases h⟩
  | true =>
    have hrt := (right_iff m).1 hr
    refine (build_ok x m of nc none 0 w h hf hrt h8 hp hw hT (fun q hq => by cases hq) (fun q hq => by cases hq) (fun q hq => by cases hq) (by decide) (fun q hq => by cases hq)).mono ?_
    rintro e w' ⟨hb, (⟨L, z, d, rfl, hof, hn, ho, hd, -, -⟩ | ⟨q, L, hq, -⟩)⟩
    · have hl := ok_few h8 L hd.okL.1 (fun s hs => (hd.okL.2 s hs).1)
      refine ⟨z, d, rfl, ho.at, hd.fine (by omega), hb.below, fun h => (by cases h), fun _ => ⟨hof, hn, (dright_iff d).1 hd.right, ?_⟩⟩
      rw [hd.all]; exact hl
    · cases hq
end Mi
end Go.Proofs.YtplkhgmjcljjhaaDoor
namespace Go.Proofs.YtplkhgmjcljjhaaDoor
open Go.RowKit
namespace Rinv
section
variable {P : Program} {Q : Exit → Act → World → Prop} {l : List Oper} {m : Nat} {d : Nat → Nat} {a : Act} {W : World} {I : (Nat → Bool) → (Nat → Value) → World → Prop}
theorem any_go3 (hok : okB l m d = true)
    (step : ∀ i, i < m → ∀ (L : Nat → Bool) (X : Nat → Value) w', L i = false → (∀ j, j < m → waits l i j → L j = true) → I L X w' →
      wpOp P l.toArray Q i (fun a'' w'' => ∃ v, a'' = (putAll d X m a).put (some (d i)) v ∧ I (fun j => j == i || L j) (upd X i v) w'') (putAll d X m a) w')
    (fin : ∀ (L : Nat → Bool) (X : Nat → Value) w', (∀ j, j < m → L j = true) → I L X w' → wpOp P l.toArray Q m (fun a'' w'' => Q .normal a'' w'') (putAll d X m a) w') :
    ∀ (fuel : Nat) (listed : Array Bool) (X : Nat → Value) (w' : World), listed.size = m + 1 → listed.getD m true = false → I (fun j => listed.getD j true) X w' →
      ((List.range (m + 1)).filter fun i => !listed.getD i true).length ≤ fuel → wpAny P .any l.toArray Q fuel listed (putAll d X m a) w' := by
  simp only [okB, Bool.and_eq_true, decide_eq_true_eq, List.all_eq_true, List.mem_range] at hok
  obtain ⟨⟨⟨hlen, hord⟩, hlast⟩, hdst⟩ := hok
  have hget : ∀ i, i < m + 1 → l.toArray[i]? = some (l.getD i default) := fun i hi => by
    rw [List.getElem?_toArray, List.getD_eq_getElem?_getD, List.getElem?_eq_getElem (by omega)]; rfl
  intro fuel
  induction fuel with
  | zero =>
    intro listed X w' hsz hm _ hf
    exfalso
    have : m ∈ (List.range (m + 1)).filter fun i => !listed.getD i true := List.mem_filter.2 ⟨List.mem_range.2 (by omega), by rw [hm]; rfl⟩
    rw [List.length_eq_zero_iff.1 (Nat.le_zero.1 hf)] at this
    cases this
  | succ fuel ih =>
    intro listed X w' hsz hm hI hf
    have hready : ∀ i, i ∈ Region.ready .any l.toArray listed ↔ i < m + 1 ∧ listed.getD i true = false ∧ ∀ e ∈ (l.getD i default).after, Region.binds .any e = true → listed.getD e.on false = true := fun i => by
      unfold Region.ready
      rw [List.mem_filter, List.mem_range]
      constructor
      · rintro ⟨h1, h2⟩
        have h1' : i < m + 1 := by rw [List.size_toArray] at h1; omega
        rw [hget i h1'] at h2
        simp only [Option.map_some, Option.getD_some, Bool.and_eq_true, Bool.not_eq_true', Array.all_eq_true_iff_forall_mem, Bool.or_eq_true] at h2
        exact ⟨h1', h2.1, fun e he hb => (h2.2 e he).resolve_left (by rw [hb]; decide)⟩
      · rintro ⟨h1, h2, h3⟩
        refine ⟨by rw [List.size_toArray]; omega, ?_⟩
        rw [hget i h1]
        simp only [Option.map_some, Option.getD_some, Bool.and_eq_true, Bool.not_eq_true', Array.all_eq_true_iff_forall_mem, Bool.or_eq_true]
        refine ⟨h2, fun e he => ?_⟩
        cases hb : Region.binds .any e
        · exact .inl rfl
        · exact .inr (h3 e he hb)
    have hfl : ∀ j, j < m + 1 → listed.getD j false = listed.getD j true := fun j hj => by
      simp [Array.getD_eq_getD_getElem?, Array.getElem?_eq_getElem (show j < listed.size from by omega)]
    refine ⟨fun hno => ?_, fun i hi => ?_⟩
    · exfalso
      have hex : ∃ i, i < m + 1 ∧ listed.getD i true = false ∧ ∀ j, j < i → listed.getD j true = true := by
        have : ∀ k, k ≤ m → listed.getD k true = false → ∃ i, i < m + 1 ∧ listed.getD i true = false ∧ ∀ j, j < i → listed.getD j true = true := by
          intro k
          induction k using Nat.strongRecOn with
          | _ k ihk =>
            intro hk hkf
            by_cases hc : ∀ j, j < k → listed.getD j true = true
            · exact ⟨k, by omega, hkf, hc⟩
            · obtain ⟨j, hj⟩ := Classical.not_forall.1 hc
              obtain ⟨hjk, hjf⟩ := Classical.not_imp.1 hj
              exact ihk j hjk (by omega) (by cases h : listed.getD j true <;> simp_all)
        exact this m (Nat.le_refl _) hm
      obtain ⟨i, h1, h2, h3⟩ := hex
      have : i ∈ Region.ready .any l.toArray listed := (hready i).2 ⟨h1, h2, fun e he hb => by
        have h4 := hord i h1
        rw [Array.all_eq_true_iff_forall_mem] at h4
        have h5 := h4 e he
        rw [hb] at h5
        have h6 : e.on < i := by simpa using h5
        rw [hfl _ (by omega)]
        exact h3 _ h6⟩
      rw [hno] at this
      cases this
    · obtain ⟨h1, h2, h3⟩ := (hready i).1 hi
      by_cases him : i < m
      · have hdep : ∀ j, j < m → waits l i j → listed.getD j true = true := fun j hj hw => by
          unfold waits at hw
          obtain ⟨e, he, hb⟩ := List.any_eq_true.1 hw
          have he : e ∈ (l.getD i default).after := by simpa using he
          simp only [Bool.and_eq_true, beq_iff_eq] at hb
          have := h3 e he hb.1
          rw [hb.2, hfl j (by omega)] at this
          exact this
        refine wpOp_mono (fun a'' w'' hh => ?_) (step i him (fun j => listed.getD j true) X w' h2 hdep hI)
        obtain ⟨v, rfl, hI2⟩ := hh
        rw [put_upd v m a him (fun j hj hn => (by
          have := (hdst i him).2 j hj
          simp only [Bool.or_eq_true, decide_eq_true_eq] at this
          exact this.resolve_left hn))]
        have hlt : i < listed.size := by omega
        refine ih (listed.setIfInBounds i true) (upd X i v) w'' (by simpa using hsz) ?_ ?_ ?_
        · rw [getD_set hlt, if_neg (by omega)]; exact hm
        · have hfun : (fun j => (listed.setIfInBounds i true).getD j true) = fun j => j == i || listed.getD j true := by
            funext j
            rw [getD_set hlt]
            by_cases e : j = i
            · rw [if_pos e, e]; simp
            · rw [if_neg e, beq_eq_false_iff_ne.2 e, Bool.false_or]
          rw [hfun]
          exact hI2
        · have hsub : ((List.range (m + 1)).filter fun k => !(listed.setIfInBounds i true).getD k true) = ((List.range (m + 1)).filter fun k => !listed.getD k true).filter (fun k => decide (k ≠ i)) := by
            rw [List.filter_filter]
            refine List.filter_congr (fun k _ => ?_)
            rw [getD_set hlt]
            by_cases e : k = i
            · simp [e]
            · simp [e]
          rw [hsub]
          have hmem : i ∈ (List.range (m + 1)).filter fun k => !listed.getD k true := List.mem_filter.2 ⟨List.mem_range.2 h1, by rw [h2]; rfl⟩
          have := (List.length_filter_lt_length_iff_exists (p := fun k => decide (k ≠ i))).2 ⟨i, hmem, by simp⟩
          omega
      · obtain rfl : i = m := by omega
        have hall : ∀ j, j < i → listed.getD j true = true := fun j hj => by
          have h4 := hlast j hj
          obtain ⟨e, he, hb⟩ := List.any_eq_true.1 h4
          have he : e ∈ (l.getD i default).after := by simpa using he
          simp only [Bool.and_eq_true, beq_iff_eq] at hb
          have := h3 e he hb.1
          rw [hb.2, hfl j (by omega)] at this
          exact this
        refine wpOp_mono (fun a'' w'' hh => ?_) (fin (fun j => listed.getD j true) X w' hall hI)
        refine wpAny_done ?_ hh fuel
        have hlt : i < listed.size := by omega
        refine List.filter_eq_nil_iff.2 (fun k hk => ?_)
        have hk' : k < i + 1 := by have := List.mem_range.1 hk; rw [List.size_toArray] at this; omega
        rw [getD_set hlt]
        by_cases e : k = i
        · simp [e]
        · rw [if_neg e, hall k (by omega)]; simp
/-- A region that draws its order: each operation walked by itself, with what is said of all that is done so far. -/
theorem region_inv3 {id : Nat} (I : (Nat → Bool) → (Nat → Value) → World → Prop) (m : Nat) (d : Nat → Nat) (hm : P.follows .mixedOrders = true) (hok : okB l m d = true) (hsz : ∀ j, j < m → (a.tmps[d j]?).isSome = true)
    (h0 : ∀ (L : Nat → Bool) (X : Nat → Value), (∀ j, j < m → L j = false) → I L X W.drew)
    (step : ∀ i, i < m → ∀ (L : Nat → Bool) (X : Nat → Value) w', L i = false → (∀ j, j < m → waits l i j → L j = true) → I L X w' →
      ∀ K : Act → World → Prop, (∀ a'' w'' v, a'' = (putAll d X m a).put (some (d i)) v → I (fun j => j == i || L j) (upd X i v) w'' → K a'' w'') → wpList P l.toArray (mixQ (NoPanic Q) K) [l.getD i default] (putAll d X m a) w')
    (fin : ∀ (L : Nat → Bool) (X : Nat → Value) w', (∀ j, j < m → L j = true) → I L X w' →
      ∀ K : Act → World → Prop, (∀ a'' w'', Q .normal a'' w'' → K a'' w'') → wpList P l.toArray (mixQ (NoPanic Q) K) [l.getD m default] (putAll d X m a) w') :
    (Code.region id l.toArray true).wp P Q a W := by
  have hlen : l.length = m + 1 := by
    have h := hok
    simp only [okB, Bool.and_eq_true, decide_eq_true_eq] at h
    exact h.1.1.1
  have hget : ∀ i, i < m + 1 → l.toArray[i]? = some (l.getD i default) := fun i hi => by
    rw [List.getElem?_toArray, List.getD_eq_getElem?_getD, List.getElem?_eq_getElem (by omega)]; rfl
  refine wp_region_noPanic (wp_region_any hm ?_)
  have hown : putAll d (fun j => (a.tmps[d j]?).getD undef) m a = a := putAll_own m a (fun j hj => by
    obtain ⟨v, hv⟩ := Option.isSome_iff_exists.1 (hsz j hj)
    rw [hv]; rfl)
  have := any_go3 (P := P) (Q := NoPanic Q) (a := a) (I := I) hok
    (fun i hi L X w' h1 h2 h3 => wpOp_list (hget i (by omega)) (step i hi L X w' h1 h2 h3 _ (fun a'' w'' v h4 h5 => ⟨v, h4, h5⟩)))
    (fun L X w' h1 h2 => wpOp_list (hget m (by omega)) (fin L X w' h1 h2 _ (fun a'' w'' h => h)))
    (m + 1) (Array.replicate (m + 1) false) (fun j => (a.tmps[d j]?).getD undef) W.drew (by simp) (by simp)
    (h0 _ _ (fun j hj => by simp [show j < m + 1 from by omega])) (Nat.le_trans (List.length_filter_le _ _) (by simp))
  rw [hown] at this
  rw [show l.toArray.size = m + 1 from by simpa using hlen]
  exact this
end
end Rinv
end Go.Proofs.YtplkhgmjcljjhaaDoor
namespace Go.Proofs.YtplkhgmjcljjhaaDoor
open Go.RowKit Sets Nf Df Cls DfK
namespace Mi
theorem run_append_setsG (w : World) (base : Nat) (ty : TypeId) (v x : Value) (D L : List Nat) (hown : w.ownsRow base 66 4 v D.length (setsL D)) (hin : SetsIn w x L) (hb : D.length + L.length ≤ 1000) (hbase : base ≤ w.heap.size) :
    ∃ v' w', (Builtin.append_ #[50, 50] ty #[v, x]).run Tryd.prog w = .ok v' w' ∧ w'.ownsRow base 66 4 v' (D ++ L).length (setsL (D ++ L)) ∧ w.grownBy w' v.ownBlock ∧ Below base w w' := by
  obtain ⟨i0, hi, hz0, hz1, hz2⟩ := info_parts infoS
  have hin' := hin
  obtain ⟨-, a, cap, rfl, -, hc⟩ := hin'
  cases a with
  | some ad =>
    obtain ⟨v', w', hr, h1, h2, -⟩ := run_append_own (P := Tryd.prog) w base 50 ty 66 i0 _ 4 32 Tryd.underlying50 hi hz0 hz1 hz2 rfl (by decide) v D.length (setsL D) hown ad L.length cap (setsL L) (setsL_length L) (setsIn_cell hin) (setsL_ones L) (by unfold maxLen; omega) (by omega) hbase
    refine ⟨v', w', hr, ?_, h2, (Below.refl _ _).grown h2 hbase (fun j hj => (hown.lt j hj).1)⟩
    rw [setsL_append, List.length_append]
    exact h1
  | none =>
    have hL : L = [] := by
      cases L with
      | nil => rfl
      | cons S L => obtain ⟨b, o, e, -⟩ := hc 0 (by simp); cases e
    subst hL
    refine ⟨v, w, ?_, by rw [List.append_nil]; exact hown, World.grownBy.refl _ _, Below.refl _ _⟩
    obtain ⟨base', cap', rfl, hcap⟩ := owns_slice hown
    have hle : D.length + 0 ≤ cap' := hcap
    cases base' <;> simp [Builtin.append_, run_underlying Tryd.underlying50, sizeOf, typeInfo, hi, Builtin.lenOf, Builtin.firstCells, loadCells, hcap, storeCells]
theorem wpList_append_setsG {ops : Array Oper} {rest : List Oper} {o : Oper} {a : Act} {w : World} {Q : Exit → Act → World → Prop} (hgd : o.guard = none) (s x : Operand)
    (ho : o.op = .call { callee := .builtin .append, args := #[s, x], argTypes := #[50, 50] }) (base : Nat) (u v : Value) (D L : List Nat) (hu : a.eval s = u) (hv : a.eval x = v)
    (hown : w.ownsRow base 66 4 u D.length (setsL D)) (hin : SetsIn w v L) (hb : D.length + L.length ≤ 1000) (hbase : base ≤ w.heap.size)
    (h : ∀ v' w', w'.ownsRow base 66 4 v' (D ++ L).length (setsL (D ++ L)) → w.grownBy w' u.ownBlock → Below base w w' → wpList Tryd.prog ops Q rest (a.put o.dst v') w') : wpList Tryd.prog ops Q (o :: rest) a w :=
  wpList_plain hgd fun _ hK => by
    obtain ⟨v', w', hr, h1, h2, h3⟩ := run_append_setsG w base o.type _ _ D L hown hin hb hbase
    unfold Oper.wp execOp
    simp only [ho, resolve, invoke, builtin, Sem.run_bind, Sem.run_pure, Result.andThen_ok, List.map_toArray, List.map_cons, List.map_nil, hu, hv, hr]
    exact hK _ _ (h v' w' h1 h2 h3)
abbrev ptOf (m o : Mc) : Array Value := partC (cls (same (ptL m o))) (nh (same (ptL m o)) 256 : Nat)
/-- What is said of the value of each operation. -/
def F3 (b : Nat) (x : Ma) (m : Mc) (y : Ma) (o : Mc) : Nat → Value → World → Prop
  | 0, v, _ => v = .agg (mc x m)
  | 1, v, w => w.ownsRow b 66 4 v (stTo m m.sp.length).length (setsL (stTo m m.sp.length))
  | 2, v, _ => v = .agg (mc y o)
  | 3, v, w => w.ownsRow b 66 4 v (stTo o o.sp.length).length (setsL (stTo o o.sp.length))
  | 4, v, w => SetsIn w v (ptL m o)
  | 5, v, _ => v = .agg (ptOf m o)
  | 6, v, w => ∃ k, v = .pointer (some ⟨k, 0, none⟩) ∧ b ≤ k ∧ w.heap[k]? = some (.cells (partC (fun _ => 0) 0) 24 (0, 0))
  | _, _, _ => True
structure I3 (w0 : World) (x : Ma) (m : Mc) (y : Ma) (o : Mc) (L : Nat → Bool) (X : Nat → Value) (W : World) : Prop where
  bel : Below w0.heap.size w0 W
  f : ∀ j, L j = true → ((j = 1 ∨ j = 3) → L 4 = false) → j < 7 → F3 w0.heap.size x m y o j (X j) W
section
variable {w0 W W' : World} {x y : Ma} {m o : Mc} {L : Nat → Bool} {X : Nat → Value}
theorem F3.kept {b : Nat} {v : Value} (hb : Below W.heap.size W W') : ∀ j, F3 b x m y o j v W → F3 b x m y o j v W'
  | 0, h => h
  | 1, h => own_stay h hb
  | 2, h => h
  | 3, h => own_stay h hb
  | 4, h => SetsIn.kept h hb
  | 5, h => h
  | 6, h => by
    obtain ⟨k, e, hk, hr⟩ := h
    exact ⟨k, e, hk, (hb.block k (Array.getElem?_eq_some_iff.1 hr).1).trans hr⟩
  | _ + 7, _ => trivial
theorem I3.size (h : I3 w0 x m y o L X W) : w0.heap.size ≤ W.heap.size := h.bel.size
theorem I3.set (h : I3 w0 x m y o L X W) {i : Nat} {v : Value} (hb : Below W.heap.size W W') (hf : F3 w0.heap.size x m y o i v W') : I3 w0 x m y o (fun j => j == i || L j) (Rinv.upd X i v) W' := by
  refine ⟨h.bel.trans (hb.mono h.size), fun j hl hc hj => ?_⟩
  by_cases e : j = i
  · subst e
    rw [show Rinv.upd X j v j = v from if_pos rfl]
    exact hf
  · rw [show Rinv.upd X i v j = X j from if_neg e]
    have h1 : L j = true := by
      have := hl
      simp only [beq_eq_false_iff_ne.2 e, Bool.false_or] at this
      exact this
    refine F3.kept hb j (h.f j h1 (fun h13 => ?_) hj)
    have := hc h13
    simp only [Bool.or_eq_false_iff] at this
    exact this.2
/-- The append has been done. -/
theorem I3.app (h : I3 w0 x m y o L X W) {v u : Value} {n : Nat} {xs : List Value} (hown : W.ownsRow w0.heap.size 66 4 u n xs) (hb : Below w0.heap.size W W') (hg : W.grownBy W' u.ownBlock) (hf : SetsIn W' v (ptL m o)) : I3 w0 x m y o (fun j => j == 4 || L j) (Rinv.upd X 4 v) W' := by
  refine ⟨h.bel.trans hb, fun j hl hc hj => ?_⟩
  by_cases e : j = 4
  · subst e
    rw [show Rinv.upd X 4 v 4 = v from if_pos rfl]
    exact hf
  · rw [show Rinv.upd X 4 v j = X j from if_neg e]
    have h1 : L j = true := by
      have := hl
      simp only [beq_eq_false_iff_ne.2 e, Bool.false_or] at this
      exact this
    have h13 : ¬ (j = 1 ∨ j = 3) := fun h13 => by
      have := hc h13
      simp at this
    have hold := h.f j h1 (fun h => absurd h h13) hj
    have : j = 0 ∨ j = 2 ∨ j = 5 ∨ j = 6 := by omega
    rcases this with rfl | rfl | rfl | rfl
    · exact hold
    · exact hold
    · exact hold
    · obtain ⟨k, e1, hk, hr⟩ := hold
      refine ⟨k, e1, hk, (hg.block k (Array.getElem?_eq_some_iff.1 hr).1 (fun e2 => ?_)).trans hr⟩
      obtain ⟨cs, hc2⟩ := own_typ hown e2.symm
      rw [hr] at hc2
      injection hc2 with hc2
      injection hc2 with _ hc2
      exact absurd hc2 (by decide)
end
/-- Both, of what just one of two automata takes. -/
theorem xor_any (x y : Dx) (a b : Dm) (nc : Nat) (w : World) (hA : DAt w x a) (hB : DAt w y b) (hfa : DFine a) (hfb : DFine b) (hra : DRt a) (hrb : DRt b) (hof : a.of = b.of) (hna : a.n = (nc : Int)) (hnb : b.n = (nc : Int)) (hla : a.R.length ≤ 257) (hlb : b.R.length ≤ 257) :
    Calls Tryd.prog 23 #[.agg (dvC x a), .agg (dvC y b), .int .u8 3, .pointer none] w fun e w' => ∃ z d, e = .returned (.tuple #[.agg (dvC z d), .int .i64 0]) ∧ DAt w' z d ∧ d.F.length ≤ 90000 ∧ ((∀ f ∈ d.F, f = false) ↔ Xa nc a b 0 0) ∧ Below w.heap.size w w' := by
  have hsm : a.R.length * b.R.length ≤ 90000 := Nat.le_trans (Nat.mul_le_mul hla hlb) (by decide)
  obtain ⟨nc', hn', hc⟩ := both_ok x y a b 3 none 0 w hA hB hfa hfb hra hrb hof (hna.trans hnb.symm) (.inr (.inr rfl)) hsm (fun q hq => by cases hq) (fun q hq => by cases hq) (fun q hq => by cases hq) (by decide)
  obtain rfl : nc = nc' := by omega
  refine hc.mono ?_
  rintro e w' ⟨hb, (⟨L, z, d, rfl, hdo, hdn, ho, hd, -, -⟩ | ⟨q, L, hq, -⟩)⟩
  · have hl := okp_few a b nc L hd.okL.1 hd.okL.2
    refine ⟨z, d, rfl, ho.at, ?_, xor_none hd hdn, hb.below⟩
    have h1 := ((dright_iff d).1 hd.right).fl
    have h2 := hd.all
    omega
  · cases hq
/-- Are all first ones false? -/
def noneT (l : List Bool) (j : Nat) : Bool := (l.take j).all (!·)
theorem noneT_next (l : List Bool) {j : Nat} (h : j < l.length) : noneT l (j + 1) = (noneT l j && !(l.getD j false)) := by
  unfold noneT
  rw [List.take_add_one, List.getElem?_eq_getElem h, List.all_append, List.getD_eq_getElem?_getD, List.getElem?_eq_getElem h]
  simp
theorem noneT_all (l : List Bool) : noneT l l.length = true ↔ ∀ f ∈ l, f = false := by
  unfold noneT
  rw [List.take_length, List.all_eq_true]
  simp
theorem Xa.swap {nc : Nat} {a b : Dm} : Xa nc a b 0 0 ↔ Xa nc b a 0 0 := ⟨fun h l hl => (h l hl).symm, fun h l hl => (h l hl).symm⟩
end Mi
end Go.Proofs.YtplkhgmjcljjhaaDoor
namespace Go.Proofs.YtplkhgmjcljjhaaDoor
open Go.RowKit Sets Nf Cls Df DfK DfR
namespace Mi
def RSd (i : Nat) : Nat := if i = 6 then 5 else i + 35
set_option maxHeartbeats 25600000 in
set_option maxRecDepth 100000 in
theorem msam_any (x : Ma) (m : Mc) (y : Ma) (o : Mc) (w : World) (h : UnM w x m) (ho : UnM w y o) (hT : Tab w) :
    Calls Tryd.prog 6 #[.agg (mc x m), .agg (mc y o)] w fun e w' => e = .returned (.bool true) ∧ Below w.heap.size w w' := by
  have HG : Hid (0 < w.heap.size) := Lib.hid (World.block_lt_of_cell? _ _ (hT 0 (by decide)))
  have HU := Lib.hid h
  have HV := Lib.hid ho
  have HT := Lib.hid hT
  clear h ho hT
  have hz := zeroD
  have hzp := zeroP
  go_enter Tryd.func6, Tryd.ntmps6
  go_upto_region 1 with fail
  obtain ⟨s, hs⟩ : ∃ s, Hid (w.heap.size = s) := ⟨_, Lib.hid rfl⟩
  have HK1 : Hid (Kp s w [(s + 1, .cells (mc y o) 46 (0, 0)), (s, .cells (mc x m) 46 (0, 0))] [] ((w.alloc (.cells (mc x m) 46)).alloc (.cells (mc y o) 46))) := Lib.hid (by
    have h0 : Kp s w [] [] w := ⟨(fun p hp => by cases hp), (fun p hp => by cases hp), Below.refl _ _, Nat.le_of_eq hs.out.symm⟩
    have h1 := (h0.push (.cells (mc x m) 46)).push (.cells (mc y o) 46)
    rw [World.size_alloc, hs.out] at h1
    exact h1)
  have HAW := Lib.hid (fun (W : World) (hb : Below s w W) => awake12_any W (HT.out.below (hs.out ▸ hb) HG.out))
  have HMX : Hid (∀ W, Below s w W → MAt W x m ∧ MAt W y o ∧ Tab W) := Lib.hid (fun W hb => by
    have hb' : Below w.heap.size w W := hs.out ▸ hb
    exact ⟨HU.out.1.kept hb', HV.out.1.kept hb', HT.out.below hb' HG.out⟩)
  rw [hs.out]
  generalize (w.alloc (.cells (mc x m) 46)).alloc (.cells (mc y o) 46) = w1 at *
  have HSM := Lib.hid (small_any x m w1 (HMX.out w1 HK1.out.bel).1.fo)
  have HSO := Lib.hid (fun (W : World) (hb : Below s w W) => small_any y o W (HMX.out W hb).2.1.fo)
  have HEND : Hid (∀ W, Below s w W → Below w.heap.size w W) := Lib.hid (fun W hb => hs.out ▸ hb)
  have HSW : Hid (∀ W, Below s w W → s ≤ W.heap.size) := Lib.hid (fun W hb => by rw [← hs.out]; exact hb.size)
  cases hgr : bigM m with
  | true =>
    rw [hgr] at HSM
    clear hgr
    go_wp2_with (first
      | (refine wpList_load_mach rfl _ rfl s x m rfl ⟨HK1.out.rows _ (.tail _ (.head _))⟩ ?_)
      | (go_at_call 21; refine HSM.out.mono ?_; rintro e w2 ⟨rfl, hb2⟩; have HB2 := Lib.hid (HK1.out.bel.trans (hb2.mono HK1.out.size)); clear hb2)
      | (go_at_call 8; refine (HAW.out w2 HB2.out).mono ?_; rintro e w3 ⟨rfl, hb3⟩; have HB3 := Lib.hid (HB2.out.trans (hb3.mono (HSW.out _ HB2.out))); clear hb3))
    go_ret
    exact ⟨rfl, HEND.out _ HB3.out⟩
  | false =>
    rw [hgr] at HSM
    have HF := Lib.hid (small_fine HU.out hgr)
    clear hgr
    cases hgo : bigM o with
    | true =>
      rw [hgo] at HSO
      clear hgo
      go_wp2_with (first
        | (refine wpList_load_mach rfl _ rfl s x m rfl ⟨HK1.out.rows _ (.tail _ (.head _))⟩ ?_)
        | (go_at_call 21; refine HSM.out.mono ?_; rintro e w2 ⟨rfl, hb2⟩; have HK2 := Lib.hid (HK1.out.stay hb2); clear hb2 HSM)
        | (refine BigFrame.wpList_want rfl (fun K' hK' => ?_); refine wp_load_mach _ rfl (s + 1) y o rfl ⟨HK2.out.rows _ (.head _)⟩ ?_; refine hK' _ _ ?_; clear hK' K')
        | (go_at_call 21; refine (HSO.out w2 HK2.out.bel).mono ?_; rintro e w3 ⟨rfl, hb3⟩; have HB3 := Lib.hid (HK2.out.bel.trans (hb3.mono HK2.out.size)); clear hb3)
        | (go_at_call 8; refine (HAW.out w3 HB3.out).mono ?_; rintro e w4 ⟨rfl, hb4⟩; have HB4 := Lib.hid (HB3.out.trans (hb4.mono (HSW.out _ HB3.out))); clear hb4))
      go_ret
      exact ⟨rfl, HEND.out _ HB4.out⟩
    | false =>
      rw [hgo] at HSO
      have HGF := Lib.hid (small_fine HV.out hgo)
      clear hgo
      by_cases hms : 6 < m.sp.length
      · have hd : decide ((6 : Int) < (m.sp.length : Int)) = true := decide_eq_true (by omega)
        have hd' : decide (6 < m.sp.length) = true := decide_eq_true hms
        clear hms
        go_wp2_with (first
          | (refine wpList_load_mach rfl _ rfl s x m rfl ⟨HK1.out.rows _ (.tail _ (.head _))⟩ ?_)
          | (go_at_call 21; refine HSM.out.mono ?_; rintro e w2 ⟨rfl, hb2⟩; have HK2 := Lib.hid (HK1.out.stay hb2); clear hb2 HSM)
          | (refine BigFrame.wpList_want rfl (fun K' hK' => ?_); refine wp_load_mach _ rfl (s + 1) y o rfl ⟨HK2.out.rows _ (.head _)⟩ ?_; refine hK' _ _ ?_; clear hK' K')
          | (go_at_call 21; refine (HSO.out w2 HK2.out.bel).mono ?_; rintro e w3 ⟨rfl, hb3⟩; have HK3 := Lib.hid (HK2.out.stay hb3); have c0 := BoxM.c0 ⟨HK3.out.rows _ (.tail _ (.head _))⟩; clear hb3 HSO)
          | (go_at_call 8; refine (HAW.out w3 HK3.out.bel).mono ?_; rintro e w4 ⟨rfl, hb4⟩; have HB4 := Lib.hid (HK3.out.bel.trans (hb4.mono HK3.out.size)); clear hb4))
        go_ret
        exact ⟨rfl, HEND.out _ HB4.out⟩
      · have hd : decide ((6 : Int) < (m.sp.length : Int)) = false := decide_eq_false (by omega)
        have hd' : decide (6 < m.sp.length) = false := decide_eq_false hms
        clear hms
        by_cases hos : 6 < o.sp.length
        · have he : decide ((6 : Int) < (o.sp.length : Int)) = true := decide_eq_true (by omega)
          have he' : decide (6 < o.sp.length) = true := decide_eq_true hos
          clear hos
          go_wp2_with (first
            | (refine wpList_load_mach rfl _ rfl s x m rfl ⟨HK1.out.rows _ (.tail _ (.head _))⟩ ?_)
            | (go_at_call 21; refine HSM.out.mono ?_; rintro e w2 ⟨rfl, hb2⟩; have HK2 := Lib.hid (HK1.out.stay hb2); clear hb2 HSM)
            | (refine BigFrame.wpList_want rfl (fun K' hK' => ?_); refine wp_load_mach _ rfl (s + 1) y o rfl ⟨HK2.out.rows _ (.head _)⟩ ?_; refine hK' _ _ ?_; clear hK' K')
            | (go_at_call 21; refine (HSO.out w2 HK2.out.bel).mono ?_; rintro e w3 ⟨rfl, hb3⟩; have HK3 := Lib.hid (HK2.out.stay hb3); have c0 := BoxM.c0 ⟨HK3.out.rows _ (.tail _ (.head _))⟩; have e0 := BoxM.c0 ⟨HK3.out.rows _ (.head _)⟩; clear hb3 HSO)
            | (go_at_call 8; refine (HAW.out w3 HK3.out.bel).mono ?_; rintro e w4 ⟨rfl, hb4⟩; have HB4 := Lib.hid (HK3.out.bel.trans (hb4.mono HK3.out.size)); clear hb4))
          go_ret
          exact ⟨rfl, HEND.out _ HB4.out⟩
        · have he : decide ((6 : Int) < (o.sp.length : Int)) = false := decide_eq_false (by omega)
          have he' : decide (6 < o.sp.length) = false := decide_eq_false hos
          clear hos
          go_upto_region 3 with (first
            | (refine wpList_load_mach rfl _ rfl s x m rfl ⟨HK1.out.rows _ (.tail _ (.head _))⟩ ?_)
            | (go_at_call 21; refine HSM.out.mono ?_; rintro e w2 ⟨rfl, hb2⟩; have HK2 := Lib.hid (HK1.out.stay hb2); clear hb2 HSM)
            | (refine BigFrame.wpList_want rfl (fun K' hK' => ?_); refine wp_load_mach _ rfl (s + 1) y o rfl ⟨HK2.out.rows _ (.head _)⟩ ?_; refine hK' _ _ ?_; clear hK' K')
            | (go_at_call 21; refine (HSO.out w2 HK2.out.bel).mono ?_; rintro e w3 ⟨rfl, hb3⟩; have HK3 := Lib.hid (HK2.out.stay hb3); have c0 := BoxM.c0 ⟨HK3.out.rows _ (.tail _ (.head _))⟩; have e0 := BoxM.c0 ⟨HK3.out.rows _ (.head _)⟩; clear hb3 HSO))
          clear hd hd' he he' c0 e0 HK2 HK1
          clear w1 w2
          have H8 : Hid ((stTo m m.sp.length).length ≤ 8 ∧ (stTo o o.sp.length).length ≤ 8) := Lib.hid ⟨by have := stTo_len m m.sp.length; have := HF.out.2; omega, by have := stTo_len o o.sp.length; have := HGF.out.2; omega⟩
          have HMY : Hid (∀ W, Below w3.heap.size w3 W → MAt W x m ∧ MAt W y o ∧ BoxM W s x m ∧ BoxM W (s + 1) y o) := Lib.hid (fun W hb => by
            have h1 := HK3.out.stay hb
            exact ⟨(HMX.out W h1.bel).1, (HMX.out W h1.bel).2.1, ⟨h1.rows _ (.tail _ (.head _))⟩, ⟨h1.rows _ (.head _)⟩⟩)
          refine Rinv.region_inv3 (I3 w3 x m y o) 7 RSd (by kernel_rfl) (by kernel_rfl) ?_ ?_ ?_ ?_
          · intro j hj
            have : j = 0 ∨ j = 1 ∨ j = 2 ∨ j = 3 ∨ j = 4 ∨ j = 5 ∨ j = 6 := by omega
            rcases this with rfl | rfl | rfl | rfl | rfl | rfl | rfl <;> rfl
          · exact fun L X hL => ⟨(Below.refl _ _).drew, fun j hl _ hj => by rw [hL j hj] at hl; cases hl⟩
          · intro i hi L X w' hli hw hI K hK
            have HK := Lib.hid hK
            have HI := Lib.hid hI
            have HLI := Lib.hid hli
            clear hK hI hli
            have HFX : Hid (∀ j, Rinv.waits _ i j → j < 7 → ((j = 1 ∨ j = 3) → L 4 = false) → F3 w3.heap.size x m y o j (X j) w') := Lib.hid (fun j h1 h2 h3 => HI.out.f j (hw j h2 h1) h3 h2)
            clear hw
            have hi' : i = 0 ∨ i = 1 ∨ i = 2 ∨ i = 3 ∨ i = 4 ∨ i = 5 ∨ i = 6 := by omega
            rcases hi' with rfl | rfl | rfl | rfl | rfl | rfl | rfl
            · simp only [List.getD_cons_zero]
              clear HFX
              simp only [Rinv.putAll, RSd, Act.put, Nat.reduceEqDiff, Nat.reduceAdd, if_true, if_false, List.setIfInBounds_toArray, List.set_cons_zero, List.set_cons_succ]
              go_wp2_with (refine wpList_load_mach rfl _ rfl s x m rfl (HMY.out w' HI.out.bel).2.2.1 ?_)
              exact HK.out _ _ (.agg (mc x m)) (by simp only [Rinv.putAll, RSd, Act.put, Nat.reduceEqDiff, Nat.reduceAdd, if_true, if_false, List.setIfInBounds_toArray, List.set_cons_zero, List.set_cons_succ]) (HI.out.set (Below.refl _ _) rfl)
            · simp only [List.getD_cons_zero, List.getD_cons_succ]
              have e0 : X 0 = .agg (mc x m) := HFX.out 0 (by unfold Rinv.waits; kernel_rfl) (by decide) (fun h => absurd h (by decide))
              clear HFX
              simp only [Rinv.putAll, RSd, Act.put, Nat.reduceEqDiff, Nat.reduceAdd, if_true, if_false, List.setIfInBounds_toArray, List.set_cons_zero, List.set_cons_succ, e0]
              have HNS := Lib.hid (nsets_any x m w' (HMY.out w' HI.out.bel).1 HF.out.1)
              go_wp2_with (go_at_call 22; refine HNS.out.mono ?_; rintro e w4 ⟨a4, c4, rfl, ho4, hb4⟩)
              exact HK.out _ _ (.slice a4 (stTo m m.sp.length).length c4) (by simp only [Rinv.putAll, RSd, Act.put, Nat.reduceEqDiff, Nat.reduceAdd, if_true, if_false, List.setIfInBounds_toArray, List.set_cons_zero, List.set_cons_succ, e0]) (HI.out.set hb4 (own_mono ho4 HI.out.size))
            · simp only [List.getD_cons_zero, List.getD_cons_succ]
              clear HFX
              simp only [Rinv.putAll, RSd, Act.put, Nat.reduceEqDiff, Nat.reduceAdd, if_true, if_false, List.setIfInBounds_toArray, List.set_cons_zero, List.set_cons_succ]
              go_wp2_with (refine wpList_load_mach rfl _ rfl (s + 1) y o rfl (HMY.out w' HI.out.bel).2.2.2 ?_)
              exact HK.out _ _ (.agg (mc y o)) (by simp only [Rinv.putAll, RSd, Act.put, Nat.reduceEqDiff, Nat.reduceAdd, if_true, if_false, List.setIfInBounds_toArray, List.set_cons_zero, List.set_cons_succ]) (HI.out.set (Below.refl _ _) rfl)
            · simp only [List.getD_cons_zero, List.getD_cons_succ]
              have e2 : X 2 = .agg (mc y o) := HFX.out 2 (by unfold Rinv.waits; kernel_rfl) (by decide) (fun h => absurd h (by decide))
              clear HFX
              simp only [Rinv.putAll, RSd, Act.put, Nat.reduceEqDiff, Nat.reduceAdd, if_true, if_false, List.setIfInBounds_toArray, List.set_cons_zero, List.set_cons_succ, e2]
              have HNS := Lib.hid (nsets_any y o w' (HMY.out w' HI.out.bel).2.1 HGF.out.1)
              go_wp2_with (go_at_call 22; refine HNS.out.mono ?_; rintro e w4 ⟨a4, c4, rfl, ho4, hb4⟩)
              exact HK.out _ _ (.slice a4 (stTo o o.sp.length).length c4) (by simp only [Rinv.putAll, RSd, Act.put, Nat.reduceEqDiff, Nat.reduceAdd, if_true, if_false, List.setIfInBounds_toArray, List.set_cons_zero, List.set_cons_succ, e2]) (HI.out.set hb4 (own_mono ho4 HI.out.size))
            · simp only [List.getD_cons_zero, List.getD_cons_succ]
              have h1 := Lib.hid (HFX.out 1 (by unfold Rinv.waits; kernel_rfl) (by decide) (fun _ => HLI.out))
              have h3 := Lib.hid (HFX.out 3 (by unfold Rinv.waits; kernel_rfl) (by decide) (fun _ => HLI.out))
              clear HFX
              simp only [Rinv.putAll, RSd, Act.put, Nat.reduceEqDiff, Nat.reduceAdd, if_true, if_false, List.setIfInBounds_toArray, List.set_cons_zero, List.set_cons_succ]
              refine wpList_append_setsG rfl (.tmp 36) (.tmp 38) rfl w3.heap.size (X 1) (X 3) (stTo m m.sp.length) (stTo o o.sp.length) rfl rfl h1.out (owns_setsIn h3.out (by have := H8.out; unfold maxLen; omega)) (by have := H8.out; omega) HI.out.size ?_
              intro v4 w4 ho4 hg4 hb4
              have HO4 := Lib.hid ho4
              have HG4 := Lib.hid hg4
              have HB4 := Lib.hid hb4
              clear ho4 hg4 hb4
              go_wp2_with fail
              exact HK.out _ _ v4 (by simp only [Rinv.putAll, RSd, Act.put, Nat.reduceEqDiff, Nat.reduceAdd, if_true, if_false, List.setIfInBounds_toArray, List.set_cons_zero, List.set_cons_succ]) (HI.out.app h1.out HB4.out HG4.out (owns_setsIn HO4.out (by have := H8.out; unfold ptL; rw [List.length_append]; unfold maxLen; omega)))
            · simp only [List.getD_cons_zero, List.getD_cons_succ]
              have h4 := Lib.hid (HFX.out 4 (by unfold Rinv.waits; kernel_rfl) (by decide) (fun h => absurd h (by decide)))
              clear HFX
              simp only [Rinv.putAll, RSd, Act.put, Nat.reduceEqDiff, Nat.reduceAdd, if_true, if_false, List.setIfInBounds_toArray, List.set_cons_zero, List.set_cons_succ]
              have HRF := Lib.hid (Refine_any (X 4) (ptL m o) w' h4.out (by unfold ptL; rw [List.length_append]; have := H8.out; omega))
              go_wp2_with (go_at_call 18; refine HRF.out.mono ?_; rintro e w5 ⟨rfl, hb5⟩)
              exact HK.out _ _ (.agg (ptOf m o)) (by simp only [Rinv.putAll, RSd, Act.put, Nat.reduceEqDiff, Nat.reduceAdd, if_true, if_false, List.setIfInBounds_toArray, List.set_cons_zero, List.set_cons_succ]) (HI.out.set hb5 rfl)
            · simp only [List.getD_cons_zero, List.getD_cons_succ]
              clear HFX
              simp only [Rinv.putAll, RSd, Act.put, Nat.reduceEqDiff, Nat.reduceAdd, if_true, if_false, List.setIfInBounds_toArray, List.set_cons_zero, List.set_cons_succ]
              go_wp2_with fail
              exact HK.out _ _ (.pointer (some ⟨w'.heap.size, 0, none⟩)) (by simp only [Rinv.putAll, RSd, Act.put, Nat.reduceEqDiff, Nat.reduceAdd, if_true, if_false, List.setIfInBounds_toArray, List.set_cons_zero, List.set_cons_succ]) (HI.out.set ((Below.refl _ _).alloc (Nat.le_refl _) _) ⟨_, rfl, HI.out.size, heap_alloc_new w' _⟩)
          · intro L X w' hall hI K hK
            have HK := Lib.hid hK
            have HI := Lib.hid hI
            have e5 : X 5 = .agg (ptOf m o) := hI.f 5 (hall 5 (by decide)) (fun h => absurd h (by decide)) (by decide)
            have e6 := hI.f 6 (hall 6 (by decide)) (fun h => absurd h (by decide)) (by decide)
            obtain ⟨pb, e6, hpl, hpr⟩ := e6
            have HPL := Lib.hid hpl
            have HPR0 := Lib.hid hpr
            clear hK hI hall hpl hpr
            obtain ⟨of, hof⟩ : ∃ of, Hid (cls (same (ptL m o)) = of) := ⟨_, Lib.hid rfl⟩
            obtain ⟨nc, hnc⟩ : ∃ nc : Nat, Hid (nh (same (ptL m o)) 256 = nc) := ⟨_, Lib.hid rfl⟩
            have HPR : Hid (prightB of nc = true) := Lib.hid (by rw [← hof.out, ← hnc.out]; exact psame_right _)
            have HWM : Hid (Whole m of) := Lib.hid (by rw [← hof.out]; exact psame_whole (fun S hS => List.mem_append_left _ hS))
            have HWO : Hid (Whole o of) := Lib.hid (by rw [← hof.out]; exact psame_whole (fun S hS => List.mem_append_right _ hS))
            have HNZ : Hid (nc ≠ 0) := Lib.hid (by obtain ⟨k, hk, -, hk2⟩ := pright_is HPR.out; have := hk2 0 (by decide); omega)
            have HN2 : Hid (nc ≤ 256) := Lib.hid (by obtain ⟨k, hk, hk1, hk2⟩ := pright_is HPR.out; omega)
            unfold ptOf at e5
            rw [hof.out, hnc.out] at e5
            simp only [List.getD_cons_zero, List.getD_cons_succ]
            simp only [Rinv.putAll, RSd, Act.put, Nat.reduceEqDiff, Nat.reduceAdd, if_true, if_false, List.setIfInBounds_toArray, List.set_cons_zero, List.set_cons_succ, e5, e6]
            go_wp2_with (refine wpList_store_row rfl 24 (.tmp 5) (.tmp 40) rfl pb (partC of nc) rfl rfl 24 _ HPR0.out (sizeP of nc) (by rw [partC_size, partC_size]) (partC_one of nc) ?_)
            refine HK.out _ _ ?_
            clear HK
            have HK5 : Hid (Kp s w [(pb, .cells (partC of nc) 24 (0, 0)), (s + 1, .cells (mc y o) 46 (0, 0)), (s, .cells (mc x m) 46 (0, 0))] [] (w'.setRow pb (partC of nc))) := Lib.hid (by
              have h1 := HK3.out.stay HI.out.bel
              have hlt : s + 1 < w3.heap.size := (Array.getElem?_eq_some_iff.1 (HK3.out.rows _ (.head _))).1
              have hpl := HPL.out
              have hbel : Below s w (w'.setRow pb (partC of nc)) := But.below h1.bel (But.setRow _ _ _) (by omega) h1.size
              refine ⟨fun p hp => ?_, fun p hp => (by cases hp), hbel, by have := HSW.out _ hbel; exact this⟩
              rcases List.mem_cons.1 hp with rfl | hp
              · exact setRow_heap w' _ _ _ _ _ HPR0.out
              · have hne : p.1 ≠ pb := by
                  rcases List.mem_cons.1 hp with rfl | hp
                  · show s + 1 ≠ pb; omega
                  · rw [List.mem_singleton] at hp; rw [hp]; show s ≠ pb; omega
                exact (setRow_other _ _ _ _ hne).trans (h1.rows p hp))
            clear HK3 HI HPR0 HPL HMY e5 e6 hof hnc H8
            generalize w'.setRow pb (partC of nc) = w5 at *
            generalize X 0 = u0
            generalize X 1 = u1
            generalize X 2 = u2
            generalize X 3 = u3
            generalize X 4 = u4
            clear X L w' w3
            have HBA := Lib.hid (build12_any x m of nc w5 (HMX.out w5 HK5.out.bel).1 HF.out.1 HF.out.2 HPR.out HWM.out (HMX.out w5 HK5.out.bel).2.2)
            obtain ⟨e1, he1⟩ : ∃ e1 : Int, Hid ((if rightM m = true then (0 : Int) else 1) = e1) := ⟨_, Lib.hid rfl⟩
            rw [he1.out] at HBA
            go_upto_region 5 with (first
              | (refine wpList_load_mach rfl _ rfl s x m rfl ⟨HK5.out.rows _ (.tail _ (.tail _ (.head _)))⟩ ?_)
              | (refine wpList_load_row rfl 24 _ rfl pb rfl 24 (partC of nc) (0, 0) _ (HK5.out.rows _ (.head _)) Tryd.underlying24 rfl (sizeP of nc) ?_)
              | (go_at_call 17; refine HBA.out.mono ?_; rintro e w6 ⟨za, a, rfl, hda, hfa, hb6, hza, hga⟩; have HK6 := Lib.hid ((HK5.out.stay hb6).addD hda); have HFA := Lib.hid hfa; have HZA := Lib.hid hza; have HGA := Lib.hid hga; clear hda hfa hb6 hza hga)
              | (refine wpList_lay_dv rfl (.tmp 6) (.tmp 45) rfl za a rfl rfl ?_))
            have HK7 := Lib.hid (HK6.out.push (.cells (dvC za a) 28))
            clear HK6 HK5 HBA
            obtain ⟨ab, hab⟩ : ∃ ab, Hid (w6.heap.size = ab) := ⟨_, Lib.hid rfl⟩
            rw [hab.out] at HK7 ⊢
            generalize w6.alloc (.cells (dvC za a) 28) = w7 at *
            clear hab w5 w6
            have HBB := Lib.hid (build12_any y o of nc w7 (HMX.out w7 HK7.out.bel).2.1 HGF.out.1 HGF.out.2 HPR.out HWO.out (HMX.out w7 HK7.out.bel).2.2)
            obtain ⟨e2, he2⟩ : ∃ e2 : Int, Hid ((if rightM o = true then (0 : Int) else 1) = e2) := ⟨_, Lib.hid rfl⟩
            rw [he2.out] at HBB
            go_upto_region 6 with (first
              | (refine wpList_load_mach rfl _ rfl (s + 1) y o rfl ⟨HK7.out.rows _ (.tail _ (.tail _ (.head _)))⟩ ?_)
              | (refine wpList_load_row rfl 24 _ rfl pb rfl 24 (partC of nc) (0, 0) _ (HK7.out.rows _ (.tail _ (.head _))) Tryd.underlying24 rfl (sizeP of nc) ?_)
              | (go_at_call 17; refine HBB.out.mono ?_; rintro e w8 ⟨zb, b, rfl, hdb, hfb, hb8, hzb, hgb⟩; have HK8 := Lib.hid ((HK7.out.stay hb8).addD hdb); have HFB := Lib.hid hfb; have HZB := Lib.hid hzb; have HGB := Lib.hid hgb; clear hdb hfb hb8 hzb hgb)
              | (refine wpList_lay_dv rfl (.tmp 8) (.tmp 51) rfl zb b rfl rfl ?_))
            have HK9 := Lib.hid (HK8.out.push (.cells (dvC zb b) 28))
            clear HK8 HK7 HBB
            obtain ⟨bb, hbb⟩ : ∃ bb, Hid (w8.heap.size = bb) := ⟨_, Lib.hid rfl⟩
            rw [hbb.out] at HK9 ⊢
            generalize w8.alloc (.cells (dvC zb b) 28) = w9 at *
            clear hbb w7 w8
            have HSF : Hid (rightM m = false ∨ rightM o = false → Calls Tryd.prog 13 #[.agg (dvC za a), .agg (dvC zb b)] w9 fun e w' => e = .returned (.bool false) ∧ Below w9.heap.size w9 w') := Lib.hid (fun hor => by
              have hda := HK9.out.das (za, a) (.tail _ (.head _))
              have hdb := HK9.out.das (zb, b) (.head _)
              have hnz := HNZ.out
              cases hrm : rightM m with
              | false =>
                obtain ⟨rfl, rfl⟩ := HZA.out hrm
                cases hro : rightM o with
                | false =>
                  obtain ⟨rfl, rfl⟩ := HZB.out hro
                  exact msame_wrong x0 x0 d0 d0 w9 hda hdb d0_fine d0_fine d0_wrong d0_wrong rfl rfl
                | true =>
                  have h2 := (HGB.out hro).2.1
                  exact msame_apart x0 zb d0 b w9 (by rw [h2]; show (0 : Int) ≠ (nc : Int); omega)
              | true =>
                have h1 := (HGA.out hrm).2.1
                cases hro : rightM o with
                | false =>
                  obtain ⟨rfl, rfl⟩ := HZB.out hro
                  exact msame_apart za x0 a d0 w9 (by rw [h1]; show (nc : Int) ≠ (0 : Int); omega)
                | true => rw [hrm, hro] at hor; rcases hor with h | h <;> cases h)
            cases hrm : rightM m with
            | false =>
              have HSG := Lib.hid (HSF.out (.inl hrm))
              rw [hrm] at he1
              rw [if_neg Bool.false_ne_true] at he1
              have h1 := he1.out
              subst h1
              clear hrm HSF he2
              go_wp2_with (first
                | (refine wpList_load_df rfl _ rfl ab za a rfl ⟨HK9.out.rows _ (.tail _ (.head _))⟩ ?_)
                | (refine wpList_load_df rfl _ rfl bb zb b rfl ⟨HK9.out.rows _ (.head _)⟩ ?_)
                | (go_at_call 13; refine HSG.out.mono ?_; rintro e w10 ⟨rfl, hb10⟩; have HKA := Lib.hid (HK9.out.stay hb10); clear hb10)
                | (go_at_call 8; refine (HAW.out w10 HKA.out.bel).mono ?_; rintro e w11 ⟨rfl, hb11⟩; have HB11 := Lib.hid (HKA.out.bel.trans (hb11.mono HKA.out.size)); clear hb11))
              go_ret
              exact ⟨rfl, HEND.out _ HB11.out⟩
            | true =>
              cases hro : rightM o with
              | false =>
                have HSG := Lib.hid (HSF.out (.inr hro))
                rw [hrm] at he1
                rw [if_pos rfl] at he1
                rw [hro] at he2
                rw [if_neg Bool.false_ne_true] at he2
                have h1 := he1.out
                have h2 := he2.out
                subst h1
                subst h2
                clear hrm hro HSF
                go_wp2_with (first
                  | (refine wpList_load_df rfl _ rfl ab za a rfl ⟨HK9.out.rows _ (.tail _ (.head _))⟩ ?_)
                  | (refine wpList_load_df rfl _ rfl bb zb b rfl ⟨HK9.out.rows _ (.head _)⟩ ?_)
                  | (go_at_call 13; refine HSG.out.mono ?_; rintro e w10 ⟨rfl, hb10⟩; have HKA := Lib.hid (HK9.out.stay hb10); clear hb10)
                  | (go_at_call 8; refine (HAW.out w10 HKA.out.bel).mono ?_; rintro e w11 ⟨rfl, hb11⟩; have HB11 := Lib.hid (HKA.out.bel.trans (hb11.mono HKA.out.size)); clear hb11))
                go_ret
                exact ⟨rfl, HEND.out _ HB11.out⟩
              | true =>
                have HA1 := Lib.hid (HGA.out hrm)
                have HB1 := Lib.hid (HGB.out hro)
                rw [hrm] at he1
                rw [if_pos rfl] at he1
                rw [hro] at he2
                rw [if_pos rfl] at he2
                have h1 := he1.out
                have h2 := he2.out
                subst h1
                subst h2
                clear hrm hro HSF HGA HGB HZA HZB
                have HSZ : Hid ((a.R.length : Int) * a.n ≤ 100000 ∧ (b.R.length : Int) * b.n ≤ 100000) := Lib.hid (by
                  have hn2 := HN2.out
                  have key : ∀ l : Nat, l ≤ 257 → ((l : Int) * (nc : Int) ≤ 100000) := fun l hl => by
                    have h3 : l * nc ≤ 257 * 256 := Nat.mul_le_mul hl hn2
                    have h4 : ((l * nc : Nat) : Int) = (l : Int) * (nc : Int) := Int.natCast_mul _ _
                    omega
                  rw [HA1.out.2.1, HB1.out.2.1]
                  exact ⟨key _ HA1.out.2.2.2, key _ HB1.out.2.2.2⟩)
                have HXO := Lib.hid (xor_any za zb a b nc w9 (HK9.out.das (za, a) (.tail _ (.head _))) (HK9.out.das (zb, b) (.head _)) HFA.out HFB.out HA1.out.2.2.1 HB1.out.2.2.1 (HA1.out.1.trans HB1.out.1.symm) HA1.out.2.1 HB1.out.2.1 HA1.out.2.2.2 HB1.out.2.2.2)
                go_upto_region 9 with (first
                  | (refine wpList_load_df rfl _ rfl ab za a rfl ⟨HK9.out.rows _ (.tail _ (.head _))⟩ ?_)
                  | (refine wpList_load_df rfl _ rfl bb zb b rfl ⟨HK9.out.rows _ (.head _)⟩ ?_)
                  | (go_at_call 23; refine HXO.out.mono ?_; rintro e w10 ⟨zx, dx, rfl, hdx, hlx, hxx, hb10⟩; have HKA := Lib.hid ((HK9.out.stay hb10).addD hdx); have HLX := Lib.hid hlx; have HXX := Lib.hid hxx; clear hdx hlx hxx hb10)
                  | (refine wpList_lay_dv rfl (.tmp 10) (.tmp 70) rfl zx dx rfl rfl ?_))
                have HKB := Lib.hid (HKA.out.push (.cells (dvC zx dx) 28))
                clear HKA HK9 HXO
                obtain ⟨xb, hxb⟩ : ∃ xb, Hid (w10.heap.size = xb) := ⟨_, Lib.hid rfl⟩
                rw [hxb.out] at HKB ⊢
                generalize w10.alloc (.cells (dvC zx dx) 28) = w11 at *
                clear hxb w9 w10
                have HTX : Hid (noneT dx.F dx.F.length = true ↔ Xa nc a b 0 0) := Lib.hid ((noneT_all _).trans HXX.out)
                have HSA : Hid (∀ W, DAt W za a → DAt W zb b → Calls Tryd.prog 13 #[.agg (dvC za a), .agg (dvC zb b)] W fun e w' => e = .returned (.bool (noneT dx.F dx.F.length)) ∧ Below W.heap.size W w') := Lib.hid (fun W h1 h2 => by
                  refine (msame_any za zb a b nc W h1 h2 HFA.out HFB.out HA1.out.2.2.1 HB1.out.2.2.1 (HA1.out.1.trans HB1.out.1.symm) (HA1.out.2.1.trans HB1.out.2.1.symm) HA1.out.2.1 (by have := HA1.out.2.2.2; omega) HSZ.out.1 (by have := HB1.out.2.2.2; omega) HSZ.out.2).mono ?_
                  rintro e w' ⟨r, rfl, hr, hb⟩
                  exact ⟨by rw [Bool.eq_iff_iff.2 (hr.trans HTX.out.symm)], hb⟩)
                have HSB : Hid (∀ W, DAt W za a → DAt W zb b → Calls Tryd.prog 13 #[.agg (dvC zb b), .agg (dvC za a)] W fun e w' => e = .returned (.bool (noneT dx.F dx.F.length)) ∧ Below W.heap.size W w') := Lib.hid (fun W h1 h2 => by
                  refine (msame_any zb za b a nc W h2 h1 HFB.out HFA.out HB1.out.2.2.1 HA1.out.2.2.1 (HB1.out.1.trans HA1.out.1.symm) (HB1.out.2.1.trans HA1.out.2.1.symm) HB1.out.2.1 (by have := HB1.out.2.2.2; omega) HSZ.out.2 (by have := HA1.out.2.2.2; omega) HSZ.out.1).mono ?_
                  rintro e w' ⟨r, rfl, hr, hb⟩
                  exact ⟨by rw [Bool.eq_iff_iff.2 ((hr.trans Xa.swap).trans HTX.out.symm)], hb⟩)
                clear HXX HTX HSZ
                go_upto_region 13 with fail
                go_loopw [12, 13] (fun v i wr => ∃ j : Nat, v = .bool (noneT dx.F j) ∧ i = .int .i64 j ∧ j ≤ dx.F.length ∧ wr = w11) (fun _ i _ => ((dx.F.length : Int) - intOf i).toNat)
                case atStart => exact ⟨0, rfl, rfl, Nat.zero_le _, rfl⟩
                case round =>
                  obtain ⟨j, rfl, rfl, hj, hwr⟩ := hrel
                  subst hwr
                  have c258 := BoxD.c258 ⟨HKB.out.rows _ (.head _)⟩
                  by_cases hlt : j < dx.F.length
                  · have hdd : decide ((j : Int) < (dx.F.length : Int)) = true := decide_eq_true (by omega)
                    have hd2 : decide (j < dx.F.length) = true := decide_eq_true hlt
                    have hjn : (j : Int) < (dx.F.length : Int) := by omega
                    have HW1 : Hid (wrap64 ((j : Int) + 1) = ((j + 1 : Nat) : Int)) := Lib.hid (nat_wrap (by have := HLX.out; omega))
                    have HN := Lib.hid (noneT_next dx.F hlt)
                    have HJ := Lib.hid hlt
                    obtain ⟨fb, fo, hfe, hfc⟩ := (HKB.out.das (zx, dx) (.head _)).fl j hlt
                    rw [hfe] at c258
                    clear hlt hj hfe
                    generalize dx.F.getD j false = fj at *
                    obtain ⟨q, hq⟩ : ∃ q, Hid (noneT dx.F j = q) := ⟨_, Lib.hid rfl⟩
                    rw [hq.out] at HN ⊢
                    cases q with
                    | false =>
                      go_wp2_with fail
                      go_roundw
                      case rel => exact ⟨j + 1, by rw [HN.out]; rfl, by rw [HW1.out], HJ.out, by first | rfl | trivial⟩
                      case measure => rw [HW1.out]; exact meas9 HJ.out
                    | true =>
                      go_wp2_with fail
                      go_roundw
                      case rel => exact ⟨j + 1, by rw [HN.out]; rfl, by rw [HW1.out], HJ.out, by first | rfl | trivial⟩
                      case measure => rw [HW1.out]; exact meas9 HJ.out
                  · have hdd : decide ((j : Int) < (dx.F.length : Int)) = false := decide_eq_false (by omega)
                    have hd2 : decide (j < dx.F.length) = false := decide_eq_false hlt
                    obtain rfl : j = dx.F.length := by omega
                    clear hlt hj
                    generalize noneT dx.F dx.F.length = T at *
                    cases T with
                    | true =>
                      go_wp2_with (first
                        | (refine wpList_load_df rfl _ rfl ab za a rfl ⟨HKB.out.rows _ (.tail _ (.tail _ (.head _)))⟩ ?_)
                        | (refine wpList_load_df rfl _ rfl bb zb b rfl ⟨HKB.out.rows _ (.tail _ (.head _))⟩ ?_)
                        | (go_at_call 13; refine (HSA.out _ (HKB.out.das (za, a) (.tail _ (.tail _ (.head _)))) (HKB.out.das (zb, b) (.tail _ (.head _)))).mono ?_; rintro e w12 ⟨rfl, hb12⟩; have HKC := Lib.hid (HKB.out.stay hb12); clear hb12 HSA)
                        | (refine BigFrame.wpList_want rfl (fun K' hK' => ?_); refine wp_load_dv _ rfl bb zb b rfl ⟨HKC.out.rows _ (.tail _ (.head _))⟩ ?_; refine hK' _ _ ?_; clear hK' K')
                        | (refine BigFrame.wpList_want rfl (fun K' hK' => ?_); refine wp_load_dv _ rfl ab za a rfl ⟨HKC.out.rows _ (.tail _ (.tail _ (.head _)))⟩ ?_; refine hK' _ _ ?_; clear hK' K')
                        | (go_at_call 13; refine (HSB.out _ (HKC.out.das (za, a) (.tail _ (.tail _ (.head _)))) (HKC.out.das (zb, b) (.tail _ (.head _)))).mono ?_; rintro e w13 ⟨rfl, hb13⟩; have HKD := Lib.hid (HKC.out.stay hb13); clear hb13)
                        | (go_at_call 8; refine (HAW.out _ HKD.out.bel).mono ?_; rintro e w14 ⟨rfl, hb14⟩; have HB14 := Lib.hid (HKD.out.bel.trans (hb14.mono HKD.out.size)); clear hb14))
                      go_ret
                      exact ⟨rfl, HEND.out _ HB14.out⟩
                    | false =>
                      go_wp2_with (first
                        | (refine wpList_load_df rfl _ rfl ab za a rfl ⟨HKB.out.rows _ (.tail _ (.tail _ (.head _)))⟩ ?_)
                        | (refine wpList_load_df rfl _ rfl bb zb b rfl ⟨HKB.out.rows _ (.tail _ (.head _))⟩ ?_)
                        | (go_at_call 13; refine (HSA.out _ (HKB.out.das (za, a) (.tail _ (.tail _ (.head _)))) (HKB.out.das (zb, b) (.tail _ (.head _)))).mono ?_; rintro e w12 ⟨rfl, hb12⟩; have HKC := Lib.hid (HKB.out.stay hb12); clear hb12 HSA)
                        | (refine BigFrame.wpList_want rfl (fun K' hK' => ?_); refine wp_load_dv _ rfl bb zb b rfl ⟨HKC.out.rows _ (.tail _ (.head _))⟩ ?_; refine hK' _ _ ?_; clear hK' K')
                        | (refine BigFrame.wpList_want rfl (fun K' hK' => ?_); refine wp_load_dv _ rfl ab za a rfl ⟨HKC.out.rows _ (.tail _ (.tail _ (.head _)))⟩ ?_; refine hK' _ _ ?_; clear hK' K')
                        | (go_at_call 13; refine (HSB.out _ (HKC.out.das (za, a) (.tail _ (.tail _ (.head _)))) (HKC.out.das (zb, b) (.tail _ (.head _)))).mono ?_; rintro e w13 ⟨rfl, hb13⟩; have HKD := Lib.hid (HKC.out.stay hb13); clear hb13)
                        | (go_at_call 8; refine (HAW.out _ HKD.out.bel).mono ?_; rintro e w14 ⟨rfl, hb14⟩; have HB14 := Lib.hid (HKD.out.bel.trans (hb14.mono HKD.out.size)); clear hb14))
                      go_ret
                      exact ⟨rfl, HEND.out _ HB14.out⟩
end Mi
end Go.Proofs.YtplkhgmjcljjhaaDoor
