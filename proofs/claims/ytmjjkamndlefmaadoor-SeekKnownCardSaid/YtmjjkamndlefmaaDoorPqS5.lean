/- Path, walked. -/
import Derived.Test.YtmjjkamndlefmaaDoorPqS4
import Derived.Test.YtmjjkamndlefmaaDoorPq12
namespace Go.Proofs.YtmjjkamndlefmaaDoor
open Go.RowKit Sets Nf Df
namespace Sk
/-- How many spots are seen. -/
def cntN (n : Nat) (s : Nat → Bool) : Nat := ((List.range n).filter s).length
theorem cntN_le (n : Nat) (s : Nat → Bool) : cntN n s ≤ n := by
  have := List.length_filter_le s (List.range n)
  rwa [List.length_range] at this
def trueB : Option Value → Bool
  | some (.bool b) => b
  | _ => false
def cntW (W : World) (g n : Nat) : Nat := cntN n fun k => trueB (W.cell? ⟨g, k, none⟩)
theorem cntW_is {W : World} {g n : Nat} {s : Nat → Bool} (h : W.rowIs g 4 n (fun k => .bool (s k))) : cntW W g n = cntN n s := by
  unfold cntW cntN
  congr 1
  refine List.filter_congr fun k hk => ?_
  rw [World.rowIs.cell h (List.mem_range.1 hk)]; rfl
/-- Is something in a map? -/
def neW (W : World) : Value → Nat
  | .map (some g) => match W.heap[g]? with
    | some (.map es _) => if es.size = 0 then 0 else 1
    | _ => 0
  | _ => 0
theorem neW_is {W : World} {g : Nat} {K : List Nat} {T : LdT} (h : MapF W g K T) : neW W (.map (some g)) = if K = [] then 0 else 1 := by
  show (match W.heap[g]? with | some (.map es _) => if es.size = 0 then 0 else 1 | _ => 0) = _
  rw [h.row]
  show (if (entF T 0 K).toArray.size = 0 then 0 else 1) = _
  rw [List.size_toArray, entF_length]
  by_cases e : K = []
  · rw [e]; rfl
  · rw [if_neg (fun h => e (List.length_eq_zero_iff.1 h)), if_neg e]
theorem MapF.len {W : World} {g : Nat} {K : List Nat} {T : LdT} (h : MapF W g K T) (ty : TypeId) : (Builtin.len_ #[75] ty #[.map (some g)]).run Tryd.prog W = .ok (.int .i64 K.length) W := by
  unfold Builtin.len_
  simp [run_underlying Tryd.underlying75, getObj_run h.row, goInt, Result.andThen, entF_length]
section
variable {m : Mc} {j : Nat} {F G : Fr}
theorem Ld.lt (hr : Rt m) {u : List Nat} {k : Nat} (h : Ld m u k) : k < m.sp.length := by
  cases h with
  | one h1 _ => exact fi_lt hr h1
  | more _ h2 _ => exact fo_lt hr h2
theorem Lv.frt (h : Lv m j F) (hr : Rt m) (hS : ∀ k, stN m k < 2 ^ 256) (hj : j ≤ 100000) : FrT m F := by
  refine ⟨fun k hk => (h.best k hk).1.lt hr, fun k hk => ?_, fun k hk => ?_⟩
  · obtain ⟨h1, h2⟩ := h.by' k hk
    rw [h1]; exact (lb_full (hS k) h2).2
  · obtain ⟨h1, h2⟩ := h.by' k hk
    have h3 := (h.best k hk).2.1
    rw [tx_eq hS h1 h2, List.length_append, bs_len] at h3
    simp at h3; omega
theorem Lv.grow (h : Lv m j F) (g : Lv m (j + 1) G) : ∀ k, F.s k = true → G.s k = true := fun k hk => by
  obtain ⟨u, h1, h2⟩ := (h.seen k).1 hk
  exact (g.seen k).2 ⟨u, by omega, h2⟩
theorem cntN_mono {n : Nat} {s t : Nat → Bool} (h : ∀ k, s k = true → t k = true) : cntN n s ≤ cntN n t := by
  unfold cntN
  have : (List.range n).filter s = ((List.range n).filter t).filter s := by
    rw [List.filter_filter]
    refine List.filter_congr fun k _ => ?_
    cases hs : s k with
    | false => rfl
    | true => rw [h k hs]; rfl
  rw [this]
  exact List.length_filter_le _ _
theorem Lv.more (h : Lv m j F) (g : Lv m (j + 1) G) (hr : Rt m) (hne : G.K ≠ []) : cntN m.sp.length F.s + 1 ≤ cntN m.sp.length G.s := by
  obtain ⟨p, hp⟩ := List.exists_mem_of_ne_nil _ hne
  obtain ⟨⟨u, hu, hk⟩, hmin⟩ := (g.mem p).1 hp
  have h1 : G.s p = true := (g.seen p).2 ⟨u, by omega, hk⟩
  have h2 : F.s p = false := by
    cases hs : F.s p with
    | false => rfl
    | true =>
      obtain ⟨v, h3, h4⟩ := (h.seen p).1 hs
      have := hmin v h4
      omega
  exact filter_lt G.s F.s (h.grow g) p h1 h2 (List.range m.sp.length) (List.mem_range.2 (hk.lt hr))
theorem Lv.some1 (h : Lv m 1 F) (hr : Rt m) (hne : F.K ≠ []) : 1 ≤ cntN m.sp.length F.s := by
  obtain ⟨p, hp⟩ := List.exists_mem_of_ne_nil _ hne
  obtain ⟨⟨u, hu, hk⟩, -⟩ := (h.mem p).1 hp
  have h1 : F.s p = true := (h.seen p).2 ⟨u, by omega, hk⟩
  have : p ∈ (List.range m.sp.length).filter F.s := List.mem_filter.2 ⟨List.mem_range.2 (hk.lt hr), h1⟩
  exact List.length_pos_of_mem this
end
/-- What Path answers. -/
def PathIs (m : Mc) (s : ByteArray) (ok : Bool) : Prop :=
  (ok = true ∧ takesM m (bs s) = true ∧ (bs s).length ≤ m.sp.length ∧ ∀ u, takesM m u = true → Le (bs s) u) ∨ (ok = false ∧ s = ⟨#[]⟩ ∧ ∀ u, takesM m u = false)
theorem wpList_build2 {P : Program} {w : World} {ops : Array Oper} {rest : List Oper} {o : Oper} {a : Act} {Q : Exit → Act → World → Prop}
    (hg : o.guard = none) (t : TypeId) (p q : Operand) (hop : o.op = Op.build t #[(0, p), (1, q)]) (u v : Value) (hp : a.eval p = u) (hq : a.eval q = v) {r : Value} (hrun : (Instr.build t #[(0, u), (1, v)]).run P w = .ok r w)
    (hK : wpList P ops Q rest (a.put o.dst r) w) : wpList P ops Q (o :: rest) a w := by
  refine wpList_plain hg fun K' hK' => ?_
  unfold Oper.wp
  simp [execOp, hop, hp, hq, hrun, Result.andThen]
  exact hK' _ _ hK
/-- What the operations of the region that makes the walk say. -/
def RP (x : Ma) (m : Mc) (s A : Nat) : Nat → Value → World → Prop
  | 0, v, _ => v = .agg (mc x m)
  | 1, v, _ => v = .pointer (some ⟨s, 0, none⟩)
  | 2, v, _ => v = .slice x.sa m.sp.length x.sc
  | 3, v, _ => v = .int .i64 (m.sp.length : Nat)
  | 4, v, w => ∃ gs, v = .slice (some ⟨gs, 0, none⟩) m.sp.length m.sp.length ∧ A ≤ gs ∧ w.rowIs gs 4 m.sp.length (fun _ => .bool false)
  | 5, v, w => ∃ gs, v = .agg (wkC x m gs) ∧ A ≤ gs ∧ w.rowIs gs 4 m.sp.length (fun _ => .bool false)
  | 6, v, w => ∃ B, v = .pointer (some ⟨B, 0, none⟩) ∧ A ≤ B ∧ w.heap[B]? = some (.cells #[.slice none 0 0, .slice none 0 0, .slice none 0 0, .slice none 0 0, .bool false, .slice none 0 0] 73 (0, 0))
  | _, _, _ => True
theorem RP_mono (x : Ma) (m : Mc) (s A : Nat) (i : Nat) (v : Value) (w w' : World) (hb : Below w.heap.size w w') (h : RP x m s A i v w) : RP x m s A i v w' := by
  match i with
  | 0 => exact h
  | 1 => exact h
  | 2 => exact h
  | 3 => exact h
  | 4 => obtain ⟨g, e, h0, h1⟩ := h; exact ⟨g, e, h0, World.rowIs.of_block h1 (hb.block g (World.rowIs.lt h1))⟩
  | 5 => obtain ⟨g, e, h0, h1⟩ := h; exact ⟨g, e, h0, World.rowIs.of_block h1 (hb.block g (World.rowIs.lt h1))⟩
  | 6 => obtain ⟨B, e, h0, h1⟩ := h; exact ⟨B, e, h0, (hb.block B (Array.getElem?_eq_some_iff.1 h1).1).trans h1⟩
  | _ + 7 => trivial
def RPd (i : Nat) : Nat := if i = 6 then 4 else i + 13
theorem zeroW (w : World) : (zeroValue 73).run Tryd.prog w = .ok (.agg #[.slice none 0 0, .slice none 0 0, .slice none 0 0, .slice none 0 0, .bool false, .slice none 0 0]) w := by kernel_rfl
theorem buildW (x : Ma) (m : Mc) (gs : Nat) (w : World) : (Instr.build 73 #[(0, .agg (mc x m)), (1, .slice (some ⟨gs, 0, none⟩) m.sp.length m.sp.length)]).run Tryd.prog w = .ok (.agg (wkC x m gs)) w := by
  unfold mc wkC
  kernel_rfl
theorem sizeW (x : Ma) (m : Mc) (gs : Nat) : (Tryd.prog.info? 73).map (·.size) = some (wkC x m gs).size := by
  show _ = some 6
  kernel_rfl
theorem oneW (x : Ma) (m : Mc) (gs : Nat) : (wkC x m gs).all (·.oneCell') = true := by simp [wkC, Value.oneCell']
set_option maxHeartbeats 12800000 in
set_option maxRecDepth 100000 in
theorem path_any (x : Ma) (m : Mc) (w : World) (h : MAt w x m) (hf : Fine m) (hT : Tab w) :
    Calls Tryd.prog 19 #[.agg (mc x m)] w fun e w' => (∃ s ok, e = .returned (.tuple #[.string s, .bool ok]) ∧ PathIs m s ok) ∧ Below w.heap.size w w' := by
  have HG : Hid (0 < w.heap.size) := Lib.hid (World.block_lt_of_cell? _ _ (hT 0 (by decide)))
  have HM0 := Lib.hid h
  have HF := Lib.hid hf
  have HT := Lib.hid hT
  have hzw := zeroW
  obtain ⟨i1, hi1, hz1⟩ := Option.map_eq_some_iff.1 infoBool
  simp only [Prod.mk.injEq] at hz1
  have HI1 := Lib.hid hi1
  have HZ1 := Lib.hid hz1
  clear h hf hT hi1 hz1
  go_enter Tryd.func19, Tryd.ntmps19
  go_upto_region 1 with fail
  have HX0 := Lib.hid (BoxM.new w x m)
  have HB0 := Lib.hid ((Below.refl w.heap.size w).alloc (Nat.le_refl _) (.cells (mc x m) 43))
  have HM1 := Lib.hid (HM0.out.kept HB0.out)
  obtain ⟨s, hs⟩ : ∃ s, Hid (w.heap.size = s) := ⟨_, Lib.hid rfl⟩
  rw [hs.out] at HX0 ⊢
  have HBs : Hid (Below s w (w.alloc (.cells (mc x m) 43))) := Lib.hid (by rw [← hs.out]; exact HB0.out)
  have HT1 := Lib.hid (HT.out.below HBs.out (by rw [← hs.out]; exact HG.out))
  clear HB0 HM0 HT
  generalize w.alloc (.cells (mc x m) 43) = w0 at *
  have HRI := Lib.hid (nright_any x m w0 HM1.out HF.out)
  have HGs : Hid (0 < s) := Lib.hid (by rw [← hs.out]; exact HG.out)
  by_cases hr : rightM m = true
  case neg =>
    have hr : rightM m = false := by simpa using hr
    have HNO : Hid (∀ u, takesM m u = false) := Lib.hid (fun u => by unfold takesM; rw [hr, Bool.false_and])
    rw [hr] at HRI
    clear hr
    go_wp2_with (first
      | (refine wpList_load_mach rfl _ rfl s x m rfl HX0.out ?_)
      | (go_at_call 23; refine HRI.out.mono ?_; rintro e w1 ⟨rfl, hb1⟩; have HB1 := Lib.hid hb1; clear hb1))
    go_ret2
    exact ⟨⟨_, _, rfl, .inr ⟨rfl, rfl, HNO.out⟩⟩, by rw [hs.out]; exact HBs.out.trans (HB1.out.mono (Nat.le_of_lt HX0.out.lt))⟩
  case pos =>
    have HR := Lib.hid ((right_iff m).1 hr)
    rw [hr] at HRI
    clear hr
    have HTK : Hid (∀ u, takesM m u = true ↔ Tk m u) := Lib.hid (fun u => by rw [takes_iff]; exact ⟨fun h => h.2, fun h => ⟨HR.out, h⟩⟩)
    go_upto_region 3 with (first
      | (refine wpList_load_mach rfl _ rfl s x m rfl HX0.out ?_)
      | (go_at_call 23; refine HRI.out.mono ?_; rintro e w1 ⟨rfl, hb1⟩; have HB1 := Lib.hid hb1; clear hb1))
    have HX1 := Lib.hid (HX0.out.kept HB1.out HX0.out.lt)
    have HM2 := Lib.hid (HM1.out.kept HB1.out)
    have HT2 := Lib.hid (HT1.out.below HB1.out (Nat.lt_trans HGs.out HX0.out.lt))
    have HBs1 := Lib.hid (HBs.out.trans (HB1.out.mono (Nat.le_of_lt HX0.out.lt)))
    clear HX0 HM1 HT1 HBs HB1 HRI
    clear w0
    have c4 := HX1.out.c4
    cases hem : m.em with
    | true =>
      have HE : Hid (PathIs m ⟨#[]⟩ true) := Lib.hid (.inl ⟨rfl, (HTK.out []).2 hem, Nat.zero_le _, fun u _ => Le.nil u⟩)
      rw [hem] at c4
      clear hem
      go_wp2_with fail
      go_ret2
      exact ⟨⟨_, _, rfl, HE.out⟩, by rw [hs.out]; exact HBs1.out⟩
    | false =>
      have HEM := Lib.hid hem
      rw [hem] at c4
      clear hem
      go_upto_region 5 with fail
      clear c4
      obtain ⟨A, hA⟩ : ∃ A, Hid (w1.heap.size = A) := ⟨_, Lib.hid rfl⟩
      refine Rinv.region_inv' (RP x m s A) 7 RPd (by kernel_rfl) (by kernel_rfl) ?_ (RP_mono x m s A) ?_ ?_
      · intro j hj
        have : j = 0 ∨ j = 1 ∨ j = 2 ∨ j = 3 ∨ j = 4 ∨ j = 5 ∨ j = 6 := by omega
        rcases this with rfl | rfl | rfl | rfl | rfl | rfl | rfl <;> rfl
      · intro i hi X w' hB hR K hK
        have HK := Lib.hid hK
        have HBW := Lib.hid hB
        clear hK hB
        have hi' : i = 0 ∨ i = 1 ∨ i = 2 ∨ i = 3 ∨ i = 4 ∨ i = 5 ∨ i = 6 := by omega
        rcases hi' with rfl | rfl | rfl | rfl | rfl | rfl | rfl
        · simp only [List.getD_cons_zero]
          clear hR
          simp only [Rinv.putAll, RPd, Act.put, Nat.reduceEqDiff, Nat.reduceAdd, if_true, if_false, List.setIfInBounds_toArray, List.set_cons_zero, List.set_cons_succ]
          go_wp2_with (refine wpList_load_mach rfl _ rfl s x m rfl (HX1.out.kept HBW.out HX1.out.lt) ?_)
          exact HK.out _ _ (.agg (mc x m)) (by simp only [Rinv.putAll, RPd, Act.put, Nat.reduceEqDiff, Nat.reduceAdd, if_true, if_false, List.setIfInBounds_toArray, List.set_cons_zero, List.set_cons_succ]) (Below.refl _ _) (rfl)
        · simp only [List.getD_cons_zero, List.getD_cons_succ]
          clear hR
          simp only [Rinv.putAll, RPd, Act.put, Nat.reduceEqDiff, Nat.reduceAdd, if_true, if_false, List.setIfInBounds_toArray, List.set_cons_zero, List.set_cons_succ]
          go_wp2_with fail
          exact HK.out _ _ (.pointer (some ⟨s, 0, none⟩)) (by simp only [Rinv.putAll, RPd, Act.put, Nat.reduceEqDiff, Nat.reduceAdd, if_true, if_false, List.setIfInBounds_toArray, List.set_cons_zero, List.set_cons_succ]) (Below.refl _ _) (rfl)
        · simp only [List.getD_cons_zero, List.getD_cons_succ]
          have e1 : X 1 = _ := (show RP x m s A 1 (X 1) w' from hR 1 (by decide) (by unfold Rinv.waits; kernel_rfl))
          have c0 := (HX1.out.kept HBW.out HX1.out.lt).c0
          clear hR
          simp only [Rinv.putAll, RPd, Act.put, Nat.reduceEqDiff, Nat.reduceAdd, if_true, if_false, List.setIfInBounds_toArray, List.set_cons_zero, List.set_cons_succ, e1]
          go_wp2_with fail
          exact HK.out _ _ (.slice x.sa m.sp.length x.sc) (by simp only [Rinv.putAll, RPd, Act.put, Nat.reduceEqDiff, Nat.reduceAdd, if_true, if_false, List.setIfInBounds_toArray, List.set_cons_zero, List.set_cons_succ, e1]) (Below.refl _ _) (rfl)
        · simp only [List.getD_cons_zero, List.getD_cons_succ]
          have e2 : X 2 = _ := (show RP x m s A 2 (X 2) w' from hR 2 (by decide) (by unfold Rinv.waits; kernel_rfl))
          clear hR
          simp only [Rinv.putAll, RPd, Act.put, Nat.reduceEqDiff, Nat.reduceAdd, if_true, if_false, List.setIfInBounds_toArray, List.set_cons_zero, List.set_cons_succ, e2]
          go_wp2_with fail
          exact HK.out _ _ (.int .i64 (m.sp.length : Nat)) (by simp only [Rinv.putAll, RPd, Act.put, Nat.reduceEqDiff, Nat.reduceAdd, if_true, if_false, List.setIfInBounds_toArray, List.set_cons_zero, List.set_cons_succ, e2]) (Below.refl _ _) (rfl)
        · simp only [List.getD_cons_zero, List.getD_cons_succ]
          have e3 : X 3 = _ := (show RP x m s A 3 (X 3) w' from hR 3 (by decide) (by unfold Rinv.waits; kernel_rfl))
          clear hR
          simp only [Rinv.putAll, RPd, Act.put, Nat.reduceEqDiff, Nat.reduceAdd, if_true, if_false, List.setIfInBounds_toArray, List.set_cons_zero, List.set_cons_succ, e3]
          go_wp2_with (refine wpList_make_row _ rfl (.tmp 16) (.tmp 16) 26 rfl 4 i1 (.bool false) Tryd.underlying26 HI1.out HZ1.out.1 HZ1.out.2.1 rfl .i64 .i64 m.sp.length rfl rfl (by rw [HZ1.out.2.2]; have := HF.out.sp; omega) (by have := HF.out.sp; omega) ?_)
          exact HK.out _ _ (.slice (some ⟨w'.heap.size, 0, none⟩) m.sp.length m.sp.length) (by simp only [Rinv.putAll, RPd, Act.put, Nat.reduceEqDiff, Nat.reduceAdd, if_true, if_false, List.setIfInBounds_toArray, List.set_cons_zero, List.set_cons_succ, e3]) ((Below.refl _ _).alloc (Nat.le_refl _) _) (⟨_, rfl, by rw [← hA.out]; exact HBW.out.size, World.rowIs_made w' (.bool false) m.sp.length 4⟩)
        · simp only [List.getD_cons_zero, List.getD_cons_succ]
          have e0 : X 0 = _ := (show RP x m s A 0 (X 0) w' from hR 0 (by decide) (by unfold Rinv.waits; kernel_rfl))
          obtain ⟨gs, e4, hg4, hs4⟩ : RP x m s A 4 (X 4) w' := hR 4 (by decide) (by unfold Rinv.waits; kernel_rfl)
          have HG4 := Lib.hid hg4
          have HS4 := Lib.hid hs4
          clear hg4 hs4
          have hb5 := Lib.hid (buildW x m gs)
          generalize hcs : mc x m = cs at *
          generalize hwk : wkC x m gs = ws at *
          clear hR
          simp only [Rinv.putAll, RPd, Act.put, Nat.reduceEqDiff, Nat.reduceAdd, if_true, if_false, List.setIfInBounds_toArray, List.set_cons_zero, List.set_cons_succ, e0, e4]
          go_wp2_with (refine wpList_build2 rfl 73 (.tmp 13) (.tmp 17) rfl (.agg cs) (.slice (some ⟨gs, 0, none⟩) m.sp.length m.sp.length) rfl rfl (hb5.out _) ?_)
          exact HK.out _ _ (.agg ws) (by simp only [Rinv.putAll, RPd, Act.put, Nat.reduceEqDiff, Nat.reduceAdd, if_true, if_false, List.setIfInBounds_toArray, List.set_cons_zero, List.set_cons_succ, e0, e4]) (Below.refl _ _) (⟨gs, by rw [hwk], HG4.out, HS4.out⟩)
        · simp only [List.getD_cons_zero, List.getD_cons_succ]
          clear hR
          simp only [Rinv.putAll, RPd, Act.put, Nat.reduceEqDiff, Nat.reduceAdd, if_true, if_false, List.setIfInBounds_toArray, List.set_cons_zero, List.set_cons_succ]
          go_wp2_with fail
          exact HK.out _ _ (.pointer (some ⟨w'.heap.size, 0, none⟩)) (by simp only [Rinv.putAll, RPd, Act.put, Nat.reduceEqDiff, Nat.reduceAdd, if_true, if_false, List.setIfInBounds_toArray, List.set_cons_zero, List.set_cons_succ]) ((Below.refl _ _).alloc (Nat.le_refl _) _) (⟨_, rfl, by rw [← hA.out]; exact HBW.out.size, heap_alloc_new w' _⟩)
      · intro X w' hB hR K hK
        have HK := Lib.hid hK
        have HBW := Lib.hid hB
        clear hK hB
        obtain ⟨gs, e5, hg5, hs5⟩ : RP x m s A 5 (X 5) w' := hR 5 (by decide)
        obtain ⟨B, e6, hB6, hr6⟩ : RP x m s A 6 (X 6) w' := hR 6 (by decide)
        have HG5 := Lib.hid hg5
        have HS5 := Lib.hid hs5
        have HB6 := Lib.hid hB6
        have HR6 := Lib.hid hr6
        obtain ⟨g4, e4, -, -⟩ : RP x m s A 4 (X 4) w' := hR 4 (by decide)
        have e0 : X 0 = _ := hR 0 (by decide)
        have e1 : X 1 = _ := hR 1 (by decide)
        have e2 : X 2 = _ := hR 2 (by decide)
        have e3 : X 3 = _ := hR 3 (by decide)
        clear hg5 hs5 hB6 hr6 hR
        simp only [List.getD_cons_zero, List.getD_cons_succ]
        simp only [Rinv.putAll, RPd, Act.put, Nat.reduceEqDiff, Nat.reduceAdd, if_true, if_false, List.setIfInBounds_toArray, List.set_cons_zero, List.set_cons_succ, e0, e1, e2, e3, e4, e5, e6]
        clear e0 e1 e2 e3 e4 e5 e6
        go_wp2_with (refine wpList_store_row rfl 73 (.tmp 4) (.tmp 18) rfl B (wkC x m gs) rfl rfl 73 _ HR6.out (sizeW x m gs) rfl (oneW x m gs) ?_)
        refine HK.out _ _ ?_
        clear HK
        have HNE : Hid (B ≠ gs) := Lib.hid (by
          obtain ⟨c2, h2⟩ := row_type HS5.out
          exact type_ne HR6.out h2 (by decide))
        have hbr := But.setRow (w := w') B (wkC x m gs)
        have HBX := Lib.hid (BoxW.mk (x := x) (m := m) (gs := gs) (setRow_heap w' B _ _ _ _ HR6.out))
        have HSN := Lib.hid (World.rowIs.of_block HS5.out (hbr.block gs (World.rowIs.lt HS5.out) HNE.out.symm))
        have HBA : Hid (Below A w1 (w'.setRow B (wkC x m gs))) := Lib.hid (by
          have h9 := HBW.out
          rw [hA.out] at h9
          exact hbr.below h9 HB6.out (by rw [← hA.out]; exact HBW.out.size))
        clear hbr HBW HR6 HS5 HB6
        generalize w'.setRow B (wkC x m gs) = v1 at *
        clear X
        clear w'
        have HSA : Hid (s ≤ A) := Lib.hid (by rw [← hA.out]; exact Nat.le_of_lt HX1.out.lt)
        have HAV : Hid (A ≤ v1.heap.size) := Lib.hid (by rw [← hA.out]; exact HBA.out.size)
        have HBL : Hid (∀ W, But gs v1 W → Below A w1 W) := Lib.hid (fun W hW => hW.below HBA.out HG5.out HAV.out)
        have HEV : Hid (EnvW v1 B gs x m) := Lib.hid (by
          refine ⟨fun W hW => ⟨⟨(hW.block B HBX.out.lt HNE.out).trans HBX.out.row⟩, ?_, ?_⟩, fun k hk => ?_, World.rowIs.lt HSN.out⟩
          · have h9 := HBL.out W hW
            rw [← hA.out] at h9
            exact HM2.out.kept h9
          · exact HT2.out.below (HBL.out W hW) (Nat.lt_of_lt_of_le HGs.out HSA.out)
          · obtain ⟨b, o, y, cy, h1, h2, h3⟩ := HM2.out.fo k hk
            refine ⟨b, o, y, cy, h1, fun W hW => ?_⟩
            have h9 := HBL.out W hW
            rw [← hA.out] at h9
            exact ⟨(h9.cell (World.block_lt_of_cell? _ _ h2)).trans h2, h3.kept h9⟩)
        have HST : Hid (∀ k, stN m k < 2 ^ 256) := Lib.hid (fun k => by
          unfold stN
          rcases Nat.lt_or_ge k m.sp.length with h1 | h1
          · exact (HF.out.set _ (getD_mem h1)).1
          · rw [getD_ge h1]; exact Nat.two_pow_pos 256)
        have hmm := @run_makeMap Tryd.prog
        go_upto_region 7 with fail
        have HMP := Lib.hid (MapF.made v1 (fun _ => (⟨#[]⟩, 0)))
        have hal := (Below.refl v1.heap.size v1).alloc (Nat.le_refl _) (.map #[] 0)
        have HSN2 := Lib.hid (World.rowIs.of_block HSN.out (hal.block gs (World.rowIs.lt HSN.out)))
        have HB2 := Lib.hid (But.of_below (B := gs) hal)
        obtain ⟨g0, hg0⟩ : ∃ g0, Hid (v1.heap.size = g0) := ⟨_, Lib.hid rfl⟩
        rw [hg0.out] at HMP ⊢
        have HLO : Hid (v1.heap.size ≤ g0) := Lib.hid (Nat.le_of_eq hg0.out)
        clear hal hmm
        generalize v1.alloc (.map #[] 0) = w2 at *
        have c1 : w2.cell? ⟨s, 1, none⟩ = some (.slice x.fa m.fi.length x.fc) := by
          have h9 := HBL.out _ HB2.out
          have h1 := HX1.out.c1
          have hlt := HX1.out.lt
          rw [hA.out] at hlt
          exact (h9.cell (p := ⟨s, 1, none⟩) hlt).trans h1
        have HEN := Lib.hid (enter_any v1 B gs x m HEV.out.env HF.out ⟨[], fun _ => (⟨#[]⟩, 0), fun _ => false⟩ g0 x.fa x.fc m.fi ⟨#[]⟩ w2 HB2.out HLO.out HEV.out.gs HMP.out HSN2.out (fun W hW => (HEV.out.env W hW).mat.fi) ((rise_iff _ _).1 HR.out.fiR).1 HF.out.fi)
        have HLV : Hid (Lv m 1 (entL m ⟨#[]⟩ ⟨[], fun _ => (⟨#[]⟩, 0), fun _ => false⟩ m.fi)) := Lib.hid (by
          refine Lv.first HST.out (L := m.fi.map fun k => (⟨#[]⟩, k.toNat)) (fun y => ?_) (enp_fold m (fun _ => false) _ [] _ (EnP.start m _ _))
          rw [testBit_grp, List.mem_map, List.mem_map]
          constructor
          · rintro ⟨k, hk, rfl⟩; exact ⟨rfl, k, hk, rfl⟩
          · rintro ⟨h1, k, hk, h2⟩; exact ⟨k, hk, by rw [← h1]; exact Prod.ext rfl h2⟩)
        generalize hF1 : entL m ⟨#[]⟩ ⟨[], fun _ => (⟨#[]⟩, 0), fun _ => false⟩ m.fi = F1 at *
        clear hF1
        have HN1 : Hid (∀ u, u ≠ [] → Tk m u → 1 ≤ u.length) := Lib.hid (fun u hu _ => List.length_pos_iff.2 hu)
        have HC1 := Lib.hid (fun h => HLV.out.some1 HR.out h)
        clear HMP HSN2 hg0
        go_upto_region 8 with (go_at_call 35; refine HEN.out.mono ?_; rintro e w3 ⟨rfl, hm3, hs3, ho3⟩; have HFR := Lib.hid (FrM.mk hm3 hs3 (Off.but HB2.out ho3 HLO.out) HLO.out); clear hm3 hs3 ho3)
        clear HEN c1 HB2
        clear w2
        go_loopw [5, 6, 7] (fun v _ _ wr => ∃ (g : Nat) (F : Fr) (j : Nat), v = .map (some g) ∧ Hid (FrM v1 wr gs m.sp.length g F) ∧ Hid (Lv m j F) ∧ Hid (0 < j) ∧ Hid (∀ u, u ≠ [] → Tk m u → j ≤ u.length) ∧ Hid (F.K ≠ [] → j ≤ cntN m.sp.length F.s)) (fun v _ _ wr => (m.sp.length - cntW wr gs m.sp.length) + neW wr v)
        case atStart => exact ⟨g0, F1, 1, rfl, HFR, HLV, Lib.hid (by decide), HN1, HC1⟩
        case round =>
          clear HFR HLV HN1 HC1 HLO
          obtain ⟨g, F, j, rfl, HFR, HLV, HJ0, HNO, HCN⟩ := hrel
          generalize hwr : wr = w4 at *
          clear hwr wr w3
          have hln := HFR.out.mp.len
          have HBW4 : Hid (Below s w w4) := Lib.hid (HBs1.out.trans ((HBL.out _ HFR.out.but).mono HSA.out))
          by_cases hK : F.K = []
          · have HNV := Lib.hid (HLV.out.never HJ0.out HNO.out hK)
            have HPI : Hid (PathIs m ⟨#[]⟩ false) := Lib.hid (.inr ⟨rfl, rfl, fun u => by
              cases ht : takesM m u with
              | false => rfl
              | true =>
                exfalso
                have h1 := (HTK.out u).1 ht
                cases u with
                | nil => rw [show Tk m [] = (m.em = true) from rfl, HEM.out] at h1; cases h1
                | cons c u => exact HNV.out _ (by simp) h1⟩)
            have hdd : decide ((0 : Int) < (F.K.length : Int)) = false := decide_eq_false (by rw [hK]; decide)
            have hd2 : decide (0 < F.K.length) = false := decide_eq_false (by rw [hK]; decide)
            clear hK
            go_wp2_with fail
            go_ret2
            exact ⟨⟨_, _, rfl, HPI.out⟩, by rw [hs.out]; exact HBW4.out⟩
          · have hpos : 0 < F.K.length := List.length_pos_iff.2 hK
            have hdd : decide ((0 : Int) < (F.K.length : Int)) = true := decide_eq_true (by omega)
            have hd2 : decide (0 < F.K.length) = true := decide_eq_true hpos
            have HCF : Hid (j ≤ cntN m.sp.length F.s) := Lib.hid (HCN.out hK)
            have HJN : Hid (j ≤ m.sp.length) := Lib.hid (Nat.le_trans (HCN.out hK) (cntN_le _ _))
            have HFT := Lib.hid (HLV.out.frt HR.out HST.out (by have := HJN.out; have := HF.out.sp; omega))
            have HLS := Lib.hid (wleast_any v1 B gs x m HEV.out HR.out F g w4 HFR.out HFT.out)
            have HMS : Hid ((m.sp.length - cntW w4 gs m.sp.length) + neW w4 (.map (some g)) = (m.sp.length - cntN m.sp.length F.s) + 1) := Lib.hid (by
              rw [cntW_is HFR.out.sn, neW_is HFR.out.mp, if_neg hK])
            clear hpos hK
            go_upto_region 10 with (go_at_call 36; refine HLS.out.mono ?_; rintro e w5 ⟨⟨t, ok, rfl, hle⟩, hb5⟩; have HLE := Lib.hid hle; have HB5 := Lib.hid hb5; clear hle hb5)
            have HFR5 : Hid (FrM v1 w5 gs m.sp.length g F) := Lib.hid ⟨HFR.out.mp.of (HB5.out.block _ HFR.out.mp.lt), World.rowIs.of_block HFR.out.sn (HB5.out.block _ (World.rowIs.lt HFR.out.sn)), HFR.out.but.trans (But.of_below HB5.out), HFR.out.low⟩
            have HBW5 : Hid (Below s w w5) := Lib.hid (HBs1.out.trans ((HBL.out _ HFR5.out.but).mono HSA.out))
            clear hln HLS HFR HBW4 HB5 hdd hd2
            cases ok with
            | true =>
              have HPI : Hid (PathIs m t true) := Lib.hid (by
                rcases HLE.out with ⟨-, p, hp, h1, h2, h3⟩ | ⟨h1, -⟩
                · obtain ⟨h4, h5⟩ := HLV.out.found HNO.out hp h1 (fun k hk hl => by have := h3 k hk hl; rw [h2] at this; exact this)
                  refine .inl ⟨rfl, (HTK.out _).2 (by rw [h2]; exact h4), ?_, fun u hu => ?_⟩
                  · rw [h2, show (bs (ldT (F.T p))).length = j from (HLV.out.best p hp).2.1]; exact HJN.out
                  · have h6 := (HTK.out u).1 hu
                    cases u with
                    | nil => rw [show Tk m [] = (m.em = true) from rfl, HEM.out] at h6; cases h6
                    | cons c u => rw [h2]; exact h5 _ (by simp) h6
                · cases h1)
              go_wp2_with fail
              go_ret2
              exact ⟨⟨_, _, rfl, HPI.out⟩, by rw [hs.out]; exact HBW5.out⟩
            | false =>
              have HPS : Hid (∀ u, u ≠ [] → Tk m u → j + 1 ≤ u.length) := Lib.hid (by
                rcases HLE.out with ⟨h1, -⟩ | ⟨-, -, h3⟩
                · cases h1
                · exact HLV.out.pass HNO.out h3)
              have HBH := Lib.hid (behind_any v1 B gs x m HEV.out HF.out HR.out F g w5 HFR5.out HFT.out)
              go_wp2_with (go_at_call 37; refine HBH.out.mono ?_; rintro e w6 ⟨g2, G, L, rfl, hfr, henp, hL⟩; have HFR6 := Lib.hid hfr; have HLV2 := Lib.hid (HLV.out.next HST.out HJ0.out hL henp); clear hfr henp hL)
              have HMT : Hid ((m.sp.length - cntW w6 gs m.sp.length) + neW w6 (.map (some g2)) < (m.sp.length - cntW w4 gs m.sp.length) + neW w4 (.map (some g))) := Lib.hid (by
                rw [HMS.out, cntW_is HFR6.out.sn, neW_is HFR6.out.mp]
                have h1 := cntN_le m.sp.length G.s
                by_cases hG : G.K = []
                · rw [if_pos hG]
                  have h2 := cntN_mono (n := m.sp.length) (HLV.out.grow HLV2.out)
                  omega
                · rw [if_neg hG]
                  have h2 := HLV.out.more HLV2.out HR.out hG
                  omega)
              have HCN2 : Hid (G.K ≠ [] → j + 1 ≤ cntN m.sp.length G.s) := Lib.hid (fun hG => by
                have h2 := HLV.out.more HLV2.out HR.out hG
                have h3 : j ≤ cntN m.sp.length F.s := HCF.out
                omega)
              go_roundw
              case rel => exact ⟨g2, G, j + 1, rfl, HFR6, HLV2, Lib.hid (Nat.succ_pos _), HPS, HCN2⟩
              case measure => exact HMT.out
end Sk
end Go.Proofs.YtmjjkamndlefmaaDoor
