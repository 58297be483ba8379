/- behind: the spots that follow. -/
import Derived.Test.YtlbaecjmfgahgaaDoorNf6
namespace Go.Proofs.YtlbaecjmfgahgaaDoor
open Go.RowKit Go.Shelf Sets Nf
attribute [local go_sem] Oper.semAt_some
namespace Nf
/-- what has come to all from the spots pre -/
def orG (G : List Nat) (l : List Nat) : Nat := l.foldl (fun a k => a ||| G.getD k 0) 0
theorem orG_snoc (G l : List Nat) (k : Nat) : orG G (l ++ [k]) = orG G l ||| G.getD k 0 := by simp [orG]
theorem orG_bh (G : List Nat) (q : Nat) : orG G (listN q) = bh G q := rfl
/-- the words below i turned -/
def mixW (A T i : Nat) : Array Value := #[.int .u64 (wd (if 0 < i then A ||| T else A) 0), .int .u64 (wd (if 1 < i then A ||| T else A) 1), .int .u64 (wd (if 2 < i then A ||| T else A) 2), .int .u64 (wd (if 3 < i then A ||| T else A) 3)]
theorem wpListIn_load_mid {F : Fence} {n l : Nat} {P : Program} {ops : Array Oper} {rest : List Oper} {o : Oper} {a : Act} {w : World} {Q : Exit → Act → World → Prop} (hF : F.round = some l) (hgd : o.guard = none) (ty : TypeId) (x : Operand) (ho : o.op = .load ty x)
    (b q : Nat) (hx : a.eval x = .pointer (some ⟨b, q, none⟩)) (cs : List Value) (d : TypeDesc) (hc : w.rangeAt b q cs) (hu : P.underlying ty = some d) (hd : d.isRow = true) (hi : (P.info? ty).map (·.size) = some cs.length)
    (h : wpListIn F n P ops Q rest (a.put o.dst (.agg cs.toArray)) w) : wpListIn F n P ops Q (o :: rest) a w := by
  refine wpListIn_plain hgd fun K hK => ⟨fun f hf => (by unfold Oper.about at hf; simp only [ho] at hf; cases hf), ?_⟩
  rw [hF, Oper.semAt_some l _ o (fun c e => by rw [ho] at e; cases e)]
  unfold execOp
  simp only [ho, hx, run_loadAt_mid w b q ty cs d hc hu hd hi, Sem.run_bind, Sem.run_pure, Result.andThen_ok]
  exact hK _ _ h
theorem mix_zero (A T : Nat) : mixW A T 0 = setC A := rfl
theorem mix_four (A T : Nat) : mixW A T 4 = setC (A ||| T) := rfl
theorem mix_get (A T i : Nat) (hi : i < 4) : (mixW A T i)[i]? = some (.int .u64 (wd A i)) := by
  have : i = 0 ∨ i = 1 ∨ i = 2 ∨ i = 3 := by omega
  rcases this with rfl | rfl | rfl | rfl <;> rfl
theorem mix_set (A T i : Nat) (hi : i < 4) : (mixW A T i).setIfInBounds i (.int .u64 (wd (A ||| T) i)) = mixW A T (i + 1) := by
  have : i = 0 ∨ i = 1 ∨ i = 2 ∨ i = 3 := by omega
  rcases this with rfl | rfl | rfl | rfl <;> rfl
def BhI (s n6 ga : Nat) (G : List Nat) (gg : Nat) (w : World) (pre : List (In gg)) (W : World) : Prop :=
  SetB W (s + 1 + 1 + 1) (orG G (pre.map Subtype.val)) ∧ SetB W (s + 1 + 1) 0 ∧ Below s w W ∧ W.cell? ⟨s, 0, none⟩ = some (.slice (some ⟨ga, 0, none⟩) G.length G.length) ∧ n6 ≤ W.heap.size
set_option maxHeartbeats 6400000 in
set_option maxRecDepth 100000 in
theorem behind_any (ga : Nat) (G : List Nat) (g : Nat) (w : World) (h : GsB w ga G) (hgl : ∀ k, g.testBit k = true → k < G.length) (hT : Tab w) :
    Calls Tryd.prog 35 #[.slice (some ⟨ga, 0, none⟩) G.length G.length, .agg (setC g)] w fun e w' => e = .returned (.agg (setC (bh G g))) ∧ Below w.heap.size w w' := by
  have HG : Hid (0 < w.heap.size) := Lib.hid (World.block_lt_of_cell? _ _ (hT 0 (by decide)))
  refine (callsIn_wide (n := 9)).1 ?_
  refine callsIn_of_wp_marks Tryd.func35 rfl trivial ?_ rfl
  simp only [Tryd.ntmps35, List.size_toArray, List.length_cons, List.length_nil, Nat.reduceAdd, Nat.reduceSub, Array.replicate_succ, Array.replicate_zero, List.push_toArray, List.append_toArray, List.nil_append, List.cons_append]
  refine wpIn_wide.2 ?_
  go_upto_region 2 with fail
  rw [zeroC]
  obtain ⟨w5, hw5⟩ : ∃ w5, w5 = (((w.alloc (.cells #[.slice (some ⟨ga, 0, none⟩) G.length G.length] 43)).alloc (.cells (setC g) 39)).alloc (.cells (setC 0) 39)).alloc (.cells (setC 0) 39) := ⟨_, rfl⟩
  rw [← hw5]
  have b5 : Below w.heap.size w w5 := by
    rw [hw5]
    exact ((((Below.refl _ _).alloc (Nat.le_refl _) _).alloc (by simp) _).alloc (by simp <;> omega) _).alloc (by simp <;> omega) _
  have z5 : w5.heap.size = w.heap.size + 1 + 1 + 1 + 1 := by rw [hw5]; simp
  have c5 : w5.cell? ⟨w.heap.size, 0, none⟩ = some (.slice (some ⟨ga, 0, none⟩) G.length G.length) := by
    rw [hw5]
    repeat rw [World.cell?_alloc_past _ _ _ (by simp only [World.size_alloc]; omega)]
    rw [World.cell?_alloc_at _ _ _ _ rfl]; rfl
  have s5 : SetB w5 (w.heap.size + 1) g := by
    rw [hw5]
    have := SetB.new (w.alloc (.cells #[.slice (some ⟨ga, 0, none⟩) G.length G.length] 43)) g
    rw [World.size_alloc] at this
    exact (this.kept ((Below.refl (w.heap.size + 1 + 1) _).alloc (by simp) _) (by omega)).kept ((Below.refl (w.heap.size + 1 + 1) _).alloc (by simp) _) (by omega)
  have t5 : SetB w5 (w.heap.size + 1 + 1) 0 := by
    rw [hw5]
    have := SetB.new ((w.alloc (.cells #[.slice (some ⟨ga, 0, none⟩) G.length G.length] 43)).alloc (.cells (setC g) 39)) 0
    simp only [World.size_alloc] at this
    exact this.stay ((Below.refl _ _).alloc (by simp <;> omega) _)
  have u5 : SetB w5 (w.heap.size + 1 + 1 + 1) 0 := by
    rw [hw5]
    have := SetB.new (((w.alloc (.cells #[.slice (some ⟨ga, 0, none⟩) G.length G.length] 43)).alloc (.cells (setC g) 39)).alloc (.cells (setC 0) 39)) 0
    simp only [World.size_alloc] at this
    exact this
  clear hw5
  go_wp2_with (first
    | (refine wpList_load_set rfl (.tmp 3) rfl (w.heap.size + 1) g rfl s5 ?_)
    | (go_at_call 24; refine (each_any g w5).mono ?_; rintro e w6 ⟨rfl, rfl⟩))
  have b6 : Below w.heap.size w (w5.alloc (.cells (setC g) 39)) := b5.alloc (by omega) _
  have z6 : (w5.alloc (.cells (setC g) 39)).heap.size = w.heap.size + 1 + 1 + 1 + 1 + 1 := by simp [z5]
  have c6 : (w5.alloc (.cells (setC g) 39)).cell? ⟨w.heap.size, 0, none⟩ = some (.slice (some ⟨ga, 0, none⟩) G.length G.length) := by rw [World.cell?_alloc_past _ _ _ (by omega)]; exact c5
  have s6 := SetB.new w5 g
  have t6 := t5.stay ((Below.refl _ w5).alloc (Nat.le_refl _) (.cells (setC g) 39))
  have u6 := u5.stay ((Below.refl _ w5).alloc (Nat.le_refl _) (.cells (setC g) 39))
  rw [z5] at s6
  generalize w5.alloc (.cells (setC g) 39) = w6 at *
  clear b5 c5 s5 t5 u5
  have HT6 := hT.below b6 HG.out
  have HGG := Lib.hid hgl
  have HZ := Lib.hid z6
  clear hgl z6 z5
  refine (wpIn_wide (n := 9)).1 ?_
  refine wpIn_rangeFunc_ownF rfl (by decide) (gf := 44) (lb := #[.pointer (some ⟨w.heap.size + 1 + 1 + 1 + 1, 0, none⟩)]) rfl trivial (enters_of Tryd.func44 (by kernel_rfl) rfl)
    (each_stops 8 (by decide) w.heap.size (w.heap.size + 1 + 1 + 1 + 1) g w6 s6 HT6 HG.out (by rw [HZ.out]; omega)) belowK_t ?hkb (Below.refl _ _) (fun _ => rfl)
    (fun pre W => BhI w.heap.size w6.heap.size ga G g w pre W)
    (fun _ _ _ => False) ?hI (fun _ _ _ _ _ hs _ _ => hs) ?h0
    (fun k => { tmps := #[.slice (some ⟨ga, 0, none⟩) G.length G.length, .agg (setC g), .pointer (some ⟨w.heap.size, 0, none⟩), .pointer (some ⟨w.heap.size + 1, 0, none⟩), .pointer (some ⟨w.heap.size + 1 + 1, 0, none⟩), .pointer (some ⟨w.heap.size + 1 + 1 + 1, 0, none⟩), .int .i64 (k.1 : Nat), undef, undef, .agg (setC g), .func (.func 44) #[] #[.pointer (some ⟨w.heap.size + 1 + 1 + 1 + 1, 0, none⟩)], .int .i64 (k.1 : Nat), undef, undef, undef, undef, undef, undef, undef, undef, undef, undef, undef, undef, undef, undef, undef, undef], defers := [] }) ?assign ?body ?done ?stop
  case hkb =>
    intro W l o o' hl hh h1 h2
    exact belowK_b (w := w6) (by rw [HZ.out]; omega) W l o o' hl hh h1 h2
  case hI =>
    rintro s W W' row ⟨h1, h2, h3, h4, h6⟩ hg hr
    have hne : ∀ b, b < w6.heap.size → some b ≠ row := fun b hb e => by have := (hr _ e.symm).1; omega
    have hz := HZ.out
    exact ⟨h1.grown hg (hne _ (by omega)), h2.grown hg (hne _ (by omega)), h3.grown hg h3.size (fun k e => by have := (hr k e).1; omega), cell_grown h4 hg (hne _ (by omega)), Nat.le_trans h6 hg.size⟩
  case h0 => exact ⟨u6, t6, b6, c6, Nat.le_refl _⟩
  case assign =>
    intro l x W K hK
    gi_wp2
    exact hK
  case body =>
    rintro l pre ⟨k, hk1, hk2⟩ W ⟨hS, hZ, hB, hc1, hsz⟩ _
    have hkL := HGG.out k hk1
    have hr := (h.kept hB h.lt).range hkL
    have hix : ((k : Nat) : Int) < (G.length : Int) := by omega
    have HOR := Lib.hid (orG_snoc G (pre.map Subtype.val) k)
    have HR := Lib.hid hr
    have HB := Lib.hid hB
    have HS := Lib.hid hS
    have HZZ := Lib.hid hZ
    have HSZ := Lib.hid hsz
    have HB0 := Lib.hid (World.block_lt_of_cell? _ _ hc1)
    clear hr hB hS hZ hsz
    generalize G.getD k 0 = T at *
    generalize hA : orG G (pre.map Subtype.val) = A at *
    clear hA
    have HKL := Lib.hid hkL
    clear hkL
    gi_wp2_with (refine wpListIn_load_mid rfl rfl 39 (.tmp 14) rfl ga (k * 4) rfl (setC T).toList _ HR.out Tryd.underlying39 rfl (sizeSetL _) ?_; rw [show (setC T).toList.toArray = setC T from rfl]; unfold setC)
    gi_loopw [16] (fun x wr => ∃ i : Nat, x = .int .i64 i ∧ i ≤ 4 ∧ Hid (wr.heap[w.heap.size + 1 + 1 + 1]? = some (.cells (mixW A T i) 39 (0, 0))) ∧ Hid (But (w.heap.size + 1 + 1 + 1) W wr)) (fun x _ => 4 - (intOf x).toNat)
    case atStart => exact ⟨0, rfl, by decide, Lib.hid HS.out.row, Lib.hid (But.refl _ _)⟩
    case round =>
      obtain ⟨i, rfl, hi, HRow, HBut⟩ := hrel
      generalize hwr : wr = W2 at *
      clear hwr wr
      by_cases hlt : i < 4
      · have hdd : decide ((i : Int) < 4) = true := decide_eq_true (by omega)
        have hd2 : decide (i < 4) = true := decide_eq_true hlt
        have HW1 : Hid (wrap64 ((i : Int) + 1) = ((i + 1 : Nat) : Int)) := Lib.hid (by unfold wrap64; omega)
        have hix2 := idxk T i hlt
        have hce : W2.cell? ⟨w.heap.size + 1 + 1 + 1, i, none⟩ = some (.int .u64 (wd A i)) := by rw [cell_of_row W2 _ i _ _ _ HRow.out]; exact mix_get A T i hlt
        have hfr : W2.frozen? ⟨w.heap.size + 1 + 1 + 1, i, none⟩ = false := frozen_of_row W2 _ i _ _ HRow.out
        have hor := bor_wd A T i
        have HMS := Lib.hid (mix_set A T i hlt)
        have hi4 : (i : Int) < 4 := by omega
        have HLT := Lib.hid hlt
        clear hlt
        generalize wd (A ||| T) i = z at *
        gi_wp2
        refine ⟨⟨i + 1, rfl, by have := HLT.out; omega, Lib.hid ?_, Lib.hid (HBut.out.trans (But.set _ _ _ _))⟩, ?_⟩
        · rw [heap_setCell_same _ _ _ _ _ _ HRow.out, HMS.out]
        · have := HLT.out; simp only [intOf]; omega
      · have hie : i = 4 := by omega
        subst hie
        have HR4 : Hid (SetB W2 (w.heap.size + 1 + 1 + 1) (A ||| T)) := Lib.hid ⟨HRow.out⟩
        gi_wp2
        have hz := HZ.out
        have hw := HSZ.out
        refine ⟨keeps_but HBut.out HS.out, But.below (Below.refl _ _) HBut.out (by omega) (Nat.le_of_lt HB0.out), ?_, HZZ.out.but HBut.out (by omega), But.below HB.out HBut.out (by omega) HB.out.size, HBut.out.cell hc1 (by show w.heap.size ≠ _; omega), Nat.le_trans HSZ.out HBut.out.size⟩
        rw [List.map_append, List.map_cons, List.map_nil, HOR.out]
        exact HR4.out
  case done =>
    rintro D ys W hD hy ⟨hS, hZ, hB, -⟩ hK
    rw [hy, orG_bh] at hS
    have hz := HZ.out
    go_wp2_with (first
      | (refine wpList_load_set rfl (.tmp 5) rfl (w.heap.size + 1 + 1 + 1) (bh G g) rfl hS ?_)
      | (refine wpList_store_set rfl (.tmp 4) (.tmp 27) rfl (w.heap.size + 1 + 1) 0 (bh G g) rfl rfl hZ ?_))
    have hK2 : (W.setRow (w.heap.size + 1 + 1) (setC (bh G g))).heap[D]? = some (.deferred (some [])) := by rw [setRow_other _ _ _ _ (by omega)]; exact hK
    have hR3 := hZ.put (bh G g)
    have hB3 : Below w.heap.size w (W.setRow (w.heap.size + 1 + 1) (setC (bh G g))) := But.below hB (But.setRow _ _ _) (by omega) hB.size
    generalize W.setRow (w.heap.size + 1 + 1) (setC (bh G g)) = W9 at *
    have hR4 : (W9.putObj D (.deferred none)).heap[w.heap.size + 1 + 1]? = some (.cells (setC (bh G g)) 39 (0, 0)) := by rw [World.putObj_heap_other (by omega)]; exact hR3.row
    refine ⟨by simp, .inl ⟨_, _, rfl, run_takeDeferred hK2, ?_⟩⟩
    refine ⟨.agg (setC (bh G g)), results_cell_row (p := 4) Tryd.results35 _ _ (w.heap.size + 1 + 1) 39 _ (0, 0) _ rfl hR4 Tryd.underlying39 rfl (sizeSet _), rfl, ?_⟩
    exact hB3.trans (belowK_b (w := w) (Nat.le_refl _) W9 D _ _ (by omega) hK2 rfl rfl)
  case stop =>
    rintro D c pre W _ _ h _
    exact h.elim
end Nf
end Go.Proofs.YtlbaecjmfgahgaaDoor
