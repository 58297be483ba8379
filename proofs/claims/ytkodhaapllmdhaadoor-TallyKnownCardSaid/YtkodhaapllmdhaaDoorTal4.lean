/- Of. -/
import Derived.Test.YtkodhaapllmdhaaDoorTal3
namespace Go.Proofs.YtkodhaapllmdhaaDoor
open Go.RowKit Rk Go.Sort
theorem sort_val {l : List Nat} : (srtD (l.map toD)).toArray.toList.map Dn.v = srt l := rfl
theorem srtD_size (l : List Nat) : (srtD (l.map toD)).toArray.size = l.length := by
  rw [List.size_toArray, (srtD_perm _).length_eq, List.length_map]
theorem mapBlock_at (w : World) (g : Nat) (f : Array Value → Array Value) (cs : Array Value) (t : TypeId) (fr : Nat × Nat) (h : w.heap[g]? = some (.cells cs t fr)) : (mapBlock w g f).heap[g]? = some (.cells (f cs) t fr) := by
  show (w.heap.modify g _)[g]? = _
  rw [Array.getElem?_modify, if_pos rfl, h]
  rfl
theorem set_at (w : World) (g k : Nat) (u : Value) (cs : Array Value) (t : TypeId) (fr : Nat × Nat) (h : w.heap[g]? = some (.cells cs t fr)) : (w.setCell ⟨g, k, none⟩ u).heap[g]? = some (.cells (cs.setIfInBounds k u) t fr) := by
  rw [setCell_eq]; exact mapBlock_at w g _ cs t fr h
theorem set5_at (w : World) (g : Nat) (a0 a1 a2 a3 a4 u0 u1 u2 u3 u4 : Value) (t : TypeId) (fr : Nat × Nat) (h : w.heap[g]? = some (.cells #[a0, a1, a2, a3, a4] t fr)) :
    (((((w.setCell ⟨g, 0, none⟩ u0).setCell ⟨g, 1, none⟩ u1).setCell ⟨g, 2, none⟩ u2).setCell ⟨g, 3, none⟩ u3).setCell ⟨g, 4, none⟩ u4).heap[g]? = some (.cells #[u0, u1, u2, u3, u4] t fr) :=
  set_at _ g 4 u4 _ t fr (set_at _ g 3 u3 _ t fr (set_at _ g 2 u2 _ t fr (set_at _ g 1 u1 _ t fr (set_at _ g 0 u0 _ t fr h))))
theorem below5 {A : Nat} {w0 w : World} (h : Below A w0 w) (g : Nat) (hA : A ≤ g) (u0 u1 u2 u3 u4 : Value) : Below A w0 (((((w.setCell ⟨g, 0, none⟩ u0).setCell ⟨g, 1, none⟩ u1).setCell ⟨g, 2, none⟩ u2).setCell ⟨g, 3, none⟩ u3).setCell ⟨g, 4, none⟩ u4) :=
  ((((h.setCell (p := ⟨g, 0, none⟩) hA u0).setCell (p := ⟨g, 1, none⟩) hA u1).setCell (p := ⟨g, 2, none⟩) hA u2).setCell (p := ⟨g, 3, none⟩) hA u3).setCell (p := ⟨g, 4, none⟩) hA u4
theorem alloc_at (w : World) (o o' : Obj) (g : Nat) (h : w.heap[g]? = some o) : (w.alloc o').heap[g]? = some o := by
  have hlt := (Array.getElem?_eq_some_iff.1 h).1
  show (w.heap.push o')[g]? = _
  rw [Array.getElem?_push, if_neg (by omega)]; exact h
theorem sizeT : (Tryd.prog.info? 24).map (·.size) = some 5 := by kernel_rfl
set_option maxHeartbeats 1600000 in
set_option maxRecDepth 100000 in
theorem of_any (v : Value) (l : List Nat) (w : World) (hq : FloatsAt w v l) (hn : l.length ≤ 1000) :
    Calls Tryd.prog 8 #[v] w fun e w' => e = .returned (tal l).val ∧ Below w.heap.size w w' := by
  have hlen : ∃ a c, v = .slice a l.length c := by obtain ⟨-, -, a, c, rfl, -⟩ := hq; exact ⟨a, c, rfl⟩
  obtain ⟨a, c, rfl⟩ := hlen
  have HQ := Lib.hid hq
  have HN := Lib.hid hn
  clear hq
  have hst : ∀ b a m w, Sem.run Tryd.prog (store a (.float .f64 b) m) w = stored Tryd.prog w a (.float .f64 b) m := fun b a m w => run_store Tryd.prog w a _ m rfl
  go_enter Tryd.func8, Tryd.ntmps8
  go_wp2_with fail
  have hB0 : Below w.heap.size w (w.alloc (.cells #[.int .i64 0, .int .i64 0, .float .f64 0, .float .f64 0, .float .f64 0] 24)) := (Below.refl _ w).alloc (Nat.le_refl _) _
  refine (sort_any _ l _ (HQ.out.below hB0) hn).mono ?_
  rintro e w2 ⟨B, rfl, hB1, hB2, hH, hBl⟩
  have hBB : w.heap.size < B := by rw [World.size_alloc] at hB1; omega
  have hB3 : Below w.heap.size w w2 := hB0.trans (hBl.mono (by simp))
  have hc0 : w2.heap[w.heap.size]? = some (.cells #[.int .i64 0, .int .i64 0, .float .f64 0, .float .f64 0, .float .f64 0] 24 (0, 0)) := by
    rw [hBl.block _ (by simp)]
    show (w.heap.push _)[w.heap.size]? = _
    simp
  clear hB0 hBl hB1
  go_wp2_with fail
  have hD := delete_any B l.length (srtD (l.map toD)).toArray w2 hH (by rw [srtD_size]; exact hn) (by rw [srtD_size]; exact Nat.le_refl _)
  rw [sort_val, srtD_size] at hD
  refine hD.mono ?_
  rintro e w3 ⟨rfl, hF, hB4⟩
  have hp : ((srt l).filter plainB) = pl l := rfl
  rw [hp] at hF
  simp only [hp]
  have hB5 : Below w.heap.size w w3 := hB3.trans (hB4.mono (by omega))
  have hc1 : w3.heap[w.heap.size]? = some (.cells #[.int .i64 0, .int .i64 0, .float .f64 0, .float .f64 0, .float .f64 0] 24 (0, 0)) := by
    rw [hB4.block _ hBB]; exact hc0
  have hpl := pl_le l
  have hpm : ∀ x ∈ pl l, plainB x = true := fun x hx => (pl_mem hx).2
  have HB := Lib.hid hB5
  have HF := Lib.hid hF
  have HM := Lib.hid hpm
  have hsz : w.heap.size < w3.heap.size := (Array.getElem?_eq_some_iff.1 hc1).1
  have hcs : ∀ k u, (#[.int .i64 0, .int .i64 0, .float .f64 0, .float .f64 0, .float .f64 0] : Array Value)[k]? = some u → w3.cell? ⟨w.heap.size, k, none⟩ = some u := fun k u hu => by
    rw [cell_of_row w3 w.heap.size k _ _ _ hc1]; exact hu
  have c0 := hcs 0 _ rfl
  have c1 := hcs 1 _ rfl
  have c2 := hcs 2 _ rfl
  have c3 := hcs 3 _ rfl
  have c4 := hcs 4 _ rfl
  have fz : ∀ k, w3.frozen? ⟨w.heap.size, k, none⟩ = false := fun k => frozen_of_row w3 w.heap.size k _ _ hc1
  have f0 := fz 0
  have f1 := fz 1
  have f2 := fz 2
  have f3 := fz 3
  have f4 := fz 4
  clear hcs fz
  clear hD hH hB2 hBB hB3 hB4 hB5 hF hpm hc0 hp HQ
  have hw1 : wrap64 ((l.length : Int) - ((pl l).length : Int)) = ((l.length - (pl l).length : Nat) : Int) := by unfold wrap64; omega
  have HW1 := Lib.hid hw1
  clear hw1
  go_wp2_with fail
  refine (inf_pos _).mono ?_
  rintro e w' ⟨rfl, rfl⟩
  go_wp2_with fail
  refine (inf_neg _).mono ?_
  rintro e w' ⟨rfl, rfl⟩
  go_wp2_with fail
  refine (nan_is _).mono ?_
  rintro e w' ⟨rfl, rfl⟩
  generalize hcano : cano = z at *
  by_cases h0 : (pl l) = []
  · have hl0 : (pl l).length = 0 := by rw [h0]; rfl
    go_wp2_with fail
    have hfin := alloc_at _ _ (.cells #[.int .i64 (l.length : Int), .int .i64 (l.length : Int), .float .f64 9218868437227405312, .float .f64 18442240474082181120, .float .f64 z] 24) _ (set5_at w3 w.heap.size _ _ _ _ _ (.int .i64 (l.length : Int)) (.int .i64 (l.length : Int)) (.float .f64 9218868437227405312) (.float .f64 18442240474082181120) (.float .f64 z) _ _ hc1)
    have hv : (tal l).val = .agg #[.int .i64 (l.length : Int), .int .i64 (l.length : Int), .float .f64 9218868437227405312, .float .f64 18442240474082181120, .float .f64 z] := by
      unfold tal talP Tl.val
      rw [h0, ← hcano]
      rfl
    rw [hv]
    refine bodyPost_ret (v := .agg #[.int .i64 (l.length : Int), .int .i64 (l.length : Int), .float .f64 9218868437227405312, .float .f64 18442240474082181120, .float .f64 z]) (results_cell_row (p := 2) Tryd.results8 _ _ w.heap.size 24 _ (0, 0) _ rfl hfin Tryd.underlying24 rfl sizeT) rfl ⟨rfl, ?_⟩
    exact (below5 HB.out w.heap.size (Nat.le_refl _) _ _ _ _ _).alloc (by simp only [World.size_setCell]; omega) _
  · have hm := fun w' hw => mean_any (.slice (some ⟨B, 0, none⟩) (pl l).length l.length) (pl l) w' hw HM.out h0 (by omega)
    have hpos : 0 < (pl l).length := List.length_pos_iff.2 h0
    obtain ⟨pf, PH⟩ : ∃ pf, Hid (pf = (pl l).headD 9218868437227405312) := ⟨_, rfl⟩
    obtain ⟨pg, PG⟩ : ∃ pg, Hid (pg = (pl l).getLastD 18442240474082181120) := ⟨_, rfl⟩
    have k0 : w3.cell? ⟨B, 0, none⟩ = some (.float .f64 pf) := by
      obtain ⟨-, -, a', c', e', h'⟩ := HF.out
      cases e'
      obtain ⟨b, o, e2, h2⟩ := h' 0 hpos
      cases e2
      rw [PH.out, h2]
      cases hpl : pl l with
      | nil => exact absurd hpl h0
      | cons x t => rfl
    have k1 : w3.cell? ⟨B, (pl l).length - 1, none⟩ = some (.float .f64 pg) := by
      obtain ⟨-, -, a', c', e', h'⟩ := HF.out
      cases e'
      obtain ⟨b, o, e2, h2⟩ := h' ((pl l).length - 1) (by omega)
      cases e2
      rw [Nat.zero_add] at h2
      rw [PG.out, h2]
      congr 2
      rw [List.getLastD_eq_getLast?, List.getLast?_eq_getElem?, List.getD_eq_getElem?_getD]
      rw [List.getElem?_eq_getElem (by omega)]
      rfl
    have hd1 : decide (0 < (pl l).length) = true := decide_eq_true hpos
    have hBlt : B < w3.heap.size := World.block_lt_of_cell? _ _ k0
    have HMN := Lib.hid hm
    have HP := Lib.hid h0
    clear hm h0
    go_wp2_with fail
    refine (HMN.out _ (HF.out.below ((Below.refl _ w3).alloc (Nat.le_refl _) _))).mono ?_
    rintro e w' ⟨rfl, rfl⟩
    have hmean : meanL (pl l) = meanL (pl l) := rfl
    generalize hmm : meanL (pl l) = m at *
    clear hmean
    go_wp2_with fail
    have hfin := alloc_at _ _ (.cells #[.int .i64 (l.length : Int), .int .i64 ((l.length : Int) - ((pl l).length : Int)), .float .f64 pf, .float .f64 pg, .float .f64 m] 24) _ (set5_at w3 w.heap.size _ _ _ _ _ (.int .i64 (l.length : Int)) (.int .i64 ((l.length : Int) - ((pl l).length : Int))) (.float .f64 pf) (.float .f64 pg) (.float .f64 m) _ _ hc1)
    have hv : (tal l).val = .agg #[.int .i64 (l.length : Int), .int .i64 ((l.length : Int) - ((pl l).length : Int)), .float .f64 pf, .float .f64 pg, .float .f64 m] := by
      unfold tal talP Tl.val
      simp only
      rw [if_neg HP.out, hmm, ← PH.out, ← PG.out, Int.ofNat_sub hpl]
    rw [hv]
    refine bodyPost_ret (v := .agg #[.int .i64 (l.length : Int), .int .i64 ((l.length : Int) - ((pl l).length : Int)), .float .f64 pf, .float .f64 pg, .float .f64 m]) (results_cell_row (p := 2) Tryd.results8 _ _ w.heap.size 24 _ (0, 0) _ rfl hfin Tryd.underlying24 rfl sizeT) rfl ⟨rfl, ?_⟩
    exact (below5 HB.out w.heap.size (Nat.le_refl _) _ _ _ _ _).alloc (by simp only [World.size_setCell]; omega) _
end Go.Proofs.YtkodhaapllmdhaaDoor
