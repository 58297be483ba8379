/- A row of sets of the call's own: groups. -/
import Derived.Test.YtlbaecjmfgahgaaDoorNf3
import Derived.Laws.MakeOwn
namespace Go.Proofs.YtlbaecjmfgahgaaDoor
open Go.RowKit Sets Nf
namespace Nf
/-- Block g is a row of these sets. -/
def GsB (w : World) (g : Nat) (G : List Nat) : Prop := w.rowIs g 39 (4 * G.length) (fun j => .int .u64 (wd (G.getD (j / 4) 0) (j % 4)))
theorem GsB.lt {w : World} {g : Nat} {G : List Nat} (h : GsB w g G) : g < w.heap.size := World.rowIs.lt h
theorem GsB.of {w w' : World} {g : Nat} {G : List Nat} (h : GsB w g G) (e : w'.heap[g]? = w.heap[g]?) : GsB w' g G := World.rowIs.of_block h e
theorem GsB.kept {w w' : World} {A g : Nat} {G : List Nat} (h : GsB w g G) (hb : Below A w w') (hA : g < A) : GsB w' g G := h.of (hb.block _ hA)
theorem GsB.stay {w w' : World} {g : Nat} {G : List Nat} (h : GsB w g G) (hb : Below w.heap.size w w') : GsB w' g G := h.kept hb h.lt
theorem GsB.but {w w' : World} {A g : Nat} {G : List Nat} (h : GsB w g G) (hb : But A w w') (hA : g ≠ A) : GsB w' g G := h.of (hb.block _ h.lt hA)
theorem GsB.range {w : World} {g : Nat} {G : List Nat} (h : GsB w g G) {i : Nat} (hi : i < G.length) : w.rangeAt g (i * 4) (setC (G.getD i 0)).toList := by
  intro j v hv
  have hj : j < 4 := by have := (List.getElem?_eq_some_iff.1 hv).1; simpa [setC] using this
  rw [World.rowIs.cell h (by omega), show (i * 4 + j) / 4 = i from by omega, show (i * 4 + j) % 4 = j from by omega]
  rw [← hv]
  have : j = 0 ∨ j = 1 ∨ j = 2 ∨ j = 3 := by omega
  rcases this with rfl | rfl | rfl | rfl <;> rfl
theorem GsB.there {w : World} {g : Nat} {G : List Nat} (h : GsB w g G) {i : Nat} (hi : i < G.length) (T : Nat) : w.there g (i * 4) (setC T).size := by
  intro j hj
  have hj : j < 4 := hj
  refine ⟨?_, World.rowIs.frozen h _⟩
  rw [World.rowIs.cell h (by omega)]; rfl
theorem GsB.new (w : World) (n : Nat) : GsB (w.alloc (.cells (madeCells #[.int .u64 0, .int .u64 0, .int .u64 0, .int .u64 0] (n * 4)) 39)) w.heap.size (List.replicate n 0) := by
  have h := World.rowIs_alloc w (madeCells #[.int .u64 0, .int .u64 0, .int .u64 0, .int .u64 0] (n * 4)) 39 (fun j => .int .u64 (wd ((List.replicate n 0).getD (j / 4) 0) (j % 4))) (fun i hi => by
    rw [size_madeCells] at hi
    have h0 : (List.replicate n 0).getD (i / 4) 0 = 0 := by
      rw [List.getD_eq_getElem?_getD, List.getElem?_replicate]
      split <;> rfl
    rw [h0, wd_zero]
    have h1 : i % 4 = 0 ∨ i % 4 = 1 ∨ i % 4 = 2 ∨ i % 4 = 3 := by omega
    unfold madeCells
    rcases h1 with h1 | h1 | h1 | h1 <;> simp [hi, h1])
  rw [size_madeCells] at h
  unfold GsB
  rw [show 4 * (List.replicate n 0).length = n * 4 from by rw [List.length_replicate]; omega]
  exact h
theorem GsB.set {w : World} {g : Nat} {G : List Nat} (h : GsB w g G) {i : Nat} (hi : i < G.length) (T : Nat) : GsB (w.setCells g (i * 4) (setC T).toList) g (G.set i T) := by
  unfold GsB
  rw [List.length_set]
  refine World.rowIs.congr (World.rowIs.set (World.rowIs.set (World.rowIs.set (World.rowIs.set h (i * 4) (.int .u64 (wd T 0))) (i * 4 + 1) (.int .u64 (wd T 1))) (i * 4 + 1 + 1) (.int .u64 (wd T 2))) (i * 4 + 1 + 1 + 1) (.int .u64 (wd T 3))) ?_
  intro j hj
  have hget : (G.set i T).getD (j / 4) 0 = if j / 4 = i then T else G.getD (j / 4) 0 := by
    rw [List.getD_eq_getElem?_getD, List.getElem?_set]
    by_cases e : i = j / 4
    · rw [if_pos e, if_pos (by omega), if_pos e.symm]; rfl
    · rw [if_neg e, if_neg (fun x => e x.symm), List.getD_eq_getElem?_getD]
  rw [hget]
  by_cases e : j / 4 = i
  · rw [if_pos e]
    have h1 : j % 4 = 0 ∨ j % 4 = 1 ∨ j % 4 = 2 ∨ j % 4 = 3 := by omega
    rcases h1 with h1 | h1 | h1 | h1
    · rw [h1, if_neg (by omega), if_neg (by omega), if_neg (by omega), if_pos (by omega)]
    · rw [h1, if_neg (by omega), if_neg (by omega), if_pos (by omega)]
    · rw [h1, if_neg (by omega), if_pos (by omega)]
    · rw [h1, if_pos (by omega)]
  · rw [if_neg e, if_neg (by omega), if_neg (by omega), if_neg (by omega), if_neg (by omega)]
theorem But.cells4 (g o : Nat) (w : World) (T : Nat) : But g w (w.setCells g o (setC T).toList) :=
  (((But.set g w o _).trans (But.set g _ (o + 1) _)).trans (But.set g _ (o + 1 + 1) _)).trans (But.set g _ (o + 1 + 1 + 1) _)
theorem infoSet4 : (Tryd.prog.info? 39).map (fun i => (i.zero.map (·.cells), i.size, i.bytes)) = some (some #[.int .u64 0, .int .u64 0, .int .u64 0, .int .u64 0], 4, 32) := by kernel_rfl
theorem wpList_make_sets {w : World} {ops : Array Oper} {rest : List Oper} {o : Oper} {a : Act} {Q : Exit → Act → World → Prop}
    (hg : o.guard = none) (l c : Operand) (hop : o.op = Op.makeSlice 43 l c) (n : Nat) (hl : a.eval l = .int .i64 (n : Int)) (hc : a.eval c = .int .i64 (n : Int)) (hn : n ≤ 1000)
    (hK : wpList Tryd.prog ops Q rest (a.put o.dst (.slice (some ⟨w.heap.size, 0, none⟩) n n)) (w.alloc (.cells (madeCells #[.int .u64 0, .int .u64 0, .int .u64 0, .int .u64 0] (n * 4)) 39))) :
    wpList Tryd.prog ops Q (o :: rest) a w := by
  refine wpList_plain hg fun K hK' => ?_
  obtain ⟨i, hi, hzz⟩ := Option.map_eq_some_iff.1 infoSet4
  simp only [Prod.mk.injEq] at hzz
  obtain ⟨hz, hs, hb⟩ := hzz
  obtain ⟨z, hz1, hz2⟩ := Option.map_eq_some_iff.1 hz
  have hrun := run_make (P := Tryd.prog) w 43 39 i z Tryd.underlying43 hi hz1 .i64 .i64 n n (by omega) (Int.le_refl _) (by rw [hb]; omega) (by omega)
  simp only [Int.toNat_natCast, hs, hz2] at hrun
  unfold Oper.wp
  simp [execOp, hop, hl, hc, hrun, Result.andThen]
  exact hK' _ _ hK
theorem wpList_store_at {ops : Array Oper} {rest : List Oper} {o : Oper} {a : Act} {w : World} {Q : Exit → Act → World → Prop} (hgd : o.guard = none) (X Y : Operand) (ho : o.op = .store 39 X Y)
    (g j T : Nat) (hx : a.eval X = .pointer (some ⟨g, j, none⟩)) (hy : a.eval Y = .agg (setC T)) (ht : w.there g j (setC T).size) (h : wpList Tryd.prog ops Q rest (a.put o.dst undef) (w.setCells g j (setC T).toList)) : wpList Tryd.prog ops Q (o :: rest) a w :=
  wpList_store_mid hgd 39 X Y ho g j (setC T) hx hy ht (sizeSet T) (oneSet T) h
set_option maxHeartbeats 3200000 in
set_option maxRecDepth 100000 in
theorem groups_any (a : Option Addr) (cap : Nat) (L : List (List Int)) (w : World) (h : ListsIn w a L) (hl : L.length ≤ 1000) (hn : ∀ l ∈ L, l.length ≤ 1000 ∧ ∀ k ∈ l, 0 ≤ k ∧ k < 256) :
    Calls Tryd.prog 32 #[.slice a L.length cap] w fun e w' => ∃ g, e = .returned (.slice (some ⟨g, 0, none⟩) L.length L.length) ∧ GsB w' g (L.map grp) ∧ w.heap.size ≤ g ∧ Below w.heap.size w w' := by
  have HN := Lib.hid h
  have HL := Lib.hid hl
  have HK := Lib.hid hn
  clear h hn hl
  go_enter Tryd.func32, Tryd.ntmps32
  go_upto_region 2 with (refine wpList_make_sets rfl (.tmp 7) (.tmp 7) rfl L.length rfl rfl HL.out ?_)
  have HG := Lib.hid (GsB.new w L.length)
  have HB := Lib.hid ((Below.refl w.heap.size w).alloc (Nat.le_refl _) (.cells (madeCells #[.int .u64 0, .int .u64 0, .int .u64 0, .int .u64 0] (L.length * 4)) 39))
  generalize w.alloc (.cells (madeCells #[.int .u64 0, .int .u64 0, .int .u64 0, .int .u64 0] (L.length * 4)) 39) = w1 at *
  obtain ⟨g, hg⟩ : ∃ g, Hid (w.heap.size = g) := ⟨_, Lib.hid rfl⟩
  rw [hg.out] at HG ⊢
  go_wp2_with fail
  go_loopw [11] (fun i wr => ∃ (j : Nat) (G : List Nat), i = .int .i64 j ∧ j ≤ L.length ∧ Hid (GsB wr g G) ∧ Hid (G.length = L.length ∧ ∀ q, q < j → G.getD q 0 = grp (L.getD q [])) ∧ Hid (Below w.heap.size w wr)) (fun i _ => ((L.length : Int) - intOf i).toNat)
  case atStart => exact ⟨0, _, rfl, Nat.zero_le _, HG, Lib.hid ⟨by simp, fun q hq => by omega⟩, HB⟩
  case round =>
    obtain ⟨j, G, rfl, hj, HG2, HE, HB2⟩ := hrel
    generalize hwr : wr = w2 at *
    clear hwr wr HG HB w1
    have HN2 := Lib.hid (HN.out.kept HB2.out)
    by_cases hlt : j < L.length
    · have hdd : decide ((j : Int) < (L.length : Int)) = true := decide_eq_true (by omega)
      have hd2 : decide (j < L.length) = true := decide_eq_true hlt
      obtain ⟨b, o, x, c, rfl, hc, hn⟩ := HN2.out j hlt
      have HX := Lib.hid (HK.out _ (getD_mem (d := []) hlt))
      have HW1 : Hid (wrap64 ((j : Int) + 1) = ((j + 1 : Nat) : Int)) := Lib.hid (by have := HL.out; unfold wrap64; omega)
      have HGR := Lib.hid (group_any x c (L.getD j []) w2 hn HX.out.1 HX.out.2)
      have HGN : Hid (∀ q, q < j + 1 → (G.set j (grp (L.getD j []))).getD q 0 = grp (L.getD q [])) := Lib.hid (fun q hq => by
        rw [List.getD_eq_getElem?_getD, List.getElem?_set]
        by_cases e : j = q
        · subst e; rw [if_pos rfl, if_pos (by rw [HE.out.1]; omega)]; rfl
        · rw [if_neg e, ← List.getD_eq_getElem?_getD]; exact HE.out.2 q (by omega))
      clear hn
      generalize L.getD j [] = l at *
      have hjL : (j : Int) < (L.length : Int) := by omega
      have hjG : j < G.length := by rw [HE.out.1]; exact hlt
      have HJG := Lib.hid hjG
      clear hjG
      go_wp2_with (first
        | (go_at_call 33; refine HGR.out.mono ?_; rintro e w3 ⟨rfl, hb3⟩; have HB3 := Lib.hid hb3; clear hb3)
        | (refine wpList_store_at rfl (.tmp 20) (.tmp 19) rfl g (j * 4) (grp l) rfl rfl ((HG2.out.stay HB3.out).there HJG.out _) ?_))
      go_roundw
      case rel => exact ⟨j + 1, G.set j (grp l), by rw [HW1.out], hlt, Lib.hid ((HG2.out.stay HB3.out).set HJG.out _), Lib.hid ⟨by rw [List.length_set]; exact HE.out.1, HGN.out⟩, Lib.hid (But.below (HB2.out.trans (HB3.out.mono HB2.out.size)) (But.cells4 _ _ _ _) (Nat.le_of_eq hg.out) (Nat.le_trans HB2.out.size HB3.out.size))⟩
      case measure => rw [HW1.out]; exact meas9 hlt
    · have hdd : decide ((j : Int) < (L.length : Int)) = false := decide_eq_false (by omega)
      have hd2 : decide (j < L.length) = false := decide_eq_false hlt
      have HT : Hid (G = L.map grp) := Lib.hid (by
        refine List.ext_getElem? fun q => ?_
        rw [List.getElem?_map]
        by_cases hq : q < L.length
        · have := HE.out.2 q (by omega)
          rw [List.getD_eq_getElem?_getD, List.getElem?_eq_getElem (by rw [HE.out.1]; exact hq), List.getD_eq_getElem?_getD, List.getElem?_eq_getElem hq] at this
          rw [List.getElem?_eq_getElem (by rw [HE.out.1]; exact hq), List.getElem?_eq_getElem hq]
          simpa using this
        · rw [List.getElem?_eq_none (by rw [HE.out.1]; omega), List.getElem?_eq_none (by omega)]; rfl)
      rw [HT.out] at HG2
      go_wp2_with fail
      go_ret
      exact ⟨g, rfl, HG2.out, Nat.le_of_eq hg.out, HB2.out⟩
end Nf
end Go.Proofs.YtlbaecjmfgahgaaDoor
