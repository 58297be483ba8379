/- Slices of doubles; Sort. -/
import Derived.Test.YtkodhaapllmdhaaDoorTal1
import Derived.Test.YtkodhaapllmdhaaDoorSrtM
import Derived.Test.YtkodhaapllmdhaaDoorSrtL
namespace Go.Proofs.YtkodhaapllmdhaaDoor
open Go.RowKit Rk Go.Sort
/-- v is a slice of these doubles. -/
def FloatsAt (w : World) (v : Value) (l : List Nat) : Prop :=
  (∀ x ∈ l, x < 2 ^ 64) ∧ l.length ≤ maxLen ∧ ∃ a cap, v = .slice a l.length cap ∧ ∀ i, i < l.length → ∃ b o, a = some ⟨b, o, none⟩ ∧ w.cell? ⟨b, o + i, none⟩ = some (.float .f64 (l.getD i 0))
theorem FloatsAt.below {w w' : World} {v : Value} {l : List Nat} (h : FloatsAt w v l) (hb : Below w.heap.size w w') : FloatsAt w' v l := by
  obtain ⟨h1, h2, a, c, rfl, h3⟩ := h
  refine ⟨h1, h2, a, c, rfl, fun i hi => ?_⟩
  obtain ⟨b, o, rfl, hc⟩ := h3 i hi
  exact ⟨b, o, rfl, (hb.cell (p := ⟨b, o + i, none⟩) (World.block_lt_of_cell? _ _ hc)).trans hc⟩
theorem below_putRow {α : Type} [Inhabited α] (e : α → Value) {A : Nat} {w0 w : World} (h : Below A w0 w) (blk off : Nat) (hA : A ≤ blk) (d : Array α) : Below A w0 (putRow e w blk off d) := by
  refine ⟨h.os, h.tape, h.output, ?_, fun j hj => ?_⟩
  · rw [size_putRow]; exact h.size
  · rw [← h.block j hj]
    show (w.heap.modify blk _)[j]? = _
    rw [Array.getElem?_modify, if_neg (by omega)]
theorem below_grow {A : Nat} {w0 w : World} (h : Below A w0 w) (hA : A ≤ w.heap.size) (os : Array Obj) : Below A w0 (grow w os) := by
  refine ⟨h.os, h.tape, h.output, ?_, fun j hj => ?_⟩
  · show _ ≤ (w.heap ++ os).size
    rw [Array.size_append]
    have := h.size
    omega
  · rw [← h.block j hj]
    exact heap_grow_old w os (by omega)
theorem below_sortWorld {α : Type} [Inhabited α] (e : α → Value) {A : Nat} {w0 w : World} (h : Below A w0 w) (blk off n : Nat) (hA : A ≤ blk) (hB : A ≤ w.heap.size) (d : Array α) (os : Array Obj) : Below A w0 (sortWorld e w blk off n d os) := by
  unfold sortWorld
  refine below_grow (below_putRow e (w := Sort.ahead w n) ⟨h.os, h.tape, h.output, h.size, h.block⟩ blk off hA d) ?_ os
  rw [size_putRow]; exact hB
theorem holds_set {α : Type} [Inhabited α] (e : α → Value) {w : World} {g off : Nat} {d : Array α} (h : Holds e w g off d) (i : Nat) (hi : i < d.size) (x : α) : Holds e (w.setCell ⟨g, off + i, none⟩ (e x)) g off (d.setIfInBounds i x) := by
  have h1 := putRow_set e w g off d i x hi
  rw [putRow_self e w g off d h] at h1
  rw [h1]
  exact holds_putRow e w g off d _ h (by simp)
theorem one_enc : OneCell enc := fun _ => rfl
theorem eg13 : ∀ args w, (callFunc 13 args).run Tryd.prog w = .ok (.enter 13 args) w := enters_of Tryd.func13 (by kernel_rfl) rfl
theorem cmp_reads (blk off size : Nat) (w : World) : CmpReads Tryd.prog 13 #[] enc cfD blk off size w :=
  fun _ _ _ _ x y => (compare_any x.v y.v x.lt y.lt _).mono fun _ _ ⟨he, hw⟩ => ⟨he, 0, hw.symm⟩
theorem sortfunc_any (B cap : Nat) (d : Array Dn) (w : World) (hH : Holds enc w B 0 d) (hB : B < w.heap.size) (hn : d.size ≤ 1000) :
    Calls Tryd.prog 34 #[.slice (some ⟨B, 0, none⟩) d.size cap, .func (.func 13) #[] #[]] w fun e w' =>
      e = .returned (.tuple #[]) ∧ ∃ n os, w' = sortWorld enc w B 0 n (srtD d.toList).toArray os :=
  (Any.slices_SortFunc Tryd.sortL enc one_enc cfD swoD 13 #[] B 0 cap d w eg13 (cmp_reads B 0 d.size w).lays hH hB (by omega)).mono fun _ _ ⟨he, d', n, os, hp, hs, hw⟩ =>
    ⟨he, n, os, by rw [hw]; unfold srtD; rw [← sorted_unique_holds swoD totD d d' hp hs]⟩
theorem infoD : (Tryd.prog.info? 22).map (fun i => (i.zero, i.size, i.bytes)) = some (some (.float .f64 0), 1, 8) := by kernel_rfl
/-- a new row of zeros -/
theorem made_row (w : World) (n : Nat) (hn : n ≤ 1000) :
    ∃ w1, (Instr.makeSlice 35 (.int .i64 (n : Int)) (.int .i64 (n : Int))).run Tryd.prog w = .ok (.slice (some ⟨w.heap.size, 0, none⟩) n n) w1 ∧
      Holds enc w1 w.heap.size 0 (Array.replicate n (toD 0)) ∧ Below w.heap.size w w1 ∧ w.heap.size < w1.heap.size := by
  obtain ⟨i, hi, hii⟩ := Option.map_eq_some_iff.1 infoD
  simp only [Prod.mk.injEq] at hii
  obtain ⟨i1, i2, i3⟩ := hii
  have hr := run_make (P := Tryd.prog) w 35 22 i (.float .f64 0) Tryd.underlying35 hi i1 .i64 .i64 (n : Int) (n : Int) (by omega) (by omega) (by rw [i3]; omega) (by omega)
  simp only [Int.toNat_natCast] at hr
  refine ⟨_, hr, fun j hj => ?_, (Below.refl _ w).alloc (Nat.le_refl _) _, by simp⟩
  rw [Array.size_replicate] at hj
  have h0 : (Array.replicate n (toD 0))[j]! = toD 0 := by rw [getElem!_pos _ j (by simpa using hj)]; simp
  have e0 : enc (toD 0) = .float .f64 0 := by unfold enc; rw [toD_v (by decide)]; rfl
  rw [h0, e0, Nat.zero_add, i2, Nat.mul_one]
  refine ⟨?_, World.frozen?_alloc_new w _ _ _⟩
  rw [World.cell?_alloc_new]
  simp [madeCells, hj, Value.cells, Nat.mod_one]
theorem getD_lt {l : List Nat} (h : ∀ x ∈ l, x < 2 ^ 64) (k : Nat) : l.getD k 0 < 2 ^ 64 := by
  rw [List.getD_eq_getElem?_getD]
  rcases Nat.lt_or_ge k l.length with hk | hk
  · rw [List.getElem?_eq_getElem hk]; exact h _ (List.getElem_mem hk)
  · rw [List.getElem?_eq_none hk]; decide
/-- what is copied so far -/
def Cop (l : List Nat) (k : Nat) (d : Array Dn) : Prop := d.size = l.length ∧ ∀ j, j < k → d[j]! = toD (l.getD j 0)
theorem Cop.step {l : List Nat} {k : Nat} {d : Array Dn} (h : Cop l k d) (hk : k < l.length) : Cop l (k + 1) (d.setIfInBounds k (toD (l.getD k 0))) := by
  refine ⟨by simp [h.1], fun j hj => ?_⟩
  by_cases c : j = k
  · subst c; exact getElem!_set_same d j _ (by rw [h.1]; exact hk)
  · rw [getElem!_set_other d k j _ c]; exact h.2 j (by omega)
theorem Cop.done {l : List Nat} {d : Array Dn} (h : Cop l l.length d) : d = (l.map toD).toArray := by
  apply Array.ext
  · simp [h.1]
  · intro i h1 h2
    have := h.2 i (by rw [← h.1]; exact h1)
    rw [getElem!_pos d i h1] at this
    rw [this]
    simp at h2
    simp [List.getD_eq_getElem?_getD, h2]
theorem enc_can {b : Nat} (h : b < 2 ^ 64) : enc (toD b) = .float .f64 (can b) := by unfold enc; rw [toD_v h]
set_option maxHeartbeats 1600000 in
set_option maxRecDepth 100000 in
theorem sort_any (v : Value) (l : List Nat) (w : World) (hq : FloatsAt w v l) (hn : l.length ≤ 1000) :
    Calls Tryd.prog 20 #[v] w fun e w' => ∃ B, e = .returned (.slice (some ⟨B, 0, none⟩) l.length l.length) ∧ w.heap.size ≤ B ∧ B < w'.heap.size ∧ Holds enc w' B 0 (srtD (l.map toD)).toArray ∧ Below w.heap.size w w' := by
  obtain ⟨h1, -, a, c, rfl, h3⟩ := hq
  obtain ⟨w1, hmk, hH, hB, hlt1⟩ := made_row w l.length hn
  have hsz1 : w1.heap.size = w1.heap.size := rfl
  have HH := Lib.hid hH
  have HB := Lib.hid hB
  have HL := Lib.hid h3
  have H1 := Lib.hid h1
  have HN := Lib.hid hn
  have HS := Lib.hid hlt1
  clear hH hB h3 h1 hsz1 hlt1
  generalize hg : w.heap.size = g at *
  have HG := Lib.hid hg
  clear hg
  go_enter Tryd.func20, Tryd.ntmps20
  go_wp2_with fail
  go_loopw [11] (fun i wr => ∃ (k : Nat) (d : Array Dn), i = .int .i64 k ∧ k ≤ l.length ∧ Hid (Cop l k d) ∧ Hid (Holds enc wr g 0 d) ∧ Hid (Below g w wr) ∧ Hid (g < wr.heap.size)) (fun i _ => (l.length - intOf i).toNat)
  case atStart => exact ⟨0, _, rfl, Nat.zero_le _, Lib.hid ⟨by simp, fun j hj => absurd hj (Nat.not_lt_zero _)⟩, HH, HB, HS⟩
  case round =>
    obtain ⟨k, d, rfl, hk, hC, hH, hB, hS⟩ := hrel
    by_cases hlt : k < l.length
    · obtain ⟨b, o, rfl, hc0⟩ := HL.out k hlt
      have hbl : b < g := by
        have h' : b < w.heap.size := World.block_lt_of_cell? _ _ hc0
        rw [HG.out] at h'; exact h'
      have hcell := (hB.out.cell (p := ⟨b, o + k, none⟩) hbl).trans hc0
      obtain ⟨t1, t2⟩ := hH.out k (by rw [hC.out.1]; exact hlt)
      rw [Nat.zero_add] at t1 t2
      have hx : l.getD k 0 < 2 ^ 64 := getD_lt H1.out k
      have hdk : decide (k < l.length) = true := decide_eq_true hlt
      have NA := fun w => isnan_any (l.getD k 0) hx w
      have NW := Lib.hid (hC.out.step hlt)
      have NH := Lib.hid (holds_set enc hH.out k (by rw [hC.out.1]; exact hlt) (toD (l.getD k 0)))
      have NB := Lib.hid (hB.out.setCell (p := ⟨g, 0 + k, none⟩) (Nat.le_refl _) (enc (toD (l.getD k 0))))
      have NE := enc_can hx
      generalize hxx : l.getD k 0 = x at *
      generalize enc d[k]! = old at t1
      rw [NE, Nat.zero_add] at NH NB
      clear hH hB hC hxx NE
      clear hc0
      have NS : ∀ u : Value, Hid (g < (wr.setCell ⟨g, k, none⟩ u).heap.size) := fun u => by rw [World.size_setCell]; exact hS
      generalize d.setIfInBounds k (toD x) = d2 at *
      cases hnan : nanB x
      · rw [hnan] at NA
        have hcan : can x = x := by unfold can; rw [hnan]; rfl
        rw [hcan] at NH NB
        have NA' := Lib.hid NA
        have hst : ∀ a m w, Sem.run Tryd.prog (store a (.float .f64 x) m) w = stored Tryd.prog w a (.float .f64 x) m := fun a m w => run_store Tryd.prog w a _ m rfl
        clear NA hnan hcan
        go_wp2_with fail
        refine (NA'.out _).mono ?_
        rintro e w' ⟨rfl, rfl⟩
        go_wp2_with fail
        go_roundw
        case rel => exact ⟨k + 1, d2, by go_num, by omega, NW, NH, NB, NS _⟩
        case measure => simp [intOf]; omega
      · rw [hnan] at NA
        have hcan : can x = cano := by unfold can; rw [hnan]; rfl
        rw [hcan] at NH NB
        have NA' := Lib.hid NA
        clear NA hnan hcan
        go_wp2_with fail
        refine (NA'.out _).mono ?_
        rintro e w' ⟨rfl, rfl⟩
        go_wp2_with fail
        refine (nan_is _).mono ?_
        rintro e w' ⟨rfl, rfl⟩
        generalize cano = z at *
        have hst : ∀ a m w, Sem.run Tryd.prog (store a (.float .f64 z) m) w = stored Tryd.prog w a (.float .f64 z) m := fun a m w => run_store Tryd.prog w a _ m rfl
        go_wp2_with fail
        go_roundw
        case rel => exact ⟨k + 1, d2, by go_num, by omega, NW, NH, NB, NS _⟩
        case measure => simp [intOf]; omega
    · have hc' : k = l.length := by omega
      subst hc'
      have hd := hC.out.done
      have hsz := hC.out.1
      have hdk : decide (l.length < l.length) = false := decide_eq_false hlt
      have hS' : (0 : Nat) + g < wr.heap.size := by have := hS.out; omega
      rw [Nat.zero_add] at hS'
      have HSF := sortfunc_any g l.length d wr hH.out hS' (by rw [hsz]; exact HN.out)
      rw [hsz] at HSF
      have HB2 := hB
      have HSZ := Lib.hid hsz
      have HD := Lib.hid hd
      have HSW := Lib.hid hS'
      clear hB hC hS hd hsz hS'
      go_wp2_with fail
      refine HSF.mono ?_
      rintro e w2 ⟨rfl, n, os, hw2⟩
      have HW2 := Lib.hid hw2
      clear hw2 HSF
      go_wp2_with fail
      go_ret
      refine ⟨g, rfl, Nat.le_refl _, ?_, ?_, ?_⟩
      · rw [HW2.out]; exact lt_sortWorld enc wr g 0 n _ os HSW.out
      · have e1 : srtD d.toList = srtD (l.map toD) := by rw [HD.out]
        rw [HW2.out, e1]
        exact holds_sortWorld enc wr g 0 n d _ os HSW.out hH.out (by rw [HSZ.out, List.size_toArray, (srtD_perm _).length_eq, List.length_map])
      · rw [HW2.out]
        have := below_sortWorld enc HB2.out g 0 n (Nat.le_refl _) (Nat.le_of_lt HSW.out) (srtD d.toList).toArray os
        exact this
end Go.Proofs.YtkodhaapllmdhaaDoor
