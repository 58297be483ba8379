/- ref's Of. -/
import Derived.Test.YtkodhaapllmdhaaDoorTOrd
import Derived.Test.YtkodhaapllmdhaaDoorStr6
namespace Go.Proofs.YtkodhaapllmdhaaDoor
open Go.RowKit Rk Go.Sort
/-- the plain ones of the first k -/
def pk (m : List Nat) (k : Nat) : List Nat := (m.take k).filter plainB
theorem pk_yes {m : List Nat} {k x : Nat} (hk : k < m.length) (hx : m.getD k 0 = x) (hp : plainB x = true) : pk m (k + 1) = pk m k ++ [x] := by
  unfold pk
  rw [List.take_add_one, List.getElem?_eq_getElem hk, List.filter_append]
  rw [List.getD_eq_getElem?_getD, List.getElem?_eq_getElem hk] at hx
  simp only [Option.getD_some] at hx
  rw [hx]
  simp [hp]
theorem pk_no {m : List Nat} {k x : Nat} (hk : k < m.length) (hx : m.getD k 0 = x) (hp : plainB x = false) : pk m (k + 1) = pk m k := by
  unfold pk
  rw [List.take_add_one, List.getElem?_eq_getElem hk, List.filter_append]
  rw [List.getD_eq_getElem?_getD, List.getElem?_eq_getElem hk] at hx
  simp only [Option.getD_some] at hx
  rw [hx]
  simp [hp]
theorem pk_le (m : List Nat) (k : Nat) : (pk m k).length ≤ k := by
  unfold pk
  have h1 := List.length_filter_le plainB (m.take k)
  have h2 : (m.take k).length ≤ k := by simp; omega
  omega
theorem pk_mem {m : List Nat} {k : Nat} (h : ∀ x ∈ m, x < 2 ^ 64) : ∀ x ∈ pk m k, x < 2 ^ 64 ∧ plainB x = true := by
  intro x hx
  obtain ⟨h1, h2⟩ := List.mem_filter.1 hx
  exact ⟨h x (List.mem_of_mem_take h1), h2⟩
/-- the block of a tally in the making -/
def rowT (w : World) (g n o a b c : Nat) : Prop := w.heap[g]? = some (.cells #[.int .i64 (n : Int), .int .i64 (o : Int), .float .f64 a, .float .f64 b, .float .f64 c] 38 (0, 0))
theorem rowT.cell {w : World} {g n o a b c : Nat} (h : rowT w g n o a b c) (k : Nat) (u : Value) (hu : (#[.int .i64 (n : Int), .int .i64 (o : Int), .float .f64 a, .float .f64 b, .float .f64 c] : Array Value)[k]? = some u) : w.cell? ⟨g, k, none⟩ = some u := by
  rw [cell_of_row w g k _ _ _ h]; exact hu
theorem rowT.frozen {w : World} {g n o a b c : Nat} (h : rowT w g n o a b c) (k : Nat) : w.frozen? ⟨g, k, none⟩ = false := frozen_of_row w g k _ _ h
theorem rowT.set1 {w : World} {g n o a b c : Nat} (h : rowT w g n o a b c) (o' : Nat) : rowT (w.setCell ⟨g, 1, none⟩ (.int .i64 (o' : Int))) g n o' a b c := set_at _ g 1 _ _ _ _ h
theorem rowT.set2 {w : World} {g n o a b c : Nat} (h : rowT w g n o a b c) (a' : Nat) : rowT (w.setCell ⟨g, 2, none⟩ (.float .f64 a')) g n o a' b c := set_at _ g 2 _ _ _ _ h
theorem rowT.set3 {w : World} {g n o a b c : Nat} (h : rowT w g n o a b c) (b' : Nat) : rowT (w.setCell ⟨g, 3, none⟩ (.float .f64 b')) g n o a b' c := set_at _ g 3 _ _ _ _ h
theorem rowT.set4 {w : World} {g n o a b c : Nat} (h : rowT w g n o a b c) (c' : Nat) : rowT (w.setCell ⟨g, 4, none⟩ (.float .f64 c')) g n o a b c' := set_at _ g 4 _ _ _ _ h
theorem rowT.far {w : World} {g n o a b c : Nat} (h : rowT w g n o a b c) (g' k : Nat) (v : Value) (hg : g' ≠ g) : rowT (w.setCell ⟨g', k, none⟩ v) g n o a b c := by
  unfold rowT at h ⊢
  rw [setCell_eq]
  show (w.heap.modify g' _)[g]? = _
  rw [Array.getElem?_modify, if_neg hg]
  exact h
theorem sizeR : (Tryd.prog.info? 38).map (·.size) = some 5 := by kernel_rfl
/-- a list's doubles, off a block -/
def listT (w : World) (g : Nat) (u : Option Addr) (m : List Nat) : Prop := ∀ t, t < m.length → ∃ q o, u = some ⟨q, o, none⟩ ∧ q ≠ g ∧ w.cell? ⟨q, o + t, none⟩ = some (.float .f64 (m.getD t 0))
theorem listT.set {w : World} {g : Nat} {u : Option Addr} {m : List Nat} (h : listT w g u m) (k : Nat) (v : Value) : listT (w.setCell ⟨g, k, none⟩ v) g u m := fun t ht => by
  obtain ⟨q, o, h1, h2, h3⟩ := h t ht
  exact ⟨q, o, h1, h2, cell_keep h2 k v h3⟩
set_option maxHeartbeats 3200000 in
set_option maxRecDepth 100000 in
theorem refof_any (v : Value) (l : List Nat) (w : World) (hq : FloatsAt w v l) (hn : l.length ≤ 300) :
    Calls Tryd.prog 22 #[v] w fun e w' => e = .returned (tal l).val ∧ Below w.heap.size w w' := by
  have HQ := Lib.hid hq
  obtain ⟨s, c, rfl⟩ : ∃ s c, v = .slice s l.length c := by obtain ⟨-, -, s, c, rfl, -⟩ := hq; exact ⟨s, c, rfl⟩
  clear hq
  have hst : ∀ b a m w, Sem.run Tryd.prog (store a (.float .f64 b) m) w = stored Tryd.prog w a (.float .f64 b) m := fun b a m w => run_store Tryd.prog w a _ m rfl
  generalize hcano : cano = zn at *
  have hnan := fun w => nan_is w
  rw [hcano] at hnan
  go_enter Tryd.func22, Tryd.ntmps22
  go_wp2_with (first
    | (go_at_call 14; refine (inf_pos _).mono ?_; rintro e w' ⟨rfl, rfl⟩)
    | (go_at_call 14; refine (inf_neg _).mono ?_; rintro e w' ⟨rfl, rfl⟩)
    | (go_at_call 9; refine (hnan _).mono ?_; rintro e w' ⟨rfl, rfl⟩))
  have hB0 : Below w.heap.size w ((w.alloc (.cells #[.int .i64 0, .int .i64 0, .float .f64 0, .float .f64 0, .float .f64 0] 38)).alloc (.cells #[.int .i64 l.length, .int .i64 0, .float .f64 9218868437227405312, .float .f64 18442240474082181120, .float .f64 zn] 38)) := ((Below.refl _ w).alloc (Nat.le_refl _) _).alloc (by simp) _
  have hg0 := World.cell?_alloc_new (w.alloc (.cells #[.int .i64 0, .int .i64 0, .float .f64 0, .float .f64 0, .float .f64 0] 38)) #[.int .i64 l.length, .int .i64 0, .float .f64 9218868437227405312, .float .f64 18442240474082181120, .float .f64 zn] 38
  refine (refsort_any _ l _ (HQ.out.below hB0) hn).mono ?_
  rintro e w2 ⟨u, m, rfl, hO, hm, hS, hP, hB⟩
  obtain ⟨u2, c2, rfl, hc⟩ := hO.some
  have hrk := srt_rank_eq HQ.out.1 hS hP
  have hrow : rowT w2 (w.heap.size + 1) l.length 0 9218868437227405312 18442240474082181120 zn := by
    unfold rowT
    rw [hB.block _ (by simp)]
    show ((w.heap.push _).push _)[w.heap.size + 1]? = _
    rw [Array.getElem?_push, if_pos (by simp)]
    rfl
  have hlist : listT w2 (w.heap.size + 1) u2 m := fun t ht => by
    obtain ⟨⟨-, -, a', c', e, h3⟩, h4⟩ := hO
    cases e
    obtain ⟨q, o, e, hc⟩ := h3 t ht
    refine ⟨q, o, e, ?_, hc⟩
    rcases h4 with ⟨h5, h6⟩ | ⟨q2, o2, c2, h5, -, h6⟩
    · rw [h6] at ht; exact absurd ht (by simp)
    · subst e
      injection h5 with h5 h7 h8
      injection h5 with h5
      injection h5 with h5 h9
      rw [World.size_alloc, World.size_alloc] at h6
      omega
  have hzero : rowT w2 w.heap.size 0 0 0 0 0 := by
    unfold rowT
    rw [hB.block _ (by simp only [World.size_alloc]; omega)]
    show ((w.heap.push _).push _)[w.heap.size]? = _
    rw [Array.getElem?_push, if_neg (by simp), Array.getElem?_push, if_pos rfl]
    rfl
  have HZ := Lib.hid hzero
  have hBf := Lib.hid (hB0.trans (hB.mono hB0.size))
  have hlt := Lib.hid hO.1.1
  have HR := Lib.hid hrk
  have HL := Lib.hid hlist
  have HRow := Lib.hid hrow
  clear hB0 hg0 hB hzero hrow hlist hO hrk hS hP
  go_wp2_with fail
  go_loopw [5, 6, 7] (fun n s i wr => ∃ k : Nat, i = .int .i64 k ∧ k ≤ l.length ∧ n = .int .i64 (pk m k).length ∧ s = .float .f64 (sumL (pk m k)) ∧
      Hid (rowT wr (w.heap.size + 1) l.length (k - (pk m k).length) ((pk m k).headD 9218868437227405312) ((pk m k).getLastD 18442240474082181120) zn) ∧ Hid (listT wr (w.heap.size + 1) u2 m) ∧ Hid (rowT wr w.heap.size 0 0 0 0 0) ∧ Hid (Below w.heap.size w wr)) (fun _ _ i _ => (l.length - intOf i).toNat)
  case atStart => exact ⟨0, rfl, Nat.zero_le _, rfl, rfl, HRow, HL, HZ, hBf⟩
  case round =>
    obtain ⟨k, rfl, hk, rfl, rfl, hR, hLs, hZ, hBw⟩ := hrel
    generalize hwr : wr = w3 at *
    clear hwr wr
    clear HRow HL HZ hBf
    by_cases hkl : k < l.length
    · have hdk : decide (k < l.length) = true := decide_eq_true hkl
      obtain ⟨q, o, rfl, hqg, hxc⟩ := hLs.out k (by omega)
      obtain ⟨x, HX⟩ : ∃ x, Hid (m.getD k 0 = x) := ⟨_, rfl⟩
      rw [HX.out] at hxc
      have hxl : x < 2 ^ 64 := by rw [← HX.out]; exact getD_lt hlt.out k
      have hpl := Lib.hid (fun w => ref_plain x hxl w)
      have c1 := hR.out.cell 1 _ rfl
      have f1 := hR.out.frozen 1
      have f2 := hR.out.frozen 2
      have f3 := hR.out.frozen 3
      have c2' := hR.out.cell 2 _ rfl
      have c3' := hR.out.cell 3 _ rfl
      have hle := pk_le m k
      have hw3 := hBw.out.size
      have hB1 := fun kk v => hBw.out.setCell (p := ⟨w.heap.size + 1, kk, none⟩) (by show w.heap.size ≤ w.heap.size + 1; omega) v
      cases hp : plainB x
      · rw [hp] at hpl
        have hpk := Lib.hid (pk_no (by omega) HX.out hp)
        clear hxl hp
        obtain ⟨n, N⟩ : ∃ n, Hid ((pk m k).length = n) := ⟨_, rfl⟩
        rw [N.out] at c1 hle
        go_wp2_with (go_at_call 35; refine (hpl.out _).mono ?_; rintro e w' ⟨rfl, rfl⟩)
        refine ⟨⟨k + 1, by go_num, hkl, by rw [hpk.out], by rw [hpk.out], Lib.hid ?_, Lib.hid (hLs.out.set 1 _), Lib.hid (hZ.out.far _ 1 _ (by omega)), Lib.hid (hB1 1 _)⟩, by simp only [intOf]; omega⟩
        have hcast : ((k - n : Nat) : Int) + 1 = ((k + 1 - n : Nat) : Int) := by omega
        rw [hpk.out, hcast, N.out]
        have := hR.out.set1 (k + 1 - n)
        exact this
      · rw [hp] at hpl
        have hpk := pk_yes (by omega) HX.out hp
        have hok := sumL_ok _ (pk_mem (k := k) hlt.out)
        have hadd := (plus_is hok hxl hp).1
        have hsum : sumL (pk m (k + 1)) = plus (sumL (pk m k)) x := by
          rw [hpk]; unfold sumL; rw [List.foldl_append]; rfl
        rw [← hsum] at hadd
        have hs := fun w => run_float_arith (P := Tryd.prog) w .add 22 .f64 _ _ _ hadd
        have hhead : pk m k ≠ [] → (pk m (k + 1)).headD 9218868437227405312 = (pk m k).headD 9218868437227405312 := fun h => by
          rw [hpk]; cases hq : pk m k with
          | nil => exact absurd hq h
          | cons a t => rfl
        have hhead0 : pk m k = [] → (pk m (k + 1)).headD 9218868437227405312 = x := fun h => by rw [hpk, h]; rfl
        have hlast : (pk m (k + 1)).getLastD 18442240474082181120 = x := by rw [hpk, List.getLastD_eq_getLast?, List.getLast?_append]; rfl
        have hlen : (pk m (k + 1)).length = (pk m k).length + 1 := by rw [hpk]; simp
        have h0 : pk m k = [] ↔ (pk m k).length = 0 := List.length_eq_zero_iff.symm
        obtain ⟨s1, S1⟩ : ∃ s1, Hid (sumL (pk m (k + 1)) = s1) := ⟨_, rfl⟩
        rw [S1.out] at hs
        clear hpk hsum hok hadd hxl hp
        obtain ⟨s0, S0⟩ : ∃ s0, sumL (pk m k) = s0 := ⟨_, rfl⟩
        obtain ⟨n, N⟩ : ∃ n, (pk m k).length = n := ⟨_, rfl⟩
        obtain ⟨a0, A0⟩ : ∃ a0, (pk m k).headD 9218868437227405312 = a0 := ⟨_, rfl⟩
        obtain ⟨b0, B0⟩ : ∃ b0, (pk m k).getLastD 18442240474082181120 = b0 := ⟨_, rfl⟩
        rw [N, A0, B0] at hR
        rw [N, A0, B0] at c1 c2' c3'
        rw [N] at hlen hle h0
        rw [A0] at hhead
        rw [S0] at hs
        rw [S0, N]
        clear S0 A0 B0 N
        have hn300 : n ≤ 300 := by omega
        by_cases hn0 : n = 0
        · have hh := Lib.hid (hhead0 (h0.2 hn0))
          subst hn0
          have HLN := Lib.hid hlen
          have HLA := Lib.hid hlast
          clear hhead hhead0 h0 hlen hlast
          go_wp2_with (go_at_call 35; refine (hpl.out _).mono ?_; rintro e w' ⟨rfl, rfl⟩)
          refine ⟨⟨k + 1, by go_num, hkl, by rw [HLN.out]; rfl, by rw [S1.out], Lib.hid ?_, Lib.hid ((hLs.out.set 2 _).set 3 _), Lib.hid ((hZ.out.far _ 2 _ (by omega)).far _ 3 _ (by omega)), Lib.hid ((hB1 2 _).setCell (p := ⟨w.heap.size + 1, 3, none⟩) (by show w.heap.size ≤ w.heap.size + 1; omega) _)⟩, by simp only [intOf]; omega⟩
          rw [HLN.out, hh.out, HLA.out]
          have := (hR.out.set2 x).set3 x
          rw [show k + 1 - (0 + 1) = k - 0 by omega]
          exact this
        · have hh := Lib.hid (hhead (fun h => hn0 (h0.1 h)))
          have hn0' : ((n : Int) == 0) = false := by rw [beq_eq_false_iff_ne]; omega
          have HLN := Lib.hid hlen
          have HLA := Lib.hid hlast
          clear hhead hhead0 h0 hlen hlast
          go_wp2_with (go_at_call 35; refine (hpl.out _).mono ?_; rintro e w' ⟨rfl, rfl⟩)
          refine ⟨⟨k + 1, by go_num, hkl, by rw [HLN.out]; rfl, by rw [S1.out], Lib.hid ?_, Lib.hid (hLs.out.set 3 _), Lib.hid (hZ.out.far _ 3 _ (by omega)), Lib.hid (hB1 3 _)⟩, by simp only [intOf]; omega⟩
          rw [HLN.out, hh.out, HLA.out]
          have := hR.out.set3 x
          rw [show k + 1 - (n + 1) = k - n by omega]
          exact this
    · have hkk : k = l.length := by omega
      subst hkk
      have hdk : decide (l.length < l.length) = false := decide_eq_false hkl
      have hpm : pk m l.length = pl l := by
        unfold pk pl
        rw [← hm, List.take_length]
        exact (plain_eq (srt l) m (fun x hx => (srt_mem hx).1) hlt.out HR.out).symm
      rw [hpm] at hR ⊢
      have hle : (pl l).length ≤ l.length := pl_le l
      have f4 := hR.out.frozen 4
      have c0 := hR.out.cell 0 _ rfl
      have c1 := hR.out.cell 1 _ rfl
      have c2' := hR.out.cell 2 _ rfl
      have c3' := hR.out.cell 3 _ rfl
      have c4 := hR.out.cell 4 _ rfl
      have z0 := hZ.out.cell 0 _ rfl
      have z1 := hZ.out.cell 1 _ rfl
      have z2 := hZ.out.cell 2 _ rfl
      have z3 := hZ.out.cell 3 _ rfl
      have z4 := hZ.out.cell 4 _ rfl
      have y0 := hZ.out.frozen 0
      have y1 := hZ.out.frozen 1
      have y2 := hZ.out.frozen 2
      have y3 := hZ.out.frozen 3
      have y4 := hZ.out.frozen 4
      by_cases h0 : pl l = []
      · rw [h0]
        have hv : (tal l).val = .agg #[.int .i64 (l.length : Int), .int .i64 (l.length : Int), .float .f64 9218868437227405312, .float .f64 18442240474082181120, .float .f64 zn] := by
          unfold tal talP Tl.val
          rw [h0, ← hcano]
          rfl
        rw [h0] at c0 c1 c2' c3' c4
        simp only [List.length_nil, List.headD_nil, List.getLastD_nil, Nat.sub_zero] at c0 c1 c2' c3' c4
        go_wp2_with fail
        have hfin := set5_at w3 w.heap.size _ _ _ _ _ (.int .i64 (l.length : Int)) (.int .i64 (l.length : Int)) (.float .f64 9218868437227405312) (.float .f64 18442240474082181120) (.float .f64 zn) _ _ hZ.out
        rw [hv]
        refine bodyPost_ret (v := .agg #[.int .i64 (l.length : Int), .int .i64 (l.length : Int), .float .f64 9218868437227405312, .float .f64 18442240474082181120, .float .f64 zn]) (results_cell_row (p := 2) Tryd.results22 _ _ w.heap.size 38 _ (0, 0) _ rfl hfin Tryd.underlying38 rfl sizeR) rfl ⟨rfl, ?_⟩
        exact below5 hBw.out w.heap.size (Nat.le_refl _) _ _ _ _ _
      · have hmean := (mean_is (pl l) (fun x hx => pl_mem hx) h0 (by omega)).1
        have hpos : 0 < (pl l).length := List.length_pos_iff.2 h0
        have hpos1 : decide (0 < (pl l).length) = true := decide_eq_true hpos
        have hv : (tal l).val = .agg #[.int .i64 (l.length : Int), .int .i64 ((l.length - (pl l).length : Nat) : Int), .float .f64 ((pl l).headD 9218868437227405312), .float .f64 ((pl l).getLastD 18442240474082181120), .float .f64 (meanL (pl l))] := by
          unfold tal talP Tl.val
          simp only
          rw [if_neg h0]
        have hcv : ∀ w, (convert 3 22 (.int .i64 ((pl l).length : Int))).run Tryd.prog w = .ok (.float .f64 (dblN (pl l).length)) w := fun w => by
          rw [run_convert_int_float w 3 22 .i64 .f64 _ (by kernel_rfl) Tryd.underlying22, float_of_int]
        have hd := fun w => run_float_arith (P := Tryd.prog) w .quo 22 .f64 _ _ _ hmean
        clear hmean h0
        generalize meanL (pl l) = mm at *
        generalize dblN (pl l).length = dn at *
        generalize (pl l).headD 9218868437227405312 = aa at *
        generalize (pl l).getLastD 18442240474082181120 = bb at *
        generalize sumL (pl l) = ss at *
        go_wp2_with fail
        have hfin := set5_at (w3.setCell ⟨w.heap.size + 1, 4, none⟩ (.float .f64 mm)) w.heap.size _ _ _ _ _ (.int .i64 (l.length : Int)) (.int .i64 ((l.length - (pl l).length : Nat) : Int)) (.float .f64 aa) (.float .f64 bb) (.float .f64 mm) _ _ (hZ.out.far (w.heap.size + 1) 4 (.float .f64 mm) (by omega))
        rw [hv]
        refine bodyPost_ret (v := .agg #[.int .i64 (l.length : Int), .int .i64 ((l.length - (pl l).length : Nat) : Int), .float .f64 aa, .float .f64 bb, .float .f64 mm]) (results_cell_row (p := 2) Tryd.results22 _ _ w.heap.size 38 _ (0, 0) _ rfl hfin Tryd.underlying38 rfl sizeR) rfl ⟨rfl, ?_⟩
        exact below5 (hBw.out.setCell (p := ⟨w.heap.size + 1, 4, none⟩) (by show w.heap.size ≤ w.heap.size + 1; omega) _) w.heap.size (Nat.le_refl _) _ _ _ _ _
end Go.Proofs.YtkodhaapllmdhaaDoor
