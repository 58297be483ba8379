/- item. -/
import Derived.Test.YtbmoanhdpnaocaaRexD
import Derived.Test.YtbmoanhdpnaocaaOct1
import Derived.Test.YtbmoanhdpnaocaaMix
namespace Go.Proofs.Ytbmoanhdpnaocaa
open Go.RowKit Sets Tr Rx
theorem But.own {B b : Nat} {w w' : World} (h : But B w w') (hb : w.heap.size ≤ b) (i : Nat) (v : Value) : But B w (w'.setCell ⟨b, i, none⟩ v) :=
  ⟨h.os, h.tape, h.output, by simpa using h.size, fun k hk hn => by rw [Below.heap_setCell w' ⟨b, i, none⟩ v k (by simp only; omega)]; exact h.block k hk hn⟩
theorem But.allocR {B : Nat} {w w' : World} (h : But B w w') (o : Obj) : But B w (w'.alloc o) := h.trans (.alloc B w' o)
theorem But.belowR {B : Nat} {w w' w'' : World} (h : But B w w') (k : Below w'.heap.size w' w'') : But B w w'' := h.trans (.of_below k)
theorem Row.other {w : World} {B b i : Nat} {s : ByteArray} {p o : Nat} {nv pv v : Value} (h : Row w B s p o nv pv) (hb : b ≠ B) : Row (w.setCell ⟨b, i, none⟩ v) B s p o nv pv :=
  h.kept (Below.heap_setCell w ⟨b, i, none⟩ v B (by simp only; exact fun e => hb e.symm))
theorem Row.alloc {w : World} {B : Nat} {s : ByteArray} {p o : Nat} {nv pv : Value} (h : Row w B s p o nv pv) (ob : Obj) : Row (w.alloc ob) B s p o nv pv := h.kept (Below.heap_alloc _ _ _ h.lt)
theorem Row.below {w w' : World} {B : Nat} {s : ByteArray} {p o : Nat} {nv pv : Value} (h : Row w B s p o nv pv) (hb : Below w.heap.size w w') : Row w' B s p o nv pv := h.kept (hb.block _ h.lt)
/-- a set's words lie in block b -/
def Words (w : World) (b S : Nat) : Prop := w.heap[b]? = some (.cells #[.int .u64 (wd S 0), .int .u64 (wd S 1), .int .u64 (wd S 2), .int .u64 (wd S 3)] 34 (0, 0))
theorem Words.lt {w : World} {b S : Nat} (h : Words w b S) : b < w.heap.size := (Array.getElem?_eq_some_iff.1 h).1
theorem Words.cells {w : World} {b S : Nat} (h : Words w b S) :
    w.cell? ⟨b, 0, none⟩ = some (.int .u64 (wd S 0)) ∧ w.cell? ⟨b, 1, none⟩ = some (.int .u64 (wd S 1)) ∧ w.cell? ⟨b, 2, none⟩ = some (.int .u64 (wd S 2)) ∧ w.cell? ⟨b, 3, none⟩ = some (.int .u64 (wd S 3)) := by
  unfold Words at h; simp [World.cell?, h]
theorem Words.frozen {w : World} {b S : Nat} (h : Words w b S) : w.frozen? ⟨b, 0, none⟩ = false ∧ w.frozen? ⟨b, 1, none⟩ = false ∧ w.frozen? ⟨b, 2, none⟩ = false ∧ w.frozen? ⟨b, 3, none⟩ = false := by
  unfold Words at h; simp [World.frozen?, h]
theorem Words.kept {w w' : World} {b S : Nat} (h : Words w b S) (hk : w'.heap[b]? = w.heap[b]?) : Words w' b S := hk.trans h
theorem Words.but {w w' : World} {B b S : Nat} (h : Words w b S) (hb : But B w w') (hn : b ≠ B) : Words w' b S := h.kept (hb.block _ h.lt hn)
theorem Words.below {w w' : World} {b S : Nat} (h : Words w b S) (hb : Below w.heap.size w w') : Words w' b S := h.kept (hb.block _ h.lt)
theorem Words.alloc {w : World} {b S : Nat} (h : Words w b S) (o : Obj) : Words (w.alloc o) b S := h.kept (Below.heap_alloc _ _ _ h.lt)
theorem words_zero (w : World) : Words (w.alloc (.cells #[.int .u64 0, .int .u64 0, .int .u64 0, .int .u64 0] 34)) w.heap.size 0 := by
  unfold Words
  rw [heap_alloc_new]
  simp [wd]
theorem Words.put {w : World} {b S : Nat} (h : Words w b S) (T : Nat) :
    Words ((((w.setCell ⟨b, 0, none⟩ (.int .u64 (wd T 0))).setCell ⟨b, 1, none⟩ (.int .u64 (wd T 1))).setCell ⟨b, 2, none⟩ (.int .u64 (wd T 2))).setCell ⟨b, 3, none⟩ (.int .u64 (wd T 3))) b T := by
  unfold Words at *
  simp [World.setCell, Array.getElem?_modify, h]
def setV (S : Nat) : Value := .agg #[.int .u64 (wd S 0), .int .u64 (wd S 1), .int .u64 (wd S 2), .int .u64 (wd S 3)]
theorem bytes_one (w : World) (c : Nat) (hc : c < 256) : BytesAt (w.alloc (.cells #[.int .u8 c] 5)) (.slice (some ⟨w.heap.size, 0, none⟩) 1 1) [c] := by
  refine ⟨by intro x hx; rw [List.mem_singleton.1 hx]; exact hc, by unfold maxLen; simp, _, 1, rfl, fun i hi => ⟨w.heap.size, 0, rfl, ?_⟩⟩
  have : i = 0 := by simp at hi; omega
  subst this
  simp
theorem of_one (w : World) (c : Nat) (hc : c < 256) : Calls Try.prog 8 #[.slice (some ⟨w.heap.size, 0, none⟩) 1 1] (w.alloc (.cells #[.int .u8 c] 5)) fun e w' =>
    e = .returned (setV (2 ^ c)) ∧ Below (w.heap.size + 1) (w.alloc (.cells #[.int .u8 c] 5)) w' := by
  have h := of_any _ [c] _ (bytes_one w c hc)
  have e : ofN [c] = 2 ^ c := by simp [ofN]
  rw [e] at h
  refine h.mono ?_
  rintro e w' ⟨rfl, hb⟩
  exact ⟨rfl, by simpa using hb⟩
theorem range_one (w : World) (a b : Nat) (ha : a < 256) (hb : b < 256) : Calls Try.prog 7 #[.int .u8 a, .int .u8 b] w fun e w' =>
    e = .returned (setV (rangeN a b)) ∧ Below w.heap.size w w' := by
  have h := range_any (a : Int) (b : Int) w (by omega) (by omega) (by omega) (by omega)
  simp only [Int.toNat_natCast] at h
  exact h
set_option maxHeartbeats 1600000 in
theorem item_any (B : Nat) (s : ByteArray) (p o : Nat) (nv pv : Value) (w : World) (h : Row w B s p o nv pv) (hp : p ≤ s.size) (hs : s.size ≤ 200) :
    Calls Try.prog 43 #[.pointer (some ⟨B, 0, none⟩)] w (LP B s o nv pv w setV (item (by' s) p)) := by
  have hB := h.lt
  have hbB : w.heap.size ≠ B := by omega
  have HW0 := Lib.hid (words_zero w)
  have HR := Lib.hid (h.alloc (.cells #[.int .u64 0, .int .u64 0, .int .u64 0, .int .u64 0] 34))
  have HA := Lib.hid (But.alloc B w (.cells #[.int .u64 0, .int .u64 0, .int .u64 0, .int .u64 0] 34))
  have S1 := Lib.hid (fun w' p (hR : Row w' B s p o nv pv) hp => single_any B s p o nv pv sInner inner w' hR hp hs hasInner (fun _ => inner_lt))
  have Ty := Lib.hid (fun w' p (c : Nat) (hR : Row w' B s p o nv pv) => take_yes B s p o nv pv c w' hR hs)
  have Tn := Lib.hid (fun w' p (c : Nat) (hR : Row w' B s p o nv pv) => take_no B s p o nv pv c w' hR)
  clear h
  unfold item
  cases h1 : single (by' s) inner p with
  | bad q =>
    have D1 := Lib.hid (fun w' hR => h1 ▸ S1.out w' p hR hp)
    clear h1
    unfold sInner at *
    go_enter Try.func43, Try.ntmps43
    go_wp2_with fail
    refine (D1.out _ HR.out).mono ?_
    rintro e w' ⟨rfl, hb⟩
    exact ⟨rfl, rfl, HA.out.trans hb⟩
  | ok a p1 =>
    have D1 := Lib.hid (fun w' hR => h1 ▸ S1.out w' p hR hp)
    have hl1 := (single_ok (fun _ => inner_lt) (by_lt s) h1).2.2
    have ha := (single_ok (fun _ => inner_lt) (by_lt s) h1).1
    rw [by_len] at hl1
    clear h1
    simp only
    by_cases h45 : pk (by' s) p1 = 45
    · rw [if_pos h45]
      have hp2 : p1 + 1 ≤ s.size := by rw [← by_len]; exact pk_lt (by omega)
      cases h2 : single (by' s) inner (p1 + 1) with
      | bad q =>
        have D2 := Lib.hid (fun w' hR => h2 ▸ S1.out w' (p1 + 1) hR hp2)
        clear h2
        unfold sInner at *
        go_enter Try.func43, Try.ntmps43
        go_wp2_with fail
        refine (D1.out _ HR.out).mono ?_
        rintro e w1 ⟨rfl, hR1, hb1⟩
        unfold u8V
        go_wp2_with fail
        refine (Ty.out _ p1 45 hR1 (by decide) h45).mono ?_
        rintro e w2 ⟨rfl, hR2, hb2⟩
        obtain ⟨c0, c1, -, -, -⟩ := hR2.cells
        go_wp2_with fail
        refine (D2.out _ hR2).mono ?_
        rintro e w3 ⟨rfl, hb3⟩
        exact ⟨rfl, rfl, ((HA.out.trans hb1).trans hb2).trans hb3⟩
      | ok b p2 =>
        have D2 := Lib.hid (fun w' hR => h2 ▸ S1.out w' (p1 + 1) hR hp2)
        have hbb := (single_ok (fun _ => inner_lt) (by_lt s) h2).1
        clear h2
        simp only
        by_cases hba : b < a
        · rw [if_pos hba]
          have d1 : decide (b < a) = true := decide_eq_true hba
          have d2 : decide ((b : Int) < (a : Int)) = true := decide_eq_true (by omega)
          unfold sInner at *
          go_enter Try.func43, Try.ntmps43
          go_wp2_with fail
          refine (D1.out _ HR.out).mono ?_
          rintro e w1 ⟨rfl, hR1, hb1⟩
          unfold u8V
          go_wp2_with fail
          refine (Ty.out _ p1 45 hR1 (by decide) h45).mono ?_
          rintro e w2 ⟨rfl, hR2, hb2⟩
          obtain ⟨c0, c1, -, -, -⟩ := hR2.cells
          go_wp2_with fail
          refine (D2.out _ hR2).mono ?_
          rintro e w3 ⟨rfl, hR3, hb3⟩
          unfold u8V
          go_wp2_with fail
          exact ⟨rfl, rfl, ((HA.out.trans hb1).trans hb2).trans hb3⟩
        · rw [if_neg hba]
          have d1 : decide (b < a) = false := decide_eq_false hba
          have d2 : decide ((b : Int) < (a : Int)) = false := decide_eq_false (by omega)
          unfold sInner at *
          go_enter Try.func43, Try.ntmps43
          go_wp2_with fail
          refine (D1.out _ HR.out).mono ?_
          rintro e w1 ⟨rfl, hR1, hb1⟩
          unfold u8V
          go_wp2_with fail
          refine (Ty.out _ p1 45 hR1 (by decide) h45).mono ?_
          rintro e w2 ⟨rfl, hR2, hb2⟩
          obtain ⟨c0, c1, -, -, -⟩ := hR2.cells
          go_wp2_with fail
          refine (D2.out _ hR2).mono ?_
          rintro e w3 ⟨rfl, hR3, hb3⟩
          unfold u8V
          go_wp2_with fail
          refine (range_one _ a b ha hbb).mono ?_
          rintro e w4 ⟨rfl, hb4⟩
          have HW4 := Lib.hid (((((HW0.out.but hb1 hbB).but hb2 hbB).but hb3 hbB).below hb4))
          have HB4 := Lib.hid ((((HA.out.trans hb1).trans hb2).trans hb3).belowR hb4)
          have HR4 := Lib.hid (hR3.below hb4)
          obtain ⟨e0, e1, e2, e3⟩ := HW4.out.cells
          obtain ⟨f0, f1, f2, f3⟩ := HW4.out.frozen
          clear hb1 hb2 hb3 hb4 hR1 hR2 hR3 c0 c1
          unfold setV
          go_wp2_with fail
          have hput := HW4.out.put (rangeN a b)
          refine bodyPost_ret (v := setV (rangeN a b)) (results_cell_row (p := 2) Try.results43 _ _ w.heap.size 34 _ (0, 0) _ rfl hput Try.underlying34 rfl (by kernel_rfl)) rfl ⟨rfl, ?_, ?_⟩
          · exact (((HR4.out.other hbB).other hbB).other hbB).other hbB
          · exact (((HB4.out.own (Nat.le_refl _) _ _).own (Nat.le_refl _) _ _).own (Nat.le_refl _) _ _).own (Nat.le_refl _) _ _
    · rw [if_neg h45]
      unfold sInner at *
      go_enter Try.func43, Try.ntmps43
      go_wp2_with fail
      refine (D1.out _ HR.out).mono ?_
      rintro e w1 ⟨rfl, hR1, hb1⟩
      unfold u8V
      go_wp2_with fail
      refine (Tn.out _ p1 45 hR1 (by omega) h45).mono ?_
      rintro e w2 ⟨rfl, hR2, hb2⟩
      go_wp2_with fail
      refine (of_one _ a ha).mono ?_
      rintro e w4 ⟨rfl, hb4⟩
      have hb4 : Below (w2.alloc (.cells #[.int .u8 a] 5)).heap.size (w2.alloc (.cells #[.int .u8 a] 5)) w4 := by simpa using hb4
      have HW4 := Lib.hid ((((HW0.out.but hb1 hbB).but hb2 hbB).alloc (.cells #[.int .u8 a] 5)).below hb4)
      have HB4 := Lib.hid ((((HA.out.trans hb1).trans hb2).allocR (.cells #[.int .u8 a] 5)).belowR hb4)
      have HR4 := Lib.hid ((hR2.alloc (.cells #[.int .u8 a] 5)).below hb4)
      obtain ⟨e0, e1, e2, e3⟩ := HW4.out.cells
      obtain ⟨f0, f1, f2, f3⟩ := HW4.out.frozen
      clear hb1 hb2 hb4 hR1 hR2
      unfold setV
      go_wp2_with fail
      have hput := HW4.out.put (2 ^ a)
      refine bodyPost_ret (v := setV (2 ^ a)) (results_cell_row (p := 2) Try.results43 _ _ w.heap.size 34 _ (0, 0) _ rfl hput Try.underlying34 rfl (by kernel_rfl)) rfl ⟨rfl, ?_, ?_⟩
      · exact (((HR4.out.other hbB).other hbB).other hbB).other hbB
      · exact (((HB4.out.own (Nat.le_refl _) _ _).own (Nat.le_refl _) _ _).own (Nat.le_refl _) _ _).own (Nat.le_refl _) _ _
end Go.Proofs.Ytbmoanhdpnaocaa
