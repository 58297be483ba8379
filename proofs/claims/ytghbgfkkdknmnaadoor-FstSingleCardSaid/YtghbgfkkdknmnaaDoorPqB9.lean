/- Several texts in one. -/
import Derived.Test.YtghbgfkkdknmnaaDoorPqB8
import Derived.Test.YtghbgfkkdknmnaaDoorPqA8
namespace Go.Proofs.YtghbgfkkdknmnaaDoor
open Go.RowKit Sets Nf
namespace Ft
theorem hput : ∀ a : Act, a.put none undef = a := fun _ => rfl
/-- A spot lies in block B. -/
structure SpB (w : World) (B : Nat) (X : Nat × Nat) : Prop where
  row : w.heap[B]? = some (.cells (row5 X) 43 (0, 0))
theorem SpB.lt {w : World} {B : Nat} {X : Nat × Nat} (h : SpB w B X) : B < w.heap.size := (Array.getElem?_eq_some_iff.1 h.row).1
theorem SpB.new (w : World) (X : Nat × Nat) : SpB (w.alloc (.cells (row5 X) 43)) w.heap.size X := ⟨heap_alloc_new w _⟩
theorem SpB.stay {w w' : World} {B : Nat} {X : Nat × Nat} (h : SpB w B X) (hb : Below w.heap.size w w') : SpB w' B X := ⟨(hb.block _ h.lt).trans h.row⟩
theorem SpB.but {w w' : World} {A B : Nat} {X : Nat × Nat} (h : SpB w B X) (hb : But A w w') (hA : B ≠ A) : SpB w' B X := ⟨(hb.block _ h.lt hA).trans h.row⟩
theorem SpB.set {w : World} {B : Nat} {X : Nat × Nat} (h : SpB w B X) : w.rangeAt B 0 (setC X.1).toList := by
  intro j v hv
  rw [cell_of_row w B (0 + j) _ _ _ h.row, Nat.zero_add]
  have hj : j < 4 := by have := (List.getElem?_eq_some_iff.1 hv).1; simpa [setC] using this
  rw [← hv]
  have : j = 0 ∨ j = 1 ∨ j = 2 ∨ j = 3 := by omega
  rcases this with rfl | rfl | rfl | rfl <;> rfl
set_option maxHeartbeats 6400000 in
set_option maxRecDepth 100000 in
theorem fmeeting_any (sa : Option Addr) (sc : Nat) (L : List (Nat × Nat)) (w : World) (h : SpotsIn w sa L) (hl : L.length ≤ 250) (hS : ∀ s ∈ L, s.1 < 2 ^ 256) :
    Calls Tryd.prog 55 #[.slice sa L.length sc] w fun e w' => ∃ g, e = .returned (.slice (some ⟨g, 0, none⟩) L.length L.length) ∧ GsB w' g (mtR L L.length 0) ∧ w.heap.size ≤ g ∧ Below w.heap.size w w' := by
  have HN := Lib.hid h
  have HL := Lib.hid hl
  have HK := Lib.hid hS
  clear h hS hl
  go_enter Tryd.func55, Tryd.ntmps55
  go_upto_region 2 with (refine wpList_make_sets rfl (.tmp 9) (.tmp 9) rfl L.length rfl rfl (by have := HL.out; omega) ?_)
  have HG : Hid (GsB _ w.heap.size (mtR L 0 0)) := Lib.hid (by rw [mtR_start]; exact GsB.new w L.length)
  have HB := Lib.hid ((Below.refl w.heap.size w).alloc (Nat.le_refl _) (.cells (madeCells #[.int .u64 0, .int .u64 0, .int .u64 0, .int .u64 0] (L.length * 4)) 41))
  generalize w.alloc (.cells (madeCells #[.int .u64 0, .int .u64 0, .int .u64 0, .int .u64 0] (L.length * 4)) 41) = w1 at *
  obtain ⟨g, hg⟩ : ∃ g, Hid (w.heap.size = g) := ⟨_, Lib.hid rfl⟩
  rw [hg.out] at HG ⊢
  go_wp2_with fail
  go_loopw [13] (fun i wr => ∃ j : Nat, i = .int .i64 j ∧ j ≤ L.length ∧ Hid (GsB wr g (mtR L j 0)) ∧ Hid (Below w.heap.size w wr)) (fun i _ => ((L.length : Int) - intOf i).toNat)
  case atStart => exact ⟨0, rfl, Nat.zero_le _, HG, HB⟩
  case round =>
    obtain ⟨j, rfl, hj, HG2, HB2⟩ := hrel
    generalize hwr : wr = w2 at *
    clear hwr wr HG HB w1
    by_cases hlt : j < L.length
    · have hdd : decide ((j : Int) < (L.length : Int)) = true := decide_eq_true (by omega)
      have hd2 : decide (j < L.length) = true := decide_eq_true hlt
      have hjL : (j : Int) < (L.length : Int) := by omega
      obtain ⟨b, o, rfl, hr⟩ := HN.out.kept HB2.out j hlt
      have HW1 : Hid (wrap64 ((j : Int) + 1) = ((j + 1 : Nat) : Int)) := Lib.hid (nat_wrap (by have := HL.out; omega))
      have HJ := Lib.hid hlt
      have HR := Lib.hid hr
      have HXS := Lib.hid (HK.out _ (getD_mem (d := (0, 0)) hlt))
      have HXE : Hid (∀ q, (L.getD j (0, 0)).1 &&& (L.getD q (0, 0)).1 ≠ 0 → (mtR L j q).set j ((mtR L j q).getD j 0 ||| 2 ^ q) = mtR L j (q + 1)) := Lib.hid (fun q h => mtR_set L j q hlt h)
      have HXN : Hid (∀ q, ¬ (L.getD j (0, 0)).1 &&& (L.getD q (0, 0)).1 ≠ 0 → mtR L j q = mtR L j (q + 1)) := Lib.hid (fun q h => mtR_same L j q h)
      generalize L.getD j (0, 0) = X at *
      clear hr hlt
      go_upto_region 5 with (first
        | (refine wpList_load_spot rfl (.tmp 16) rfl b (o + j * 5) X rfl HR.out ?_)
        | (refine wpList_store_spot rfl (.tmp 5) (.tmp 17) rfl X rfl rfl ?_))
      rw [hput]
      have HP5 := Lib.hid (SpB.new w2 X)
      have HB5 := Lib.hid (HB2.out.alloc HB2.out.size (.cells (row5 X) 43))
      have HG5 := Lib.hid (HG2.out.stay ((Below.refl w2.heap.size w2).alloc (Nat.le_refl _) (.cells (row5 X) 43)))
      have HGB : Hid (g < w2.heap.size) := Lib.hid HG2.out.lt
      obtain ⟨p, hp⟩ : ∃ p, Hid (w2.heap.size = p) := ⟨_, Lib.hid rfl⟩
      rw [hp.out] at HP5 HGB ⊢
      generalize w2.alloc (.cells (row5 X) 43) = w3 at *
      clear HG2 HB2 HR
      go_upto_region 6 with fail
      go_loopw [20] (fun i wr => ∃ q : Nat, i = .int .i64 q ∧ q ≤ L.length ∧ Hid (GsB wr g (mtR L j q)) ∧ Hid (SpB wr p X) ∧ Hid (Below w.heap.size w wr)) (fun i _ => ((L.length : Int) - intOf i).toNat)
      case atStart => exact ⟨0, rfl, Nat.zero_le _, HG5, HP5, HB5⟩
      case round =>
        obtain ⟨q, rfl, hq, HG3, HP3, HB3⟩ := hrel
        generalize hwr : wr = w4 at *
        clear hwr wr HG5 HP5 HB5 hp w3 w2
        by_cases hlq : q < L.length
        · have he1 : decide ((q : Int) < (L.length : Int)) = true := decide_eq_true (by omega)
          have he2 : decide (q < L.length) = true := decide_eq_true hlq
          have hqi : (q : Int) < (L.length : Int) := by omega
          obtain ⟨b2, o2, e1, hr2⟩ := HN.out.kept HB3.out q hlq
          injection e1 with e1
          injection e1 with e1 e2
          subst e1; subst e2
          have HR2 := Lib.hid hr2
          have HW2 : Hid (wrap64 ((q : Int) + 1) = ((q + 1 : Nat) : Int)) := Lib.hid (nat_wrap (by have := HL.out; omega))
          have HXE2 := Lib.hid (HXE.out q)
          have HXN2 := Lib.hid (HXN.out q)
          have HQ := Lib.hid hlq
          have HYS := Lib.hid (HK.out _ (getD_mem (d := (0, 0)) hlq))
          have HGL := Lib.hid (mtR_len L j q)
          generalize L.getD q (0, 0) = Y at *
          generalize mtR L j q = G3 at *
          clear hr2 hlq
          go_upto_region 8 with (first
            | (refine wpList_load_spot rfl (.tmp 23) rfl b (o + q * 5) Y rfl HR2.out ?_)
            | (refine wpList_store_spot rfl (.tmp 7) (.tmp 24) rfl Y rfl rfl ?_))
          rw [hput]
          have HP6 := Lib.hid (SpB.new w4 Y)
          have HA6 : Hid (Below w4.heap.size w4 (w4.alloc (.cells (row5 Y) 43))) := Lib.hid ((Below.refl w4.heap.size w4).alloc (Nat.le_refl _) (.cells (row5 Y) 43))
          have HPX := Lib.hid (HP3.out.stay HA6.out)
          obtain ⟨p2, hp2⟩ : ∃ p2, Hid (w4.heap.size = p2) := ⟨_, Lib.hid rfl⟩
          rw [hp2.out] at HP6 ⊢
          generalize w4.alloc (.cells (row5 Y) 43) = w5 at *
          have HAN := Lib.hid (and_any X.1 Y.1 w5)
          have HSS : Hid (X.1 &&& Y.1 < 2 ^ 256) := Lib.hid (Nat.lt_of_le_of_lt Nat.and_le_left HXS.out)
          have HRX := Lib.hid HPX.out.set
          have HRY := Lib.hid HP6.out.set
          have HPP : Hid (p < w4.heap.size) := Lib.hid HP3.out.lt
          by_cases h0 : X.1 &&& Y.1 = 0
          · have HGN : Hid (G3 = mtR L j (q + 1)) := Lib.hid (HXN2.out (fun h => h h0))
            have H0 := Lib.hid h0
            clear h0
            go_wp2_with (first
              | (refine wpList_load_mid rfl 41 (.tmp 25) rfl p 0 rfl (setC X.1).toList _ HRX.out Tryd.underlying41 rfl (sizeSetL _) ?_; rw [show (setC X.1).toList.toArray = setC X.1 from rfl])
              | (refine wpList_load_mid rfl 41 (.tmp 27) rfl p2 0 rfl (setC Y.1).toList _ HRY.out Tryd.underlying41 rfl (sizeSetL _) ?_; rw [show (setC Y.1).toList.toArray = setC Y.1 from rfl])
              | (go_at_call 41; refine HAN.out.mono ?_; rintro e w6 ⟨rfl, hb6⟩; have HB6 := Lib.hid (HA6.out.trans (hb6.mono HA6.out.size)); clear hb6)
              | (refine wpList_neq_none rfl _ _ _ rfl (X.1 &&& Y.1) rfl rfl HSS.out H0.out ?_))
            go_roundw
            case rel => exact ⟨q + 1, by rw [HW2.out], HQ.out, Lib.hid (by rw [← HGN.out]; exact HG3.out.stay HB6.out), Lib.hid (HP3.out.stay HB6.out), Lib.hid (HB3.out.trans (HB6.out.mono HB3.out.size))⟩
            case measure => rw [HW2.out]; exact meas9 HQ.out
          · have HGN : Hid (G3.set j (G3.getD j 0 ||| 2 ^ q) = mtR L j (q + 1)) := Lib.hid (HXE2.out h0)
            have HA : Hid (∀ w6, Below w4.heap.size w4 w6 → Calls Tryd.prog 66 #[.pointer (some ⟨g, j * 4, none⟩), .int .i64 q] w6 fun e w' => (∃ v, e = .returned v) ∧ GsB w' g (G3.set j (G3.getD j 0 ||| 2 ^ q)) ∧ But g w6 w') := Lib.hid (fun w6 hb => fadd_at g j q G3 w6 (HG3.out.stay hb) (by rw [HGL.out]; exact HJ.out) (by have := HL.out; have := HQ.out; omega))
            go_wp2_with (first
              | (refine wpList_load_mid rfl 41 (.tmp 25) rfl p 0 rfl (setC X.1).toList _ HRX.out Tryd.underlying41 rfl (sizeSetL _) ?_; rw [show (setC X.1).toList.toArray = setC X.1 from rfl])
              | (refine wpList_load_mid rfl 41 (.tmp 27) rfl p2 0 rfl (setC Y.1).toList _ HRY.out Tryd.underlying41 rfl (sizeSetL _) ?_; rw [show (setC Y.1).toList.toArray = setC Y.1 from rfl])
              | (go_at_call 41; refine HAN.out.mono ?_; rintro e w6 ⟨rfl, hb6⟩; have HB6 := Lib.hid (HA6.out.trans (hb6.mono HA6.out.size)); clear hb6)
              | (refine wpList_neq_some rfl _ _ _ rfl (X.1 &&& Y.1) rfl rfl HSS.out h0 ?_)
              | (go_at_call 66; refine (HA.out _ HB6.out).mono ?_; rintro e w7 ⟨⟨v, rfl⟩, hs7, hb7⟩; have HS7 := Lib.hid hs7; have HB7 := Lib.hid hb7; clear hs7 hb7))
            go_roundw
            case rel =>
              have hgp := hg.out
              have hgb := HGB.out
              exact ⟨q + 1, by rw [HW2.out], HQ.out, Lib.hid (by rw [← HGN.out]; exact HS7.out), Lib.hid ((HP3.out.stay HB6.out).but HB7.out (by omega)), Lib.hid (But.below (HB3.out.trans (HB6.out.mono HB3.out.size)) HB7.out (by omega) (Nat.le_trans HB3.out.size HB6.out.size))⟩
            case measure => rw [HW2.out]; exact meas9 HQ.out
        · have he1 : decide ((q : Int) < (L.length : Int)) = false := decide_eq_false (by omega)
          have he2 : decide (q < L.length) = false := decide_eq_false hlq
          have HTF : Hid (mtR L j q = mtR L (j + 1) 0) := Lib.hid (by rw [show q = L.length by omega]; exact mtR_next L j)
          rw [HTF.out] at HG3
          go_wp2_with fail
          go_roundw
          case rel => exact ⟨j + 1, by rw [HW1.out], HJ.out, HG3, HB3⟩
          case measure => rw [HW1.out]; exact meas9 HJ.out
    · have hdd : decide ((j : Int) < (L.length : Int)) = false := decide_eq_false (by omega)
      have hd2 : decide (j < L.length) = false := decide_eq_false hlt
      have HE : Hid (j = L.length) := Lib.hid (by omega)
      rw [HE.out] at HG2
      go_wp2_with fail
      go_ret
      exact ⟨g, rfl, HG2.out, Nat.le_of_eq hg.out, HB2.out⟩
end Ft
end Go.Proofs.YtghbgfkkdknmnaaDoor
namespace Go.Proofs.YtghbgfkkdknmnaaDoor
open Go.RowKit Sets Nf Fs
namespace Ft
def rowsP (l : List Pr) : List Value := l.flatMap fun p => (prC p).toList
theorem rowsP_snoc (L : List Pr) (s : Pr) : rowsP (L ++ [s]) = rowsP L ++ (prC s).toList := by unfold rowsP; rw [List.flatMap_append]; simp
theorem rowsP_length (L : List Pr) : (rowsP L).length = L.length * 2 := by
  induction L with
  | nil => rfl
  | cons s L ih => unfold rowsP at *; rw [List.flatMap_cons, List.length_append, ih, List.length_cons]; show 2 + _ = _; omega
theorem rowsP_get : ∀ (L : List Pr) (i : Nat) (s : Pr), L[i]? = some s → ∀ j, j < 2 → (rowsP L)[i * 2 + j]? = ((prC s).toList)[j]?
  | t :: L, 0, s, h, j, hj => by
    simp at h; subst h
    unfold rowsP
    rw [List.flatMap_cons, List.getElem?_append_left (by show _ < 2; omega)]
    simp
  | t :: L, i + 1, s, h, j, hj => by
    have ih := rowsP_get L i s (by simpa using h) j hj
    unfold rowsP at ih ⊢
    rw [List.flatMap_cons, List.getElem?_append_right (by show 2 ≤ _; omega), show (i + 1) * 2 + j - (prC t).toList.length = i * 2 + j from by show _ - 2 = _; omega, ih]
theorem onePr (p : Pr) : (prC p).all (·.oneCell') = true := by simp [prC, Value.oneCell']
theorem sizePr (p : Pr) : (Tryd.prog.info? 62).map (·.size) = some (prC p).size := by
  show _ = some 2
  kernel_rfl
theorem infoPr : (Tryd.prog.info? 62).map (fun i => (i.zero, i.size, i.bytes)) = some (some (.agg #[.int .i64 0, .int .i64 0]), 2, 16) := by kernel_rfl
theorem sizePrL (p : Pr) : (Tryd.prog.info? 62).map (·.size) = some (prC p).toList.length := by
  show _ = some 2
  kernel_rfl
/-- A pair lies in block B. -/
structure PrB (w : World) (B : Nat) (p : Pr) : Prop where
  row : w.heap[B]? = some (.cells (prC p) 62 (0, 0))
theorem PrB.lt {w : World} {B : Nat} {p : Pr} (h : PrB w B p) : B < w.heap.size := (Array.getElem?_eq_some_iff.1 h.row).1
theorem PrB.new (w : World) (p : Pr) : PrB (w.alloc (.cells (prC p) 62)) w.heap.size p := ⟨heap_alloc_new w _⟩
theorem PrB.of {w w' : World} {B : Nat} {p : Pr} (h : PrB w B p) (e : w'.heap[B]? = w.heap[B]?) : PrB w' B p := ⟨e.trans h.row⟩
theorem PrB.stay {w w' : World} {B : Nat} {p : Pr} (h : PrB w B p) (hb : Below w.heap.size w w') : PrB w' B p := h.of (hb.block _ h.lt)
theorem PrB.c0 {w : World} {B : Nat} {p : Pr} (h : PrB w B p) : w.cell? ⟨B, 0, none⟩ = some (.int .i64 (p.1 : Nat)) := by rw [cell_of_row w B 0 _ _ _ h.row]; rfl
theorem PrB.c1 {w : World} {B : Nat} {p : Pr} (h : PrB w B p) : w.cell? ⟨B, 1, none⟩ = some (.int .i64 (p.2 : Nat)) := by rw [cell_of_row w B 1 _ _ _ h.row]; rfl
/-- The search's cells. -/
def seC (x : Ma) (m : Mc) (gF gM gB gO : Nat) (sv : Value) : Array Value := #[.slice x.sa m.sp.length x.sc, .slice x.fa m.fi.length x.fc, .slice x.oa m.fo.length x.oc, .slice x.la m.la.length x.lc, .bool m.em, .slice (some ⟨gF, 0, none⟩) m.sp.length m.sp.length, .slice (some ⟨gM, 0, none⟩) m.sp.length m.sp.length, .map (some gB), .map (some gO), sv]
/-- The sets behind the spots. -/
def foR (m : Mc) : List Nat := (List.range m.sp.length).map (foN m)
theorem foR_len (m : Mc) : (foR m).length = m.sp.length := by unfold foR; simp
theorem foR_get (m : Mc) (k : Nat) (h : k < m.sp.length) : (foR m).getD k 0 = foN m k := by
  unfold foR
  rw [List.getD_eq_getElem?_getD, List.getElem?_map, List.getElem?_range h]; rfl
/-- The search lies in block mb. -/
structure SeAt (s mb gF gM gB gO : Nat) (x : Ma) (m : Mc) (sv : Value) (S : St) (w : World) : Prop where
  row : w.heap[mb]? = some (.cells (seC x m gF gM gB gO sv) 60 (0, 0))
  mapB : MapP w gB S.B
  mapO : MapP w gO S.O
  own : w.ownsRow s 62 2 sv S.op.length (rowsP S.op)
  fol : GsB w gF (foR m)
  mee : GsB w gM (mtR m.sp m.sp.length 0)
  mac : ∀ W, Below s w W → MAt W x m
  ne : gB ≠ gO
  low : s ≤ mb ∧ s ≤ gF ∧ s ≤ gM ∧ s ≤ gB ∧ s ≤ gO
/-- What stays at the search's calls. -/
structure Fz (mb gB gO : Nat) (w : World) (v : Value) (w' : World) (v' : Value) : Prop where
  os : w'.os = w.os
  tape : w'.tape = w.tape
  output : w'.output = w.output
  size : w.heap.size ≤ w'.heap.size
  block : ∀ k, k < w.heap.size → k ≠ mb → k ≠ gB → k ≠ gO → v.ownBlock ≠ some k → w'.heap[k]? = w.heap[k]?
  own : ∀ g, v'.ownBlock = some g → v.ownBlock = some g ∨ w.heap.size ≤ g
/-- Block k is none of those that turn. -/
def Off (mb gB gO : Nat) (v : Value) (k : Nat) : Prop := k ≠ mb ∧ k ≠ gB ∧ k ≠ gO ∧ v.ownBlock ≠ some k
section
variable {w w1 w2 : World} {s mb gF gM gB gO : Nat} {x : Ma} {m : Mc} {v v1 v2 sv : Value} {S : St}
theorem Fz.refl (mb gB gO : Nat) (w : World) (v : Value) : Fz mb gB gO w v w v := ⟨rfl, rfl, rfl, Nat.le_refl _, fun _ _ _ _ _ _ => rfl, fun _ h => .inl h⟩
theorem Fz.of_below (mb gB gO : Nat) (v : Value) (h : Below w.heap.size w w1) : Fz mb gB gO w v w1 v := ⟨h.os, h.tape, h.output, h.size, fun k hk _ _ _ _ => h.block k hk, fun _ h => .inl h⟩
theorem Fz.off (h : Fz mb gB gO w v w1 v1) {k : Nat} (ho : Off mb gB gO v k) (hk : k < w.heap.size) : Off mb gB gO v1 k := ⟨ho.1, ho.2.1, ho.2.2.1, fun e => (h.own k e).elim ho.2.2.2 (fun h2 => by omega)⟩
theorem Fz.keep (h : Fz mb gB gO w v w1 v1) {k : Nat} (ho : Off mb gB gO v k) (hk : k < w.heap.size) : w1.heap[k]? = w.heap[k]? := h.block k hk ho.1 ho.2.1 ho.2.2.1 ho.2.2.2
theorem Fz.trans (h : Fz mb gB gO w v w1 v1) (k : Fz mb gB gO w1 v1 w2 v2) : Fz mb gB gO w v w2 v2 := by
  refine ⟨k.os.trans h.os, k.tape.trans h.tape, k.output.trans h.output, Nat.le_trans h.size k.size, fun i hi h1 h2 h3 h4 => ?_, fun g hg => ?_⟩
  · rw [k.block i (Nat.lt_of_lt_of_le hi h.size) h1 h2 h3 (h.off ⟨h1, h2, h3, h4⟩ hi).2.2.2, h.block i hi h1 h2 h3 h4]
  · rcases k.own g hg with h1 | h1
    · exact h.own g h1
    · exact .inr (Nat.le_trans h.size h1)
theorem SeAt.lt (h : SeAt s mb gF gM gB gO x m sv S w) : mb < w.heap.size := (Array.getElem?_eq_some_iff.1 h.row).1
theorem SeAt.neB (h : SeAt s mb gF gM gB gO x m sv S w) : mb ≠ gB := fun e => h.mapB.no_cells (by rw [← e]; exact h.row)
theorem SeAt.neO (h : SeAt s mb gF gM gB gO x m sv S w) : mb ≠ gO := fun e => h.mapO.no_cells (by rw [← e]; exact h.row)
theorem gs_row {g : Nat} {G : List Nat} (h : GsB w g G) : ∃ c, w.heap[g]? = some (.cells c 41 (0, 0)) := by
  obtain ⟨c, h1, -⟩ := h
  exact ⟨c, h1⟩
theorem SeAt.own_ne (h : SeAt s mb gF gM gB gO x m sv S w) : ∀ g, sv.ownBlock = some g → g ≠ mb ∧ g ≠ gB ∧ g ≠ gO ∧ g ≠ gF ∧ g ≠ gM := fun g hg => by
  obtain ⟨cs, hc⟩ := own_type h.own hg
  obtain ⟨c1, h1⟩ := gs_row h.fol
  obtain ⟨c2, h2⟩ := gs_row h.mee
  refine ⟨fun e => ?_, fun e => h.mapB.no_cells (e ▸ hc), fun e => h.mapO.no_cells (e ▸ hc), fun e => ?_, fun e => ?_⟩
  · rw [e, h.row] at hc
    injection hc with hc
    injection hc with _ h2
    exact absurd h2 (by decide)
  · rw [e, h1] at hc
    injection hc with hc
    injection hc with _ h2
    exact absurd h2 (by decide)
  · rw [e, h2] at hc
    injection hc with hc
    injection hc with _ h2
    exact absurd h2 (by decide)
theorem SeAt.set_ne (h : SeAt s mb gF gM gB gO x m sv S w) : (gF ≠ mb ∧ gF ≠ gB ∧ gF ≠ gO) ∧ gM ≠ mb ∧ gM ≠ gB ∧ gM ≠ gO := by
  obtain ⟨c1, h1⟩ := gs_row h.fol
  obtain ⟨c2, h2⟩ := gs_row h.mee
  refine ⟨⟨fun e => ?_, fun e => h.mapB.no_cells (e ▸ h1), fun e => h.mapO.no_cells (e ▸ h1)⟩, fun e => ?_, fun e => h.mapB.no_cells (e ▸ h2), fun e => h.mapO.no_cells (e ▸ h2)⟩
  · rw [e, h.row] at h1
    injection h1 with h1
    injection h1 with _ h3
    exact absurd h3 (by decide)
  · rw [e, h.row] at h2
    injection h2 with h2
    injection h2 with _ h3
    exact absurd h3 (by decide)
theorem SeAt.stay (h : SeAt s mb gF gM gB gO x m sv S w) (hb : Below w.heap.size w w1) (hs : s ≤ w.heap.size) : SeAt s mb gF gM gB gO x m sv S w1 :=
  ⟨(hb.block _ h.lt).trans h.row, h.mapB.stay hb, h.mapO.stay hb, own_stay h.own hb, h.fol.stay hb, h.mee.stay hb, fun W hW => h.mac W ((hb.mono hs).trans hW), h.ne, h.low⟩
theorem SeAt.cell (h : SeAt s mb gF gM gB gO x m sv S w) (q : Nat) (u : Value) (hu : (seC x m gF gM gB gO sv)[q]? = some u) : w.cell? ⟨mb, q, none⟩ = some u := by
  rw [cell_of_row w mb q _ _ _ h.row]; exact hu
/-- A map is written. -/
theorem SeAt.putB (h : SeAt s mb gF gM gB gO x m sv S w) {T : Pr → Nat} (hm : MapP w1 gB T) (hb : But gB w w1) : SeAt s mb gF gM gB gO x m sv ⟨T, S.O, S.op⟩ w1 := by
  have hs := h.set_ne
  exact ⟨(hb.block _ h.lt h.neB).trans h.row, hm, h.mapO.of (hb.block _ h.mapO.lt h.ne.symm), own_kept h.own (fun g hg => hb.block g (h.own.lt g hg).2 (h.own_ne g hg).2.1), h.fol.of (hb.block _ h.fol.lt hs.1.2.1), h.mee.of (hb.block _ h.mee.lt hs.2.2.1), fun W hW => h.mac W ((But.below (Below.refl s w) hb h.low.2.2.2.1 (Nat.le_of_lt (Nat.lt_of_le_of_lt h.low.2.2.2.1 h.mapB.lt))).trans hW), h.ne, h.low⟩
theorem SeAt.putO (h : SeAt s mb gF gM gB gO x m sv S w) {T : Pr → Nat} (hm : MapP w1 gO T) (hb : But gO w w1) : SeAt s mb gF gM gB gO x m sv ⟨S.B, T, S.op⟩ w1 := by
  have hs := h.set_ne
  exact ⟨(hb.block _ h.lt h.neO).trans h.row, h.mapB.of (hb.block _ h.mapB.lt h.ne), hm, own_kept h.own (fun g hg => hb.block g (h.own.lt g hg).2 (h.own_ne g hg).2.2.1), h.fol.of (hb.block _ h.fol.lt hs.1.2.2), h.mee.of (hb.block _ h.mee.lt hs.2.2.2), fun W hW => h.mac W ((But.below (Below.refl s w) hb h.low.2.2.2.2 (Nat.le_of_lt (Nat.lt_of_le_of_lt h.low.2.2.2.2 h.mapO.lt))).trans hW), h.ne, h.low⟩
theorem Fz.putB (v : Value) (hb : But gB w w1) : Fz mb gB gO w v w1 v := ⟨hb.os, hb.tape, hb.output, hb.size, fun k hk _ h2 _ _ => hb.block k hk h2, fun _ h => .inl h⟩
theorem Fz.putO (v : Value) (hb : But gO w w1) : Fz mb gB gO w v w1 v := ⟨hb.os, hb.tape, hb.output, hb.size, fun k hk _ _ h2 _ => hb.block k hk h2, fun _ h => .inl h⟩
theorem Fz.below (h : Fz mb gB gO w v w1 v1) {A : Nat} (hA : A ≤ w.heap.size) (h1 : A ≤ mb) (h2 : A ≤ gB) (h3 : A ≤ gO) (h4 : ∀ g, v.ownBlock = some g → A ≤ g) : Below A w w1 :=
  ⟨h.os, h.tape, h.output, h.size, fun k hk => h.block k (by omega) (by omega) (by omega) (by omega) (fun e => by have := h4 k e; omega)⟩
end
end Ft
end Go.Proofs.YtghbgfkkdknmnaaDoor
