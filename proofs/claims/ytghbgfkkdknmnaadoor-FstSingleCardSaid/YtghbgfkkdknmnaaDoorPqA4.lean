/- Several texts in one. -/
import Derived.Test.YtghbgfkkdknmnaaDoorPqA3
import Derived.Laws.MakeOwn
import Derived.Test.YtghbgfkkdknmnaaDoorPqA2
import Derived.RangeFuncNested
import Derived.RangeFuncBound
import Derived.RangeFuncCalls
import Derived.RangeFuncLeaves
import Derived.RangeFuncKeeps
import Derived.Shelf.Abstract
import Derived.Shelf.RegionOpen
import Derived.OwnWalkIn
import Derived.TacticsInMore
import Derived.LoopNIn
import Derived.LoopIn
namespace Go.Proofs.YtghbgfkkdknmnaaDoor
open Go.RowKit Sets Nf
namespace Nf
/-- Block g is a row of these sets. -/
def GsB (w : World) (g : Nat) (G : List Nat) : Prop := w.rowIs g 41 (4 * G.length) (fun j => .int .u64 (wd (G.getD (j / 4) 0) (j % 4)))
theorem GsB.lt {w : World} {g : Nat} {G : List Nat} (h : GsB w g G) : g < w.heap.size := World.rowIs.lt h
theorem GsB.of {w w' : World} {g : Nat} {G : List Nat} (h : GsB w g G) (e : w'.heap[g]? = w.heap[g]?) : GsB w' g G := World.rowIs.of_block h e
theorem GsB.kept {w w' : World} {A g : Nat} {G : List Nat} (h : GsB w g G) (hb : Below A w w') (hA : g < A) : GsB w' g G := h.of (hb.block _ hA)
theorem GsB.stay {w w' : World} {g : Nat} {G : List Nat} (h : GsB w g G) (hb : Below w.heap.size w w') : GsB w' g G := h.kept hb h.lt
theorem GsB.but {w w' : World} {A g : Nat} {G : List Nat} (h : GsB w g G) (hb : But A w w') (hA : g ≠ A) : GsB w' g G := h.of (hb.block _ h.lt hA)
theorem GsB.range {w : World} {g : Nat} {G : List Nat} (h : GsB w g G) {i : Nat} (hi : i < G.length) : w.rangeAt g (i * 4) (setC (G.getD i 0)).toList := by
  intro j v hv
  have hj : j < 4 := by have := (List.getElem?_eq_some_iff.1 hv).1; simpa [setC] using this
  rw [World.rowIs.cell h (by omega), show (i * 4 + j) / 4 = i from by omega, show (i * 4 + j) % 4 = j from by omega]
  rw [← hv]
  have : j = 0 ∨ j = 1 ∨ j = 2 ∨ j = 3 := by omega
  rcases this with rfl | rfl | rfl | rfl <;> rfl
theorem GsB.there {w : World} {g : Nat} {G : List Nat} (h : GsB w g G) {i : Nat} (hi : i < G.length) (T : Nat) : w.there g (i * 4) (setC T).size := by
  intro j hj
  have hj : j < 4 := hj
  refine ⟨?_, World.rowIs.frozen h _⟩
  rw [World.rowIs.cell h (by omega)]; rfl
theorem GsB.new (w : World) (n : Nat) : GsB (w.alloc (.cells (madeCells #[.int .u64 0, .int .u64 0, .int .u64 0, .int .u64 0] (n * 4)) 41)) w.heap.size (List.replicate n 0) := by
  have h := World.rowIs_alloc w (madeCells #[.int .u64 0, .int .u64 0, .int .u64 0, .int .u64 0] (n * 4)) 41 (fun j => .int .u64 (wd ((List.replicate n 0).getD (j / 4) 0) (j % 4))) (fun i hi => by
    rw [size_madeCells] at hi
    have h0 : (List.replicate n 0).getD (i / 4) 0 = 0 := by
      rw [List.getD_eq_getElem?_getD, List.getElem?_replicate]
      split <;> rfl
    rw [h0, wd_zero]
    have h1 : i % 4 = 0 ∨ i % 4 = 1 ∨ i % 4 = 2 ∨ i % 4 = 3 := by omega
    unfold madeCells
    rcases h1 with h1 | h1 | h1 | h1 <;> simp [hi, h1])
  rw [size_madeCells] at h
  unfold GsB
  rw [show 4 * (List.replicate n 0).length = n * 4 from by rw [List.length_replicate]; omega]
  exact h
theorem GsB.set {w : World} {g : Nat} {G : List Nat} (h : GsB w g G) {i : Nat} (hi : i < G.length) (T : Nat) : GsB (w.setCells g (i * 4) (setC T).toList) g (G.set i T) := by
  unfold GsB
  rw [List.length_set]
  refine World.rowIs.congr (World.rowIs.set (World.rowIs.set (World.rowIs.set (World.rowIs.set h (i * 4) (.int .u64 (wd T 0))) (i * 4 + 1) (.int .u64 (wd T 1))) (i * 4 + 1 + 1) (.int .u64 (wd T 2))) (i * 4 + 1 + 1 + 1) (.int .u64 (wd T 3))) ?_
  intro j hj
  have hget : (G.set i T).getD (j / 4) 0 = if j / 4 = i then T else G.getD (j / 4) 0 := by
    rw [List.getD_eq_getElem?_getD, List.getElem?_set]
    by_cases e : i = j / 4
    · rw [if_pos e, if_pos (by omega), if_pos e.symm]; rfl
    · rw [if_neg e, if_neg (fun x => e x.symm), List.getD_eq_getElem?_getD]
  rw [hget]
  by_cases e : j / 4 = i
  · rw [if_pos e]
    have h1 : j % 4 = 0 ∨ j % 4 = 1 ∨ j % 4 = 2 ∨ j % 4 = 3 := by omega
    rcases h1 with h1 | h1 | h1 | h1
    · rw [h1, if_neg (by omega), if_neg (by omega), if_neg (by omega), if_pos (by omega)]
    · rw [h1, if_neg (by omega), if_neg (by omega), if_pos (by omega)]
    · rw [h1, if_neg (by omega), if_pos (by omega)]
    · rw [h1, if_pos (by omega)]
  · rw [if_neg e, if_neg (by omega), if_neg (by omega), if_neg (by omega), if_neg (by omega)]
theorem But.cells4 (g o : Nat) (w : World) (T : Nat) : But g w (w.setCells g o (setC T).toList) :=
  (((But.set g w o _).trans (But.set g _ (o + 1) _)).trans (But.set g _ (o + 1 + 1) _)).trans (But.set g _ (o + 1 + 1 + 1) _)
theorem infoSet4 : (Tryd.prog.info? 41).map (fun i => (i.zero.map (·.cells), i.size, i.bytes)) = some (some #[.int .u64 0, .int .u64 0, .int .u64 0, .int .u64 0], 4, 32) := by kernel_rfl
theorem wpList_make_sets {w : World} {ops : Array Oper} {rest : List Oper} {o : Oper} {a : Act} {Q : Exit → Act → World → Prop}
    (hg : o.guard = none) (l c : Operand) (hop : o.op = Op.makeSlice 50 l c) (n : Nat) (hl : a.eval l = .int .i64 (n : Int)) (hc : a.eval c = .int .i64 (n : Int)) (hn : n ≤ 1000)
    (hK : wpList Tryd.prog ops Q rest (a.put o.dst (.slice (some ⟨w.heap.size, 0, none⟩) n n)) (w.alloc (.cells (madeCells #[.int .u64 0, .int .u64 0, .int .u64 0, .int .u64 0] (n * 4)) 41))) :
    wpList Tryd.prog ops Q (o :: rest) a w := by
  refine wpList_plain hg fun K hK' => ?_
  obtain ⟨i, hi, hzz⟩ := Option.map_eq_some_iff.1 infoSet4
  simp only [Prod.mk.injEq] at hzz
  obtain ⟨hz, hs, hb⟩ := hzz
  obtain ⟨z, hz1, hz2⟩ := Option.map_eq_some_iff.1 hz
  have hrun := run_make (P := Tryd.prog) w 50 41 i z Tryd.underlying50 hi hz1 .i64 .i64 n n (by omega) (Int.le_refl _) (by rw [hb]; omega) (by omega)
  simp only [Int.toNat_natCast, hs, hz2] at hrun
  unfold Oper.wp
  simp [execOp, hop, hl, hc, hrun, Result.andThen]
  exact hK' _ _ hK
theorem wpList_store_at {ops : Array Oper} {rest : List Oper} {o : Oper} {a : Act} {w : World} {Q : Exit → Act → World → Prop} (hgd : o.guard = none) (X Y : Operand) (ho : o.op = .store 41 X Y)
    (g j T : Nat) (hx : a.eval X = .pointer (some ⟨g, j, none⟩)) (hy : a.eval Y = .agg (setC T)) (ht : w.there g j (setC T).size) (h : wpList Tryd.prog ops Q rest (a.put o.dst undef) (w.setCells g j (setC T).toList)) : wpList Tryd.prog ops Q (o :: rest) a w :=
  wpList_store_mid hgd 41 X Y ho g j (setC T) hx hy ht (sizeSet T) (oneSet T) h
set_option maxHeartbeats 3200000 in
set_option maxRecDepth 100000 in
theorem groups_any (a : Option Addr) (cap : Nat) (L : List (List Int)) (w : World) (h : ListsIn w a L) (hl : L.length ≤ 1000) (hn : ∀ l ∈ L, l.length ≤ 1000 ∧ ∀ k ∈ l, 0 ≤ k ∧ k < 256) :
    Calls Tryd.prog 37 #[.slice a L.length cap] w fun e w' => ∃ g, e = .returned (.slice (some ⟨g, 0, none⟩) L.length L.length) ∧ GsB w' g (L.map grp) ∧ w.heap.size ≤ g ∧ Below w.heap.size w w' := by
  have HN := Lib.hid h
  have HL := Lib.hid hl
  have HK := Lib.hid hn
  clear h hn hl
  go_enter Tryd.func37, Tryd.ntmps37
  go_upto_region 2 with (refine wpList_make_sets rfl (.tmp 7) (.tmp 7) rfl L.length rfl rfl HL.out ?_)
  have HG := Lib.hid (GsB.new w L.length)
  have HB := Lib.hid ((Below.refl w.heap.size w).alloc (Nat.le_refl _) (.cells (madeCells #[.int .u64 0, .int .u64 0, .int .u64 0, .int .u64 0] (L.length * 4)) 41))
  generalize w.alloc (.cells (madeCells #[.int .u64 0, .int .u64 0, .int .u64 0, .int .u64 0] (L.length * 4)) 41) = w1 at *
  obtain ⟨g, hg⟩ : ∃ g, Hid (w.heap.size = g) := ⟨_, Lib.hid rfl⟩
  rw [hg.out] at HG ⊢
  go_wp2_with fail
  go_loopw [11] (fun i wr => ∃ (j : Nat) (G : List Nat), i = .int .i64 j ∧ j ≤ L.length ∧ Hid (GsB wr g G) ∧ Hid (G.length = L.length ∧ ∀ q, q < j → G.getD q 0 = grp (L.getD q [])) ∧ Hid (Below w.heap.size w wr)) (fun i _ => ((L.length : Int) - intOf i).toNat)
  case atStart => exact ⟨0, _, rfl, Nat.zero_le _, HG, Lib.hid ⟨by simp, fun q hq => by omega⟩, HB⟩
  case round =>
    obtain ⟨j, G, rfl, hj, HG2, HE, HB2⟩ := hrel
    generalize hwr : wr = w2 at *
    clear hwr wr HG HB w1
    have HN2 := Lib.hid (HN.out.kept HB2.out)
    by_cases hlt : j < L.length
    · have hdd : decide ((j : Int) < (L.length : Int)) = true := decide_eq_true (by omega)
      have hd2 : decide (j < L.length) = true := decide_eq_true hlt
      obtain ⟨b, o, x, c, rfl, hc, hn⟩ := HN2.out j hlt
      have HX := Lib.hid (HK.out _ (getD_mem (d := []) hlt))
      have HW1 : Hid (wrap64 ((j : Int) + 1) = ((j + 1 : Nat) : Int)) := Lib.hid (by have := HL.out; unfold wrap64; omega)
      have HGR := Lib.hid (group_any x c (L.getD j []) w2 hn HX.out.1 HX.out.2)
      have HGN : Hid (∀ q, q < j + 1 → (G.set j (grp (L.getD j []))).getD q 0 = grp (L.getD q [])) := Lib.hid (fun q hq => by
        rw [List.getD_eq_getElem?_getD, List.getElem?_set]
        by_cases e : j = q
        · subst e; rw [if_pos rfl, if_pos (by rw [HE.out.1]; omega)]; rfl
        · rw [if_neg e, ← List.getD_eq_getElem?_getD]; exact HE.out.2 q (by omega))
      clear hn
      generalize L.getD j [] = l at *
      have hjL : (j : Int) < (L.length : Int) := by omega
      have hjG : j < G.length := by rw [HE.out.1]; exact hlt
      have HJG := Lib.hid hjG
      clear hjG
      go_wp2_with (first
        | (go_at_call 38; refine HGR.out.mono ?_; rintro e w3 ⟨rfl, hb3⟩; have HB3 := Lib.hid hb3; clear hb3)
        | (refine wpList_store_at rfl (.tmp 20) (.tmp 19) rfl g (j * 4) (grp l) rfl rfl ((HG2.out.stay HB3.out).there HJG.out _) ?_))
      go_roundw
      case rel => exact ⟨j + 1, G.set j (grp l), by rw [HW1.out], hlt, Lib.hid ((HG2.out.stay HB3.out).set HJG.out _), Lib.hid ⟨by rw [List.length_set]; exact HE.out.1, HGN.out⟩, Lib.hid (But.below (HB2.out.trans (HB3.out.mono HB2.out.size)) (But.cells4 _ _ _ _) (Nat.le_of_eq hg.out) (Nat.le_trans HB2.out.size HB3.out.size))⟩
      case measure => rw [HW1.out]; exact meas9 hlt
    · have hdd : decide ((j : Int) < (L.length : Int)) = false := decide_eq_false (by omega)
      have hd2 : decide (j < L.length) = false := decide_eq_false hlt
      have HT : Hid (G = L.map grp) := Lib.hid (by
        refine List.ext_getElem? fun q => ?_
        rw [List.getElem?_map]
        by_cases hq : q < L.length
        · have := HE.out.2 q (by omega)
          rw [List.getD_eq_getElem?_getD, List.getElem?_eq_getElem (by rw [HE.out.1]; exact hq), List.getD_eq_getElem?_getD, List.getElem?_eq_getElem hq] at this
          rw [List.getElem?_eq_getElem (by rw [HE.out.1]; exact hq), List.getElem?_eq_getElem hq]
          simpa using this
        · rw [List.getElem?_eq_none (by rw [HE.out.1]; omega), List.getElem?_eq_none (by omega)]; rfl)
      rw [HT.out] at HG2
      go_wp2_with fail
      go_ret
      exact ⟨g, rfl, HG2.out, Nat.le_of_eq hg.out, HB2.out⟩
end Nf
end Go.Proofs.YtghbgfkkdknmnaaDoor
namespace Go.Proofs.YtghbgfkkdknmnaaDoor
open Go.RowKit Go.Shelf Sets Nf
attribute [local go_sem] Oper.semAt_some
namespace Nf
theorem each_any (S : Nat) (w : World) :
    Calls Tryd.prog 48 #[.agg (setC S)] w fun e w' =>
      e = .returned (.func (.func 64) #[] #[.pointer (some ⟨w.heap.size, 0, none⟩)]) ∧ w' = w.alloc (.cells (setC S) 41) := by
  go_enter Tryd.func48, Tryd.ntmps48
  go_wp2
  go_ret
  exact ⟨rfl, rfl⟩
theorem sub_one (r : Nat) (h0 : r ≠ 0) (h : r < 18446744073709551616) : IntKind.u64.wrap ((r : Int) - 1) = ((r - 1 : Nat) : Int) := by
  rw [IntKind.wrap_u64]; omega
theorem tz_num (i r : Nat) (hi : i < 4) (h0 : r ≠ 0) (h : r < 18446744073709551616) : wrap64 ((i : Int) * 64) = ((i * 64 : Nat) : Int) ∧ wrap64 (((i * 64 : Nat) : Int) + (Lib.ctz 64 r : Nat)) = ((64 * i + Lib.ctz 64 r : Nat) : Int) := by
  obtain ⟨-, -, h3⟩ := ctz_bit r h0 h
  unfold wrap64
  constructor <;> omega
set_option maxRecDepth 100000 in
set_option maxHeartbeats 4000000 in
theorem each1_in (n : Nat) (hn : 1 ≤ n) (n0 l Bs S : Nat) (J Jx : List Nat → World → Prop) (_hJd : ∀ s w, J s w → J s w.drew)
    (hY : ∀ pre x W, J pre W → pre.length < 256 → S.testBit x = true ∧ x < 256 → YieldAt Fence.wide (n - 1) Tryd.prog l #[.int .i64 (x : Nat)] W fun e W' =>
      (e = .returned (.bool true) ∧ J (pre ++ [x]) W' ∧ Below n0 W W') ∨ (e = .returned (.bool false) ∧ Jx (pre ++ [x]) W'))
    (W : World) (hs : SetB W Bs S) (hT : Tab W) (hg : 0 < n0) (h0 : J [] W) :
    CallsIn Fence.wide n Tryd.prog 64 #[.func (.yield l) #[] #[], .pointer (some ⟨Bs, 0, none⟩)] W fun e W' => (∃ v, e = .returned v) ∧
      ((∃ ys, ys = listN S ∧ J ys W') ∨ (∃ pre, Jx pre W')) := by
  refine callsIn_of_wp Tryd.func64 rfl trivial ?_ rfl
  simp only [Tryd.ntmps64, List.size_toArray, List.length_cons, List.length_nil, Nat.reduceAdd, Nat.reduceSub, Array.replicate_succ, Array.replicate_zero, List.push_toArray, List.append_toArray, List.nil_append, List.cons_append]
  refine wpIn_wide.2 ?_
  go_upto_region 1 with (refine wpList_load_set rfl (.tmp 1) rfl Bs S rfl hs ?_)
  refine (wpIn_wide (n := n)).1 ?_
  gi_loopw [6] (fun i wr => ∃ k : Nat, i = .int .i64 k ∧ k ≤ 4 ∧ Hid (J (upTo S k) wr) ∧ Hid (Below n0 W wr)) (fun i _ => 4 - (intOf i).toNat)
  case atStart => exact ⟨0, rfl, by decide, Lib.hid (by rw [upTo_zero]; exact h0), Lib.hid (Below.refl _ _)⟩
  case round =>
    obtain ⟨k, rfl, hk, HJ, HB⟩ := hrel
    generalize hwr : wr = w2 at *
    clear hwr wr
    by_cases hlt : k < 4
    · have hdd : decide ((k : Int) < 4) = true := decide_eq_true (by omega)
      have hd2 : decide (k < 4) = true := decide_eq_true hlt
      have HW1 : Hid (wrap64 ((k : Int) + 1) = ((k + 1 : Nat) : Int)) := Lib.hid (by unfold wrap64; omega)
      have hix := idxk S k hlt
      unfold setC
      gi_wp2
      have HK := Lib.hid hlt
      clear hdd hd2 hix hlt
      gi_loopw [4] (fun x wr => ∃ (r : Nat) (pre : List Nat), x = .int .u64 r ∧ Hid (r < 18446744073709551616) ∧ Hid (pre ++ bitsOf k r = upTo S (k + 1)) ∧ Hid (J pre wr) ∧ Hid (Below n0 W wr)) (fun x _ => (intOf x).toNat)
      case atStart => exact ⟨wd S k, upTo S k, rfl, Lib.hid (wd_lt S k), Lib.hid (upTo_succ S k).symm, HJ, HB⟩
      case round =>
        obtain ⟨r, pre, rfl, HR, HP, HJ2, HB2⟩ := hrel
        generalize hwr : wr = w3 at *
        clear hwr wr
        by_cases hr : r = 0
        · subst hr
          have HE : Hid (pre = upTo S (k + 1)) := Lib.hid (by rw [← HP.out, bitsOf_zero, List.append_nil])
          gi_wp2
          go_roundw
          case rel => exact ⟨k + 1, by first | rw [HW1.out] | rfl, by have := HK.out; omega, Lib.hid (by rw [← HE.out]; exact HJ2.out), HB2⟩
          case measure => have := HK.out; simp only [intOf]; omega
        · have hne := ne_zero_b hr
          have HS := Lib.hid (bitsOf_step k r hr HR.out)
          obtain ⟨n1, n2⟩ := tz_num k r HK.out hr HR.out
          have hcw := clear_word r hr HR.out
          have HLT := Lib.hid (clear_lt r hr)
          have HLEN : Hid (pre.length < 256) := Lib.hid (by
            have h1 := upTo_length S (k + 1)
            rw [← HP.out, HS.out, List.length_append, List.length_cons] at h1
            have := HK.out
            omega)
          have HT3 := Lib.hid (hT.below HB2.out hg)
          have HTZ := Lib.hid (tz_any r w3 HR.out hr HT3.out)
          have hr63 : r < 18446744073709551616 := HR.out
          have HIN : Hid (S.testBit (64 * k + Lib.ctz 64 r) = true ∧ 64 * k + Lib.ctz 64 r < 256) := Lib.hid (by
            have hm : 64 * k + Lib.ctz 64 r ∈ upTo S (k + 1) := by rw [← HP.out, HS.out]; simp
            unfold upTo at hm
            rw [List.mem_filter, List.mem_range] at hm
            have := HK.out
            exact ⟨hm.2, by omega⟩)
          obtain ⟨fn, tmps, assign, body, hy, hR⟩ := hY pre (64 * k + Lib.ctz 64 r) w3 HJ2.out HLEN.out HIN.out
          clear HIN
          have HRR := Lib.hid hR
          clear hR hr63
          have HZ := Lib.hid (ctz_bit r hr HR.out).2.2
          generalize Lib.ctz 64 r = z at *
          have HR0 := Lib.hid hr
          clear hr
          have hz := HZ.out
          rw [show ((64 * k + z : Nat) : Int) = (k : Int) * 64 + (z : Int) from by omega] at hy
          clear n1 n2
          gi_wp2_with (refine ⟨trivial, (callsIn_wide.2 HTZ.out).mono ?_⟩; rintro e w4 ⟨rfl, rfl⟩)
          refine HRR.out.mono ?_
          rintro e W3 (⟨rfl, hJ3, hk3⟩ | ⟨rfl, hJx3⟩)
          · gi_wp2
            go_roundw
            case rel => exact ⟨r &&& (r - 1), pre ++ [64 * k + z], rfl, Lib.hid (Nat.lt_of_le_of_lt Nat.and_le_left HR.out), Lib.hid (by rw [List.append_assoc]; rw [HS.out] at HP; exact HP.out), Lib.hid hJ3, Lib.hid (HB2.out.trans hk3)⟩
            case measure => have := HLT.out; simp only [intOf]; omega
          · gi_wp2
            refine bodyPost_ret (results_none rfl _ _ _) rfl ?_
            exact ⟨⟨_, rfl⟩, .inr ⟨_, hJx3⟩⟩
    · have hke : k = 4 := by omega
      subst hke
      gi_wp2
      go_end0
      exact ⟨⟨_, rfl⟩, .inl ⟨_, rfl, by rw [← upTo_four]; exact HJ.out⟩⟩
/-- a spot of S -/
abbrev In (S : Nat) := { k : Nat // S.testBit k = true ∧ k < 256 }
theorem each_stops (n : Nat) (hn : 1 ≤ n) (n0 Bs S : Nat) (w : World) (hs : SetB w Bs S) (hT : Tab w) (hg : 0 < n0) (h0 : n0 ≤ w.heap.size) :
    SeqStopsK Fence.wide n Tryd.prog 64 #[.pointer (some ⟨Bs, 0, none⟩)] (fun k : In S => #[.int .i64 (k.1 : Nat)]) (Below n0)
      (fun ys => ys.map Subtype.val = listN S) (fun _ => True) 256 w := fun l J Jx W hW hJ hJx hY h1 => by
  refine (each1_in n hn n0 l Bs S (fun p W => ∃ q : List (In S), q.map Subtype.val = p ∧ J q W) (fun p W => ∃ q : List (In S), q.map Subtype.val = p ∧ Jx q W) (fun s w' ⟨q, e, hj⟩ => ⟨q, e, hJ q w' _ none hj ⟨rfl, rfl, rfl, Nat.le_refl _, fun _ _ _ => rfl⟩ (fun r e => by cases e)⟩) ?_ W (hs.stay hW) (hT.below hW (Nat.lt_of_lt_of_le hg h0)) hg ⟨[], rfl, h1⟩).mono ?_
  · rintro pre x W1 ⟨q, rfl, hj⟩ hl hx
    obtain ⟨fn, tmps, assign, body, hy, hR⟩ := hY q ⟨x, hx⟩ W1 hj (by rw [List.length_map] at hl; exact hl)
    refine ⟨fn, tmps, assign, body, hy, hR.mono ?_⟩
    rintro e W2 (⟨rfl, h2, h3⟩ | ⟨rfl, h2⟩)
    · exact .inl ⟨rfl, ⟨_, by simp, h2⟩, h3⟩
    · exact .inr ⟨rfl, ⟨_, by simp, h2⟩⟩
  · rintro e W' ⟨he, ⟨ys, hy, q, hq, hj⟩ | ⟨pre, q, hq, hj⟩⟩
    · exact ⟨he, .inl ⟨q, hq.trans hy, hj⟩⟩
    · exact ⟨he, .inr ⟨q, trivial, hj⟩⟩
theorem keeps_but {B S : Nat} {w w' : World} (h : But B w w') (hs : SetB w B S) : KeepsOthers w w' :=
  ⟨h.size, fun k o hk ho => by
    by_cases e : k = B
    · subst e; rw [hs.row] at hk; cases hk; cases ho
    · exact (h.block k (Array.getElem?_eq_some_iff.1 hk).1 e).trans hk⟩
theorem keeps_below {w w' : World} (h : Below w.heap.size w w') : KeepsOthers w w' := ⟨h.size, fun k _ hk _ => (h.block k (Array.getElem?_eq_some_iff.1 hk).1).trans hk⟩
theorem SetB.grown {w w' : World} {row : Option Nat} {B S : Nat} (h : SetB w B S) (hg : w.grownBy w' row) (hne : some B ≠ row) : SetB w' B S := h.of (hg.block B h.lt hne)
theorem cell_grown {w w' : World} {row : Option Nat} {B i : Nat} {v : Value} (h : w.cell? ⟨B, i, none⟩ = some v) (hg : w.grownBy w' row) (hne : some B ≠ row) : w'.cell? ⟨B, i, none⟩ = some v :=
  (World.cell?_of_block (w := w) (hg.block B (World.block_lt_of_cell? _ _ h) hne)).trans h
end Nf
end Go.Proofs.YtghbgfkkdknmnaaDoor
