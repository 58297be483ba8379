/- Several texts in one. -/
import Derived.Test.YtcgllipcnmlkbaaDoorPkCb
import Derived.Test.YtcgllipcnmlkbaaDoorPkA
import Derived.Deep.CutRange
import Derived.Laws.Tables
import Derived.Test.YtcgllipcnmlkbaaDoorPkO
namespace Go.Proofs.YtcgllipcnmlkbaaDoor
open Go.RowKit Sets Tr Rx Sp
open Cn
theorem sizeSet9 : (Tryd.prog.info? 52).map (·.size) = some 4 := by kernel_rfl
theorem wpList_load_set9 {ops : Array Oper} {rest : List Oper} {o : Oper} {a : Act} {w : World} {Q : Exit → Act → World → Prop} (hgd : o.guard = none) (x : Operand) (ho : o.op = .load 52 x)
    (b q S : Nat) (hx : a.eval x = .pointer (some ⟨b, q, none⟩)) (hc : w.rangeAt b q (st4 S))
    (h : wpList Tryd.prog ops Q rest (a.put o.dst (.agg #[.int .u64 (wd S 0), .int .u64 (wd S 1), .int .u64 (wd S 2), .int .u64 (wd S 3)])) w) : wpList Tryd.prog ops Q (o :: rest) a w :=
  wpList_load_mid hgd 52 x ho b q hx (st4 S) _ hc Tryd.underlying52 rfl sizeSet9 h
def setC (S : Nat) : Array Value := #[.int .u64 (wd S 0), .int .u64 (wd S 1), .int .u64 (wd S 2), .int .u64 (wd S 3)]
theorem wpList_lay_set9 {ops : Array Oper} {rest : List Oper} {o : Oper} {a : Act} {w : World} {Q : Exit → Act → World → Prop} (hgd : o.guard = none) (x y : Operand)
    (ho : o.op = .store 52 x y) (S g : Nat) (hg : w.heap.size = g) (hx : a.eval x = .pointer (some ⟨g, 0, none⟩)) (hy : a.eval y = .agg (setC S))
    (h : wpList Tryd.prog ops Q rest (a.put o.dst undef) (w.alloc (.cells (setC S) 52))) : wpList Tryd.prog ops Q (o :: rest) a (w.alloc (.cells #[.int .u64 0, .int .u64 0, .int .u64 0, .int .u64 0] 52)) := by
  subst hg
  refine wpList_store_row hgd 52 x y ho w.heap.size (setC S) hx hy 52 _ (heap_alloc_new w _) (by kernel_rfl) rfl (by simp [setC, Value.oneCell']) ?_
  rw [World.setRow_alloc_new]
  exact h
theorem built_cons (a b c d e f : Value) : Tryd.prog.built 69 [(0, .agg (mdV a b c d e f))] = some (cnC a b c d e f fun _ => 0) := by kernel_rfl
theorem wpList_build_cons {ops : Array Oper} {rest : List Oper} {o : Oper} {ac : Act} {w : World} {Q : Exit → Act → World → Prop} (hgd : o.guard = none) (x : Operand) (ho : o.op = .build 69 #[(0, x)])
    (a b c d e f : Value) (hx : ac.eval x = .agg (mdV a b c d e f)) (h : wpList Tryd.prog ops Q rest (ac.put o.dst (.agg (cnC a b c d e f fun _ => 0))) w) : wpList Tryd.prog ops Q (o :: rest) ac w := by
  have e0 : (Tryd.prog.built 69 ((#[((0 : Nat), x)] : Array (Nat × Operand)).map fun (i, x) => (i, ac.eval x)).toList) = some (cnC a b c d e f fun _ => 0) := by
    rw [← built_cons a b c d e f]
    simp [hx]
  refine wpList_build hgd 69 #[(0, x)] ho (by rw [e0]; rfl) ?_
  rw [e0]
  exact h
/-- the places of each byte, the bytes L of place k gone through -/
def wthP (s : List Nat) (k : Nat) (L : List Nat) (c : Nat) : Nat := if c ∈ L then wth s c k ||| 2 ^ k else wth s c k
theorem mem_listB (S c : Nat) (hc : c < 256) : c ∈ listN S ↔ S.testBit c = true := by
  unfold listN; simp [hc]
theorem wthP_all (s : List Nat) (k c : Nat) (hc : c < 256) : wthP s k (listN (s.getD k 0)) c = wth s c (k + 1) := by
  unfold wthP
  show _ = if (s.getD k 0).testBit c then wth s c k ||| 2 ^ k else wth s c k
  by_cases h : (s.getD k 0).testBit c = true
  · rw [if_pos ((mem_listB _ _ hc).2 h), if_pos h]
  · rw [if_neg (fun h2 => h ((mem_listB _ _ hc).1 h2)), if_neg h]
theorem wthP_step (s : List Nat) (k d : Nat) (L : List Nat) (c : Nat) : (if c = d then wthP s k L d ||| 2 ^ k else wthP s k L c) = wthP s k (L ++ [d]) c := by
  unfold wthP
  by_cases h : c = d
  · subst h
    rw [if_pos rfl, if_pos (show c ∈ L ++ [c] by simp)]
    split
    · rw [Nat.or_assoc, Nat.or_self]
    · rfl
  · rw [if_neg h]
    by_cases h2 : c ∈ L
    · rw [if_pos h2, if_pos (by simp [h2])]
    · rw [if_neg h2, if_neg (by simp [h2, h])]
theorem wthP_lt (s : List Nat) (k c : Nat) (L : List Nat) (hk : k < 63) : wthP s k L c < 2 ^ 63 := by
  have h1 : wth s c k < 2 ^ 63 := lt_more (wth_lt s c k) (by omega)
  unfold wthP
  split
  · exact Nat.or_lt_two_pow h1 (Nat.pow_lt_pow_right (by decide) hk)
  · exact h1
theorem off_any {w : World} {B g size n D : Nat} {e t : TypeId} {v : Value} {xs : List Value} {o : Array Value} {fr : Nat × Nat} (h : w.ownsRow B e size v n xs) (hD : w.heap[D]? = some (.cells o t fr)) (he : e ≠ t) (hg : v.ownBlock = some g) : g ≠ D := by
  intro e1
  subst e1
  rcases h.2 with ⟨h5, -⟩ | ⟨k, cap, cur, h5, -, h6, -⟩
  · rw [h5] at hg; cases hg
  · rw [h5] at hg
    have e2 : k = g := by simpa [Value.ownBlock] using hg
    subst e2
    rw [h6] at hD
    injection hD with h7
    injection h7 with h8 h9
    exact he h9
/-- a constraint in the making -/
structure MkC (w : World) (C : Nat) (m : Sp.Md) (sv fi la fv em nt : Value) (W : Nat → Nat) : Prop where
  row : w.heap[C]? = some (.cells (cnC sv fi la fv em nt W) 69 (0, 0))
  made : MadeAt 0 w sv fi la fv em nt m
theorem MkC.lt {w : World} {C : Nat} {m : Sp.Md} {sv fi la fv em nt : Value} {W : Nat → Nat} (h : MkC w C m sv fi la fv em nt W) : C < w.heap.size := (Array.getElem?_eq_some_iff.1 h.row).1
theorem MkC.kept {w w' : World} {C : Nat} {m : Sp.Md} {sv fi la fv em nt : Value} {W : Nat → Nat} (h : MkC w C m sv fi la fv em nt W) (hb : Below w.heap.size w w') : MkC w' C m sv fi la fv em nt W :=
  ⟨(hb.block C h.lt).trans h.row, h.made.kept hb⟩
theorem MkC.set {w : World} {C : Nat} {m : Sp.Md} {sv fi la fv em nt : Value} {W V : Nat → Nat} (h : MkC w C m sv fi la fv em nt W) (c x : Nat) (hc : c < 256) (hV : ∀ d, d < 256 → (if d = c then x else W d) = V d) :
    MkC (w.setCell ⟨C, 6 + c, none⟩ (.int .u64 (x : Int))) C m sv fi la fv em nt V := by
  refine ⟨?_, ?_⟩
  · rw [← cnC_congr sv fi la fv em nt _ V hV, ← cnC_set sv fi la fv em nt W c x hc]
    exact heap_setCell_same w C (6 + c) _ _ _ h.row
  · have hk : ∀ {A s n : Nat} {e : TypeId} {v : Value} {xs : List Value}, w.ownsRow A e s v n xs → e ≠ 69 → (w.setCell ⟨C, 6 + c, none⟩ (.int .u64 (x : Int))).ownsRow A e s v n xs := fun h5 h6 => own_kept h5 fun g hg => Below.heap_setCell _ _ _ _ (off_any h5 h.row h6 hg)
    exact ⟨hk h.made.s (by decide), hk h.made.fi (by decide), hk h.made.la (by decide), hk h.made.f (by decide), hk h.made.em (by decide), hk h.made.nt (by decide)⟩
theorem MkC.cell {w : World} {C : Nat} {m : Sp.Md} {sv fi la fv em nt : Value} {W : Nat → Nat} (h : MkC w C m sv fi la fv em nt W) (c : Nat) (hc : c < 256) : w.cell? ⟨C, 6 + c, none⟩ = some (.int .u64 (W c : Int)) :=
  (cell_of_row w C (6 + c) _ _ _ h.row).trans (cnC_get _ _ _ _ _ _ _ c hc)
theorem MkC.free {w : World} {C : Nat} {m : Sp.Md} {sv fi la fv em nt : Value} {W : Nat → Nat} (h : MkC w C m sv fi la fv em nt W) (i : Nat) : w.frozen? ⟨C, i, none⟩ = false := frozen_of_row w C i _ _ h.row
def NewEnd (N : List Nd) (R : List (Int × Bool)) (w : World) (e : Ending) (w' : World) : Prop :=
  Below w.heap.size w w' ∧ ((rightB N R = false ∧ e = .returned (.tuple #[.pointer none, .int .i64 8])) ∨ (rightB N R = true ∧ 63 < plOf N R ∧ e = .returned (.tuple #[.pointer none, .int .i64 3])) ∨
    (rightB N R = true ∧ plOf N R ≤ 63 ∧ ∃ C, e = .returned (.tuple #[.pointer (some ⟨C, 0, none⟩), .int .i64 0]) ∧ ConsAt w' C (Sp.md (parts N R))))
set_option maxHeartbeats 6400000 in
set_option maxRecDepth 100000 in
theorem new_any' (nv pv : Value) (N : List Nd) (R : List (Int × Bool)) (w : World) (hN : NodesAt w nv N) (hP : PartsAt w pv R) (hT : Tab w) :
    Calls Tryd.prog 17 #[.agg #[nv, pv]] w (NewEnd N R w) := by
  have hg := tab_lt hT
  obtain ⟨na, nc, hnv⟩ : ∃ a c, nv = .slice a N.length c := by obtain ⟨-, -, a, c, e, -⟩ := hN; exact ⟨a, c, e⟩
  obtain ⟨pa, pc, hpv⟩ : ∃ a c, pv = .slice a R.length c := by obtain ⟨-, -, a, c, e, -⟩ := hP; exact ⟨a, c, e⟩
  subst hnv hpv
  have hal1 := (Below.refl w.heap.size w).alloc (Nat.le_refl _) (.cells #[.slice na N.length nc, .slice pa R.length pc] 39)
  have HO := Lib.hid (spotsOf_any _ _ N R _ (hN.kept hal1) (hP.kept hal1) (hT.below hal1 hg) (by have := hal1.size; omega))
  have HB1 := Lib.hid hal1
  have HT := Lib.hid hT
  have HG := Lib.hid hg
  have HSZ : Hid ((w.alloc (.cells #[.slice na N.length nc, .slice pa R.length pc] 39)).heap.size = w.heap.size + 1) := Lib.hid (by simp)
  clear hal1 hN hP hT hg
  go_enter Tryd.func17, Tryd.ntmps17
  go_wp2_with fail
  refine HO.out.mono ?_
  clear HO
  rintro e w3 ⟨hB3, hE⟩
  have HB3 := Lib.hid (HB1.out.trans (hB3.mono (by have := HSZ.out; omega)))
  clear hB3 HB1
  rcases hE with ⟨hr, rfl⟩ | ⟨hr, hp, rfl⟩ | ⟨hr, hp, sv, a, b, fv, c, d, rfl, hM⟩
  · have HB4 := Lib.hid (HB3.out.alloc HB3.out.size (.cells nilMd 46))
    go_wp2_with (refine wpList_lay_made rfl _ _ rfl nilMd rfl nil_ones w3.heap.size rfl rfl rfl ?_)
    refine bodyPost_ret (results_tmp2 rfl _ _ _) rfl ?_
    exact ⟨HB4.out, .inl ⟨hr, rfl⟩⟩
  · have HB4 := Lib.hid (HB3.out.alloc HB3.out.size (.cells nilMd 46))
    have HP := Lib.hid hp
    clear hp
    go_wp2_with (refine wpList_lay_made rfl _ _ rfl nilMd rfl nil_ones w3.heap.size rfl rfl rfl ?_)
    refine bodyPost_ret (results_tmp2 rfl _ _ _) rfl ?_
    exact ⟨HB4.out, .inr (.inl ⟨hr, HP.out, rfl⟩)⟩
  · have HR := Lib.hid hr
    have HPP := Lib.hid hp
    have HLN := Lib.hid (of_len (rightB_iff.1 hr) hp)
    have HS63 : Hid ((Sp.md (parts N R)).s.length ≤ 63) := Lib.hid (by rw [of_len (rightB_iff.1 hr) hp]; exact hp)
    have HOne := Lib.hid (made_slices hM)
    obtain ⟨sa, sc, e0⟩ := own_slice hM.s
    subst e0
    clear hr hp
    generalize hmm : Sp.md (parts N R) = m at *
    have HMM := Lib.hid hmm
    clear hmm
    have hal3 := (Below.refl w3.heap.size w3).alloc (Nat.le_refl _) (.cells (mdV (.slice sa m.s.length sc) a b fv c d) 46)
    have hal4 := hal3.alloc (by simp) (.cells (cnC (.slice sa m.s.length sc) a b fv c d fun _ => 0) 69)
    have HMC : Hid (MkC ((w3.alloc (.cells (mdV (.slice sa m.s.length sc) a b fv c d) 46)).alloc (.cells (cnC (.slice sa m.s.length sc) a b fv c d fun _ => 0) 69)) (w3.heap.size + 1) m (.slice sa m.s.length sc) a b fv c d (fun _ => 0)) := Lib.hid (by
      refine ⟨?_, (hM.mono (Nat.zero_le _)).kept hal4⟩
      have := heap_alloc_new (w3.alloc (.cells (mdV (.slice sa m.s.length sc) a b fv c d) 46)) (.cells (cnC (.slice sa m.s.length sc) a b fv c d fun _ => 0) 69)
      rw [show (w3.alloc (.cells (mdV (.slice sa m.s.length sc) a b fv c d) 46)).heap.size = w3.heap.size + 1 from by simp] at this
      exact this)
    have HB5 := Lib.hid (HB3.out.trans (hal4.mono HB3.out.size))
    have HD4 : Hid ((w3.alloc (.cells (mdV (.slice sa m.s.length sc) a b fv c d) 46)).heap[w3.heap.size]? = some (.cells (mdV (.slice sa m.s.length sc) a b fv c d) 46 (0, 0))) := Lib.hid (heap_alloc_new w3 _)
    have HD5 : Hid (((w3.alloc (.cells (mdV (.slice sa m.s.length sc) a b fv c d) 46)).alloc (.cells (cnC (.slice sa m.s.length sc) a b fv c d fun _ => 0) 69)).cell? ⟨w3.heap.size, 0, none⟩ = some (.slice sa m.s.length sc)) := Lib.hid (by
      have h5 := (Below.heap_alloc (w3.alloc (.cells (mdV (.slice sa m.s.length sc) a b fv c d) 46)) (.cells (cnC (.slice sa m.s.length sc) a b fv c d fun _ => 0) 69) w3.heap.size (by simp)).trans HD4.out
      exact (mdV_cells h5).1)
    have HCB : Hid (w.heap.size < w3.heap.size + 1) := Lib.hid (by have := HB3.out.size; omega)
    clear hal3 hal4 hM HB3
    go_upto_region 5 with (first
      | (refine wpList_lay_made rfl _ _ rfl (mdV (.slice sa m.s.length sc) a b fv c d) rfl HOne.out w3.heap.size rfl rfl rfl ?_)
      | (refine wpList_get_made rfl _ rfl w3.heap.size (mdV (.slice sa m.s.length sc) a b fv c d) rfl rfl HD4.out ?_)
      | (refine wpList_build_cons rfl _ rfl _ _ _ _ _ _ rfl ?_))
    have hput : ∀ a : Act, a.put none undef = a := fun _ => rfl
    try rw [hput]
    have HCE : Hid (w3.heap.size + 1 ≠ w3.heap.size) := Lib.hid (by omega)
    have HDL : Hid (w3.heap.size < ((w3.alloc (.cells (mdV (.slice sa m.s.length sc) a b fv c d) 46)).alloc (.cells (cnC (.slice sa m.s.length sc) a b fv c d fun _ => 0) 69)).heap.size) := Lib.hid (by simp; omega)
    clear HD4
    generalize ((w3.alloc (.cells (mdV (.slice sa m.s.length sc) a b fv c d) 46)).alloc (.cells (cnC (.slice sa m.s.length sc) a b fv c d fun _ => 0) 69)) = w5 at *
    generalize w3.heap.size + 1 = C at *
    generalize w3.heap.size = D at *
    clear w3
    have hd5 := HD5.out
    generalize hn : m.s.length = n at *
    have HN := Lib.hid hn
    clear hn
    go_wp2_with fail
    go_loopw [25] (fun i wr => ∃ k : Nat, i = .int .i64 k ∧ k ≤ n ∧ Hid (MkC wr C m (.slice sa n sc) a b fv c d (fun c => wth m.s c k)) ∧ Hid (Below w.heap.size w wr)) (fun i _ => ((n : Int) - intOf i).toNat)
    case atStart => exact ⟨0, rfl, Nat.zero_le _, HMC, HB5⟩
    case round =>
      obtain ⟨k, rfl, hk, HMK, HBK⟩ := hrel
      generalize hwr : wr = w6 at *
      clear hwr wr hd5
      by_cases hlt : k < n
      case neg =>
        have hdd : decide ((k : Int) < (n : Int)) = false := decide_eq_false (by omega)
        have hd2 : decide (k < n) = false := decide_eq_false hlt
        have hke : k = n := by omega
        go_wp2_with fail
        refine bodyPost_ret (results_tmp2 rfl _ _ _) rfl ?_
        refine ⟨HBK.out, .inr (.inr ⟨HR.out, HPP.out, C, rfl, ?_⟩)⟩
        rw [HMM.out]
        refine ⟨.slice sa n sc, a, b, fv, c, d, ?_, ?_⟩
        · have := HMK.out.row
          rw [hke] at this
          rw [HN.out]
          exact this
        · exact HMK.out.made
      case pos =>
        have hdd : decide ((k : Int) < (n : Int)) = true := decide_eq_true (by omega)
        have hd2 : decide (k < n) = true := decide_eq_true hlt
        have hs5 : SAt w6 (.slice sa n sc) m.s := SAt.of HMK.out.made.s
        obtain ⟨a1, c1, e1, y⟩ := hs5
        obtain ⟨sb, o, e2, z⟩ := y k (by rw [HN.out]; exact hlt)
        injection e1 with e3 e4 e5
        subst e3
        clear e4 e5 y
        subst e2
        have HZ := Lib.hid z
        have HWA := Lib.hid (wthP_all m.s k)
        have HWS := Lib.hid (wthP_step m.s k)
        have HWL := Lib.hid (fun c L => wthP_lt m.s k c L (by have := HS63.out; omega))
        clear z
        generalize hS : m.s.getD k 0 = S at *
        have HSS := Lib.hid hS
        clear hS
        have hal := (Below.refl w6.heap.size w6).alloc (Nat.le_refl _) (.cells (setC S) 52)
        have HM7 := Lib.hid (HMK.out.kept hal)
        have HB7 := Lib.hid (HBK.out.trans (hal.mono HBK.out.size))
        have HS7 : Hid ((w6.alloc (.cells (setC S) 52)).heap[w6.heap.size]? = some (.cells (setC S) 52 (0, 0))) := Lib.hid (heap_alloc_new w6 _)
        have HT7 := Lib.hid (HT.out.below HB7.out HG.out)
        clear hal
        have HLA := Lib.hid (list_any S (w6.alloc (.cells (setC S) 52)) HT7.out (tab_lt HT7.out))
        go_wp2_with (first
          | (refine wpList_load_set9 rfl _ rfl sb (o + k * 4) S rfl HZ.out ?_)
          | (refine wpList_lay_set9 rfl _ _ rfl S w6.heap.size rfl rfl rfl ?_)
          | (refine wpList_load_row rfl 52 _ rfl w6.heap.size rfl 52 (setC S) (0, 0) _ HS7.out Tryd.underlying52 rfl sizeSet9 ?_))
        refine HLA.out.mono ?_
        clear HLA
        rintro e w8 ⟨v, rfl, hown, hb8⟩
        have HM8 := Lib.hid (HM7.out.kept hb8)
        have HB8 := Lib.hid (HB7.out.trans (hb8.mono HB7.out.size))
        obtain ⟨va, vc, e7⟩ := own_slice hown
        subst e7
        have hLl : (listN S).length ≤ 256 := listN_len S
        have hLb : ∀ x ∈ listN S, x < 256 := listN_lt S
        generalize (w6.alloc (.cells (setC S) 52)).heap.size = B8 at *
        clear hb8 HM7 HB7 HS7 HMK HBK HT7 HZ HSS
        generalize w6.heap.size = q6 at *
        clear w6
        generalize listN S = L at *
        have HLL := Lib.hid hLl
        have HLB := Lib.hid hLb
        have HOW := Lib.hid hown
        clear hLl hLb hown
        go_wp2_with fail
        go_loopw [33] (fun i wr => ∃ j : Nat, i = .int .i64 j ∧ j ≤ L.length ∧ Hid (MkC wr C m (.slice (some ⟨sb, o, none⟩) n sc) a b fv c d (wthP m.s k (L.take j))) ∧ Hid (Below w.heap.size w wr) ∧ Hid (wr.ownsRow B8 5 1 (.slice va L.length vc) L.length (u8s L))) (fun i _ => ((L.length : Int) - intOf i).toNat)
        case atStart =>
          refine ⟨0, rfl, Nat.zero_le _, ?_, HB8, HOW⟩
          have e9 : (wthP m.s k (L.take 0)) = fun c => wth m.s c k := by funext c; simp [wthP]
          rw [e9]
          exact HM8
        case round =>
          obtain ⟨j, rfl, hj, HM9, HB9, HO9⟩ := hrel
          generalize hwr : wr = w9 at *
          clear hwr wr HM8 HB8 HOW
          by_cases hjl : j < L.length
          case neg =>
            have hdd3 : decide ((j : Int) < (L.length : Int)) = false := decide_eq_false (by omega)
            have hdd4 : decide (j < L.length) = false := decide_eq_false hjl
            have HW1 : Hid (wrap64 ((k : Int) + 1) = ((k + 1 : Nat) : Int)) := Lib.hid (by have := HS63.out; unfold wrap64; omega)
            have HM10 : Hid (MkC w9 C m (.slice (some ⟨sb, o, none⟩) n sc) a b fv c d (fun c => wth m.s c (k + 1))) := Lib.hid (by
              refine ⟨?_, HM9.out.made⟩
              rw [← cnC_congr _ _ _ _ _ _ (wthP m.s k (L.take j)) (fun c => wth m.s c (k + 1)) (fun x hx => by rw [List.take_of_length_le (by omega)]; exact HWA.out x hx)]
              exact HM9.out.row)
            go_wp2_with fail
            go_roundw
            case rel => exact ⟨k + 1, by rw [HW1.out], hlt, HM10, HB9⟩
            case measure => rw [HW1.out]; exact meas2 hlt
          case pos =>
            have hdd3 : decide ((j : Int) < (L.length : Int)) = true := decide_eq_true (by omega)
            have hdd4 : decide (j < L.length) = true := decide_eq_true hjl
            obtain ⟨g, vc2, e8⟩ := own_some HO9.out (by omega)
            injection e8 with e8 e9 e10
            subst e8
            clear e9 e10
            have hbc : w9.cell? ⟨g, j, none⟩ = some (.int .u8 ((L.getD j 0 : Nat) : Int)) := by
              have := World.ownsRow.cellAt HO9.out j (by omega)
              rw [this]
              unfold u8s
              rw [List.getElem?_map, List.getElem?_eq_getElem hjl, List.getD_eq_getElem?_getD, List.getElem?_eq_getElem hjl]
              rfl
            have hcx : L.getD j 0 < 256 := by
              rw [List.getD_eq_getElem?_getD, List.getElem?_eq_getElem hjl]
              exact HLB.out _ (List.getElem_mem hjl)
            have hwc := HM9.out.cell (L.getD j 0) hcx
            have hfr := HM9.out.free (6 + L.getD j 0)
            have hCl := HM9.out.lt
            have hsh := shl_one k (by have := HS63.out; omega)
            have hor := u64_or_nat (wthP m.s k (L.take j) (L.getD j 0)) (2 ^ k) (Nat.lt_trans (HWL.out _ _) (by decide)) (Nat.lt_trans (Nat.pow_lt_pow_right (by decide) (by have := HS63.out; omega : k < 63)) (by decide))
            have HMS : Hid (MkC (w9.setCell ⟨C, 6 + L.getD j 0, none⟩ (.int .u64 ((wthP m.s k (L.take j) (L.getD j 0) ||| 2 ^ k : Nat) : Int))) C m (.slice (some ⟨sb, o, none⟩) n sc) a b fv c d (wthP m.s k (L.take (j + 1)))) := Lib.hid (HM9.out.set (L.getD j 0) _ hcx (fun x hx => by
              rw [HWS.out]
              rw [List.take_succ_eq_append_getElem hjl, List.getD_eq_getElem?_getD, List.getElem?_eq_getElem hjl]; rfl))
            have HBS : Hid (Below w.heap.size w (w9.setCell ⟨C, 6 + L.getD j 0, none⟩ (.int .u64 ((wthP m.s k (L.take j) (L.getD j 0) ||| 2 ^ k : Nat) : Int)))) := Lib.hid (HB9.out.trans ⟨rfl, rfl, rfl, by simp, fun x hx => Below.heap_setCell _ _ _ _ (by have := HCB.out; simp only; omega)⟩)
            have HOS : Hid ((w9.setCell ⟨C, 6 + L.getD j 0, none⟩ (.int .u64 ((wthP m.s k (L.take j) (L.getD j 0) ||| 2 ^ k : Nat) : Int))).ownsRow B8 5 1 (.slice (some ⟨g, 0, none⟩) L.length vc) L.length (u8s L)) := Lib.hid (own_kept HO9.out fun x hx => Below.heap_setCell _ _ _ _ (off_any HO9.out HM9.out.row (by decide) hx))
            have HW1 : Hid (wrap64 ((j : Int) + 1) = ((j + 1 : Nat) : Int)) := Lib.hid (by have := HLL.out; unfold wrap64; omega)
            generalize L.getD j 0 = x at *
            generalize wthP m.s k (L.take j) x = y at *
            obtain ⟨p2, hp2⟩ : ∃ p2, p2 = 2 ^ k := ⟨_, rfl⟩
            rw [← hp2] at hsh hor HMS HBS HOS
            clear hp2
            go_upto_region 11 with fail
            refine region_mix [(false, 0), (false, 1), (false, 2), (false, 3), (false, 4), (false, 5), (false, 6), (false, 7), (false, 8), (false, 9), (false, 10), (false, 11)] (fun w' => Below w9.heap.size w9 w') (by kernel_rfl) (by kernel_rfl) ((Below.refl _ _).drew) ?_
            simp only [planOps, List.map_cons, List.map_nil, List.getD_cons_zero, List.getD_cons_succ, List.length_cons, List.length_nil, List.drop_succ_cons, List.drop_zero]
            refine mix_seg (seg := [_, _, _, _, _, _, _, _, _, _, _, _]) (rest := []) rfl ((Below.refl _ _).drew) ?_
            intro ι hι F' hF'
            have gq := fun n => ((hF' n).cell (p := ⟨C, 6 + x, none⟩) hCl).trans hwc
            repeat (go_big_quiet_step (fail))
            refine wpQuiet_nil ?_
            clear gq hF' hι F'
            show wpList _ _ _ _ _ _
            go_wp2
            refine NoPanic.normal ?_
            go_wp2
            go_roundw
            case rel => exact ⟨j + 1, by rw [HW1.out], hjl, Lib.hid (HMS.out.kept (Below.refl _ _).drew), Lib.hid HBS.out.drew, Lib.hid (own_kept HOS.out fun _ _ => rfl)⟩
            case measure => rw [HW1.out]; exact meas2 hjl
end Go.Proofs.YtcgllipcnmlkbaaDoor
namespace Go.Proofs.YtcgllipcnmlkbaaDoor
open Go.RowKit Sets Tr Rx Sp
open Cn
def ReadEnd (s : ByteArray) (w : World) (e : Ending) (w' : World) : Prop :=
  Below w.heap.size w w' ∧ match cons (by' s) with
  | .ok _ N R => ∃ C, e = .returned (.tuple #[.pointer (some ⟨C, 0, none⟩), .int .i64 0, .int .i64 0]) ∧ ConsAt w' C (Sp.md (parts N R))
  | .bad lg p => e = .returned (.tuple #[.pointer none, .int .i64 (p : Nat), .int .i64 (if lg then 3 else 8)])
theorem fit_cons {s : ByteArray} {x : Nat} {N : List Nd} {R : List (Int × Bool)} (h : cons (by' s) = .ok x N R) : Fit (Sp.md (parts N R)) ∧ Right N R ∧ plOf N R ≤ 63 := by
  have hg := cons_good (by_lt s) h
  have hr := cons_right (by_lt s) h
  refine ⟨fit_md _ (by rw [of_len hr hg.2.2.2.2.2]; exact hg.2.2.2.2.2) (by unfold parts; rw [List.length_map]; exact hg.2.2.2.1), hr, hg.2.2.2.2.2⟩
set_option maxHeartbeats 6400000 in
set_option maxRecDepth 100000 in
theorem read_any (s : ByteArray) (w : World) (hT : Tab w) : Calls Tryd.prog 16 #[.string s] w (ReadEnd s w) := by
  have HPa := Lib.hid (parse_any s w)
  have HT := Lib.hid hT
  have HG := Lib.hid (tab_lt hT)
  clear hT
  go_enter Tryd.func16, Tryd.ntmps16
  go_wp2_with fail
  refine HPa.out.mono ?_
  clear HPa
  intro e w1 hP
  unfold PO at hP
  cases hc : cons (by' s) with
  | bad lg p =>
    rw [hc] at hP
    obtain ⟨rfl, hB⟩ := hP
    have HC := Lib.hid hc
    have HB := Lib.hid (hB.alloc hB.size (.cells #[.slice none 0 0, .slice none 0 0] 39))
    clear hc hB
    cases lg
    · go_wp2_with fail
      refine bodyPost_ret (results_tmp3 rfl _ _ _) rfl ⟨HB.out, ?_⟩
      rw [HC.out]; rfl
    · go_wp2_with fail
      refine bodyPost_ret (results_tmp3 rfl _ _ _) rfl ⟨HB.out, ?_⟩
      rw [HC.out]; rfl
  | ok x N R =>
    rw [hc] at hP
    obtain ⟨⟨nv, pv, rfl, hN, hPP⟩, hB1⟩ := hP
    obtain ⟨na, nc, hnv⟩ : ∃ a c, nv = .slice a N.length c := by obtain ⟨-, -, a, c, e, -⟩ := hN; exact ⟨a, c, e⟩
    obtain ⟨pa, pc, hpv⟩ : ∃ a c, pv = .slice a R.length c := by obtain ⟨-, -, a, c, e, -⟩ := hPP; exact ⟨a, c, e⟩
    subst hnv hpv
    have HC := Lib.hid hc
    have HFI := Lib.hid (fit_cons hc)
    have hsr := World.setRow_alloc_new w1 #[.slice none 0 0, .slice none 0 0] #[.slice na N.length nc, .slice pa R.length pc] 39
    have h0 : (w1.alloc (.cells #[.slice none 0 0, .slice none 0 0] 39)).heap[w1.heap.size]? = some (.cells #[.slice none 0 0, .slice none 0 0] 39 (0, 0)) := heap_alloc_new w1 _
    have H0 := Lib.hid h0
    have HSR := Lib.hid hsr
    have ha := (Below.refl w1.heap.size w1).alloc (Nat.le_refl _) (.cells #[.slice na N.length nc, .slice pa R.length pc] 39)
    have HN := Lib.hid (hN.kept ha)
    have HP := Lib.hid (hPP.kept ha)
    have HB1 := Lib.hid (hB1.trans (ha.mono hB1.size))
    have HT1 := Lib.hid (HT.out.below HB1.out HG.out)
    have HS : Hid ((w1.alloc (.cells #[.slice na N.length nc, .slice pa R.length pc] 39)).heap.size = w1.heap.size + 1) := Lib.hid (by simp)
    have hd0 : (w1.alloc (.cells #[.slice na N.length nc, .slice pa R.length pc] 39)).cell? ⟨w1.heap.size, 0, none⟩ = some (.slice na N.length nc) := by simp
    have hd1 : (w1.alloc (.cells #[.slice na N.length nc, .slice pa R.length pc] 39)).cell? ⟨w1.heap.size, 1, none⟩ = some (.slice pa R.length pc) := by simp
    clear hN hPP hB1 h0 hsr ha hc
    go_wp2_with (refine wpList_put_tree rfl _ _ rfl w1.heap.size _ _ _ _ _ _ rfl rfl (.slice none 0 0) (.slice none 0 0) H0.out ?_; rw [HSR.out])
    generalize w1.alloc (.cells #[.slice na N.length nc, .slice pa R.length pc] 39) = w2 at *
    clear H0 HSR
    refine (new_any' _ _ N R w2 HN.out HP.out HT1.out).mono ?_
    rintro e w3 ⟨hB3, hE⟩
    have HB3 := Lib.hid (HB1.out.trans (hB3.mono HB1.out.size))
    rw [rightB_iff.2 HFI.out.2.1] at hE
    rcases hE with ⟨h5, -⟩ | ⟨-, h5, -⟩ | ⟨-, -, C, rfl, hCC⟩
    · cases h5
    · exact absurd HFI.out.2.2 (by omega)
    have HCC := Lib.hid hCC
    clear hCC hB3 hd0 hd1
    go_wp2_with fail
    refine bodyPost_ret (results_tmp3 rfl _ _ _) rfl ⟨HB3.out, ?_⟩
    rw [HC.out]
    exact ⟨C, rfl, HCC.out⟩
set_option maxHeartbeats 3200000 in
set_option maxRecDepth 100000 in
theorem of9_any (s : ByteArray) (w : World) (hT : Tab w) (x : Nat) (N : List Nd) (R : List (Int × Bool)) (hc : cons (by' s) = .ok x N R) :
    Calls Tryd.prog 10 #[.string s] w fun e w' => Below w.heap.size w w' ∧ ∃ C, e = .returned (.pointer (some ⟨C, 0, none⟩)) ∧ ConsAt w' C (Sp.md (parts N R)) := by
  have HR := Lib.hid (read_any s w hT)
  have HC := Lib.hid hc
  clear hT hc
  go_enter Tryd.func10, Tryd.ntmps10
  go_wp2_with fail
  refine HR.out.mono ?_
  clear HR
  rintro e w1 ⟨hB, hE⟩
  rw [HC.out] at hE
  obtain ⟨C, rfl, hCC⟩ := hE
  have HB := Lib.hid hB
  have HCC := Lib.hid hCC
  clear hB hCC
  go_wp2_with fail
  go_ret
  exact ⟨HB.out, C, rfl, HCC.out⟩
theorem match_is (C : Nat) (m : Sp.Md) (s : ByteArray) (w : World) (b : Bool) (h : ConsAt w C m) (hf : Fit m) (hs : decide (s.size < 2 ^ 62) = true) (hb : matchM m (by' s) = b) :
    Calls Tryd.prog 14 #[.pointer (some ⟨C, 0, none⟩), .string s] w fun e w' => e = .returned (.bool b) ∧ Below w.heap.size w w' := by
  subst hb
  exact match_any C m s w h hf (of_decide_eq_true hs)
namespace Aw
def n : List Nd := [St.sA, ⟨5, 0, 0, 0, 0, -1⟩, St.sA, St.sA, ⟨3, 0, 2, 3, 0, 0⟩]
def r : List (Int × Bool) := [(1, false), (4, true)]
def M : Sp.Md := ⟨[2 ^ 97, 2 ^ 97, 2 ^ 97], [1, 4, 0], [1, 2], [1, 4], [true, false], [false, true]⟩
theorem c : cons (by' ⟨#[97, 42, 38, 33, 97, 97]⟩) = .ok 6 n r := by rw [cons_eq (by_lt _)]; kernel_rfl
theorem h : Tz.rightC n r = true := by decide +kernel
theorem m : Sp.md (parts n r) = M := by rw [parts_F h]; kernel_rfl
theorem m0 : matchM M (by' ⟨#[]⟩) = true := by decide +kernel
theorem m1 : matchM M (by' ⟨#[97]⟩) = true := by decide +kernel
theorem m2 : matchM M (by' ⟨#[97, 97]⟩) = false := by decide +kernel
theorem m3 : matchM M (by' ⟨#[97, 97, 97]⟩) = true := by decide +kernel
theorem mb : matchM M (by' ⟨#[98]⟩) = false := by decide +kernel
end Aw
set_option maxHeartbeats 6400000 in
set_option maxRecDepth 100000 in
theorem awake9_any (w : World) (hT : Tab w) : Calls Tryd.prog 19 #[] w fun e w' => e = .returned (.bool true) ∧ Below w.heap.size w w' := by
  have HO := Lib.hid (of9_any _ w hT _ _ _ Aw.c)
  have HF : Hid (Fit Aw.M) := Lib.hid (by have := (fit_cons Aw.c).1; rw [Aw.m] at this; exact this)
  clear hT
  go_enter Tryd.func19, Tryd.ntmps19
  go_wp2_with fail
  refine HO.out.mono ?_
  clear HO
  rintro e w1 ⟨hB, C, rfl, hC⟩
  rw [Aw.m] at hC
  have HB1 := Lib.hid hB
  have HC1 := Lib.hid hC
  clear hB hC
  go_wp2_with fail
  refine (match_is C Aw.M _ _ _ HC1.out HF.out (by decide) Aw.m0).mono ?_
  rintro e w2 ⟨rfl, hb⟩
  have HB2 := Lib.hid (HB1.out.trans (hb.mono HB1.out.size))
  have HC2 := Lib.hid (HC1.out.kept hb)
  clear hb HB1 HC1
  go_wp2_with fail
  refine (match_is C Aw.M _ _ _ HC2.out HF.out (by decide) Aw.m1).mono ?_
  rintro e w3 ⟨rfl, hb⟩
  have HB3 := Lib.hid (HB2.out.trans (hb.mono HB2.out.size))
  have HC3 := Lib.hid (HC2.out.kept hb)
  clear hb HB2 HC2
  go_wp2_with fail
  refine (match_is C Aw.M _ _ _ HC3.out HF.out (by decide) Aw.m2).mono ?_
  rintro e w4 ⟨rfl, hb⟩
  have HB4 := Lib.hid (HB3.out.trans (hb.mono HB3.out.size))
  have HC4 := Lib.hid (HC3.out.kept hb)
  clear hb HB3 HC3
  go_wp2_with fail
  refine (match_is C Aw.M _ _ _ HC4.out HF.out (by decide) Aw.m3).mono ?_
  rintro e w5 ⟨rfl, hb⟩
  have HB5 := Lib.hid (HB4.out.trans (hb.mono HB4.out.size))
  have HC5 := Lib.hid (HC4.out.kept hb)
  clear hb HB4 HC4
  go_wp2_with fail
  refine (match_is C Aw.M _ _ _ HC5.out HF.out (by decide) Aw.mb).mono ?_
  rintro e w6 ⟨rfl, hb⟩
  have HB6 := Lib.hid (HB5.out.trans (hb.mono HB5.out.size))
  have HC6 := Lib.hid (HC5.out.kept hb)
  clear hb HB5 HC5
  go_wp2_with fail
  refine (start_any C w6).mono ?_
  rintro e w7 ⟨rfl, hb⟩
  have HB7 := Lib.hid (HB6.out.trans (hb.mono HB6.out.size))
  have HC7 := Lib.hid (HC6.out.kept hb)
  clear hb HB6 HC6
  have ht : ((top : Int) == 9223372036854775808) = true := rfl
  go_wp2_with fail
  refine (places_c C Aw.M w7 HC7.out).mono ?_
  rintro e w8 ⟨rfl, rfl⟩
  have h3 : ((Aw.M.s.length : Int) == 3) = true := rfl
  go_wp2_with fail
  go_ret
  exact ⟨rfl, HB7.out⟩
end Go.Proofs.YtcgllipcnmlkbaaDoor
