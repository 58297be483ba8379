/- Several texts in one. -/
import Derived.Test.YtdmnocjlmnkdhaaDoorPq03
import Derived.Test.YtdmnocjlmnkdhaaDoorPq14
import Derived.Test.YtdmnocjlmnkdhaaDoorPq05
import Derived.Laws.OwnMore
import Derived.OwnWalk
import Derived.Laws.StructEq
import Derived.Maps.OwnOps
import Derived.Maps.Own
namespace Go.Proofs.YtdmnocjlmnkdhaaDoor
open Go.RowKit Sets Cls
/-- The cells of a set. -/
def set4 (S : Nat) : List Value := [.int .u64 (wd S 0), .int .u64 (wd S 1), .int .u64 (wd S 2), .int .u64 (wd S 3)]
/-- The cells of a row of sets. -/
def setsL (L : List Nat) : List Value := L.flatMap set4
theorem setsL_length (L : List Nat) : (setsL L).length = L.length * 4 := by
  induction L with
  | nil => rfl
  | cons S L ih => simp only [setsL, List.flatMap_cons, List.length_append, List.length_cons] at *; rw [ih]; simp [set4]; omega
theorem setsL_cons (S : Nat) (L : List Nat) : setsL (S :: L) = set4 S ++ setsL L := rfl
theorem setsL_get (L : List Nat) (i q : Nat) (hi : i < L.length) (hq : q < 4) : (setsL L)[i * 4 + q]? = some (.int .u64 (wd (L.getD i 0) q)) := by
  induction L generalizing i with
  | nil => simp at hi
  | cons S L ih =>
    rw [setsL_cons]
    cases i with
    | zero =>
      rw [Nat.zero_mul, Nat.zero_add, List.getElem?_append_left (by simp [set4]; omega)]
      have : q = 0 ∨ q = 1 ∨ q = 2 ∨ q = 3 := by omega
      rcases this with rfl | rfl | rfl | rfl <;> rfl
    | succ i =>
      rw [List.getElem?_append_right (by simp [set4]; omega)]
      have e : (i + 1) * 4 + q - (set4 S).length = i * 4 + q := by simp [set4]; omega
      rw [e, ih i (by simpa using hi)]
      simp
theorem setsL_set (L : List Nat) (i S : Nat) (hi : i < L.length) :
    ((((setsL L).set (i * 4) (.int .u64 (wd S 0))).set (i * 4 + 1) (.int .u64 (wd S 1))).set (i * 4 + 2) (.int .u64 (wd S 2))).set (i * 4 + 3) (.int .u64 (wd S 3)) = setsL (L.set i S) := by
  induction L generalizing i with
  | nil => simp at hi
  | cons T L ih =>
    cases i with
    | zero => simp [setsL_cons, set4]
    | succ i =>
      rw [List.set_cons_succ, setsL_cons, setsL_cons, ← ih i (by simpa using hi)]
      simp only [set4, List.cons_append, List.nil_append]
      rw [show (i + 1) * 4 = i * 4 + 1 + 1 + 1 + 1 from by omega]
      simp only [List.set_cons_succ, Nat.add_right_comm _ 1]
/-- Block g is a row of the sets L. -/
def SetsRow (w : World) (g : Nat) (L : List Nat) : Prop := w.heap[g]? = some (.cells (setsL L).toArray 41 (0, 0))
theorem SetsRow.lt {w : World} {g : Nat} {L : List Nat} (h : SetsRow w g L) : g < w.heap.size := (Array.getElem?_eq_some_iff.1 h).1
theorem SetsRow.kept {w w' : World} {A g : Nat} {L : List Nat} (h : SetsRow w g L) (hb : Below A w w') (hA : g < A) : SetsRow w' g L := by
  unfold SetsRow at *; rw [hb.block _ hA]; exact h
theorem SetsRow.cell {w : World} {g : Nat} {L : List Nat} (h : SetsRow w g L) (i q : Nat) (hi : i < L.length) (hq : q < 4) : w.cell? ⟨g, i * 4 + q, none⟩ = some (.int .u64 (wd (L.getD i 0) q)) := by
  rw [cell_of_row w g _ _ _ _ h, List.getElem?_toArray, setsL_get L i q hi hq]
theorem SetsRow.free {w : World} {g : Nat} {L : List Nat} (h : SetsRow w g L) (j : Nat) : w.frozen? ⟨g, j, none⟩ = false := frozen_of_row w g j _ _ h
theorem SetsRow.set {w : World} {g : Nat} {L : List Nat} (h : SetsRow w g L) (i S : Nat) (hi : i < L.length) :
    SetsRow ((((w.setCell ⟨g, i * 4, none⟩ (.int .u64 (wd S 0))).setCell ⟨g, i * 4 + 1, none⟩ (.int .u64 (wd S 1))).setCell ⟨g, i * 4 + 2, none⟩ (.int .u64 (wd S 2))).setCell ⟨g, i * 4 + 3, none⟩ (.int .u64 (wd S 3))) g (L.set i S) := by
  unfold SetsRow at *
  have h1 := heap_setCell_same w g (i * 4) _ _ (.int .u64 (wd S 0)) h
  have h2 := heap_setCell_same _ g (i * 4 + 1) _ _ (.int .u64 (wd S 1)) h1
  have h3 := heap_setCell_same _ g (i * 4 + 2) _ _ (.int .u64 (wd S 2)) h2
  have h4 := heap_setCell_same _ g (i * 4 + 3) _ _ (.int .u64 (wd S 3)) h3
  rw [h4, ← setsL_set L i S hi]
  simp only [List.setIfInBounds_toArray]
/-- The bytes below c that are of class k. -/
def clsSet (of : Nat → Nat) (c k : Nat) : Nat := ofN ((List.range c).filter fun d => of d == k)
theorem clsSet_zero (of : Nat → Nat) (k : Nat) : clsSet of 0 k = 0 := rfl
theorem clsSet_succ (of : Nat → Nat) (c k : Nat) : clsSet of (c + 1) k = if of c = k then clsSet of c k ||| 2 ^ c else clsSet of c k := by
  unfold clsSet
  rw [List.range_succ, List.filter_append]
  by_cases h : of c = k
  · rw [if_pos h]; simp [h, ofN, List.foldl_append]
  · rw [if_neg h]; simp [h]
theorem clsSet_bit (of : Nat → Nat) (c k d : Nat) : (clsSet of c k).testBit d = (decide (d < c) && of d == k) := by
  unfold clsSet
  rw [ofN_testBit, Bool.eq_iff_iff]
  simp [and_comm]
theorem clsSet_lt (of : Nat → Nat) (k : Nat) : clsSet of 256 k < 2 ^ 256 := ofN_lt _ (fun x hx => by simp at hx; exact hx.1)
def clsSets (of : Nat → Nat) (n c : Nat) : List Nat := (List.range n).map (clsSet of c)
theorem clsSets_length (of : Nat → Nat) (n c : Nat) : (clsSets of n c).length = n := by simp [clsSets]
theorem clsSets_get (of : Nat → Nat) (n c k : Nat) (h : k < n) : (clsSets of n c).getD k 0 = clsSet of c k := by simp [clsSets, h]
theorem clsSets_succ (of : Nat → Nat) (n c : Nat) : clsSets of n (c + 1) = (clsSets of n c).set (of c) (clsSet of c (of c) ||| 2 ^ c) := by
  unfold clsSets
  apply List.ext_getElem
  · simp
  · intro i h1 h2
    rw [List.getElem_set]
    simp only [List.getElem_map, List.getElem_range]
    rw [clsSet_succ]
    by_cases e : of c = i
    · subst e; simp
    · simp [e]
theorem infoS : (Tryd.prog.info? 41).map (fun i => (i.zero, i.size, i.bytes)) = some (some (.agg #[.int .u64 0, .int .u64 0, .int .u64 0, .int .u64 0]), 4, 32) := by kernel_rfl
theorem made_row {w w' : World} {B n : Nat} (h : w'.ownsRow B 41 4 (.slice (some ⟨w.heap.size, 0, none⟩) n n) n (madeCells (Value.agg #[.int .u64 0, .int .u64 0, .int .u64 0, .int .u64 0]).cells (n * 4)).toList) :
    SetsRow w' w.heap.size (List.replicate n 0) := by
  have key : ∀ n, (madeCells (Value.agg #[.int .u64 0, .int .u64 0, .int .u64 0, .int .u64 0]).cells (n * 4)).toList = setsL (List.replicate n 0) := by
    intro n
    apply List.ext_getElem
    · rw [Array.length_toList, size_madeCells, setsL_length, List.length_replicate]
    · intro j h1 h2
      rw [setsL_length, List.length_replicate] at h2
      have h3 := setsL_get (List.replicate n 0) (j / 4) (j % 4) (by rw [List.length_replicate]; omega) (by omega)
      rw [show j / 4 * 4 + j % 4 = j from by omega, List.getElem?_eq_getElem (by rw [setsL_length, List.length_replicate]; exact h2)] at h3
      rw [Option.some.inj h3]
      have e : (List.replicate n 0).getD (j / 4) 0 = 0 := by rw [List.getD_eq_getElem?_getD, List.getElem?_replicate]; split <;> rfl
      rw [e, wd_zero]
      simp only [madeCells, Array.getElem_toList, Array.getElem_map, Array.getElem_range]
      have : j % 4 = 0 ∨ j % 4 = 1 ∨ j % 4 = 2 ∨ j % 4 = 3 := by omega
      rcases this with e | e | e | e <;> simp [Value.cells, e]
  obtain ⟨h1, h2⟩ := h
  rcases h2 with ⟨h2, -⟩ | ⟨g, cap, cur, h2, -, hg, -, -, hs, ht⟩
  · cases h2
  · injection h2 with h2 h3 h4
    injection h2 with h2
    injection h2 with h2 _ _
    subst h2 h4
    unfold SetsRow
    rw [hg]
    rw [key] at ht
    rw [List.take_of_length_le (by rw [Array.length_toList, hs]; exact Nat.le_refl _)] at ht
    rw [← ht]
theorem setsL_one (S : Nat) : ofN [S] = 2 ^ S := by simp [ofN]
theorem bytesAt_one (w : World) (c : Nat) (hc : c < 256) : BytesAt (w.alloc (.cells #[.int .u8 c] 5)).drew (.slice (some ⟨w.heap.size, 0, none⟩) 1 1) [c] := by
  refine ⟨?_, by unfold maxLen; simp, _, _, rfl, ?_⟩
  · intro x hx; simp at hx; omega
  · intro i hi
    refine ⟨_, _, rfl, ?_⟩
    have : i = 0 := by simpa using hi
    subst this
    simp
theorem drew_drew_below {B : Nat} {w w' : World} (h : Below B w w') : Below B w w'.drew := h.drew
set_option maxHeartbeats 1600000 in
set_option maxRecDepth 100000 in
theorem sets_any (of : Nat → Nat) (n : Nat) (w : World) (hn : n ≤ 256) (hof : ∀ c, c < 256 → of c < n) (hr : prightB of n = true) :
    Calls Tryd.prog 8 #[.agg (partC of n)] w fun e w' =>
      ∃ g, e = .returned (.slice (some ⟨g, 0, none⟩) n n) ∧ w.heap.size ≤ g ∧ SetsRow w' g (clsSets of n 256) ∧ Below w.heap.size w w' := by
  have hP : PartAt (w.alloc (.cells (partC of n) 33)) w.heap.size of n := PartAt.new w of n
  have hB : Below w.heap.size w (w.alloc (.cells (partC of n) 33)) := (Below.refl _ _).alloc (Nat.le_refl _) _
  have hsz : w.heap.size < (w.alloc (.cells (partC of n) 33)).heap.size := hP.lt
  obtain ⟨i0, hi, hz0, hz1, hz2⟩ := info_parts infoS
  go_enter Tryd.func8, Tryd.ntmps8
  go_wp2_with (refine wpList_load_row rfl 33 (.tmp 1) rfl w.heap.size rfl 33 (partC of n) (0, 0) _ hP Tryd.underlying33 rfl (sizeP of n) ?_)
  refine (pright_any of n _ (fun c hc => Nat.lt_of_lt_of_le (hof c hc) hn)).mono ?_
  rintro e w1 ⟨rfl, hb⟩
  rw [hr]
  have hP1 := hP.kept hb hsz
  have hB1 : Below w.heap.size w w1 := hB.trans (hb.mono (by omega))
  have hsz1 := hP1.lt
  have hcN := hP1.cellN
  clear hP hB hsz hb hr
  go_wp2_with (at_make; refine wpList_make_full _ rfl _ _ 35 rfl w1.heap.size 41 i0 _ 4 Tryd.underlying35 hi hz0 hz1 .i64 .i64 n n n rfl rfl rfl rfl (by rw [hz2]; omega) (by unfold maxLen; omega) (Nat.le_refl _) ?_)
  intro w2 hown hgr
  have hS2 := made_row hown
  have hb2 : Below w1.heap.size w1 w2 := (Below.refl _ _).grown hgr (Nat.le_refl _) (by simp)
  have hP2 := hP1.kept hb2 hsz1
  have hB2 : Below w.heap.size w w2 := hB1.trans (hb2.mono (by omega))
  have hr2 := hP2.range
  have hsz2 := hS2.lt
  clear hP1 hown hgr hb2 hcN hP2
  rw [show List.replicate n 0 = clsSets of n 0 from (by unfold clsSets; rw [show clsSet of 0 = fun _ => 0 from rfl, List.map_const', List.length_range])] at hS2
  go_wp2_with (refine wpList_load_mid rfl 31 (.tmp 12) rfl w.heap.size 0 rfl (ofL of) _ hr2 Tryd.underlying31 rfl (sizeO of) ?_)
  clear hr2
  have hgB : w.heap.size < w1.heap.size := hsz1
  generalize w1.heap.size = g at *
  go_loopw [14] (fun i wr => ∃ c : Nat, i = .int .i64 c ∧ c ≤ 256 ∧ SetsRow wr g (clsSets of n c) ∧ Below w.heap.size w wr) (fun i _ => (256 - intOf i).toNat)
  case atStart => exact ⟨0, rfl, by omega, hS2, hB2⟩
  case round =>
    obtain ⟨c, rfl, hc, hS, hB⟩ := hrel
    have hgl := hS.lt
    by_cases hlt : c < 256
    · have hx := index_of of c hlt
      have ho := hof c hlt
      have ho2 : ((of c : Nat) : Int) < (n : Int) := by omega
      have hcl := clsSets_length of n c
      have hc0 := hS.cell (of c) 0 (by omega) (by omega)
      have hc1 := hS.cell (of c) 1 (by omega) (by omega)
      have hc2 := hS.cell (of c) 2 (by omega) (by omega)
      have hc3 := hS.cell (of c) 3 (by omega) (by omega)
      rw [clsSets_get of n c _ ho] at hc0 hc1 hc2 hc3
      have hcl2 := Lib.hid hcl
      clear hcl
      go_wp2
      refine region_mix [(false, 0), (false, 1), (false, 2), (false, 3), (false, 4), (false, 5), (false, 6), (false, 7), (true, 8), (true, 9), (true, 10), (false, 11)] (fun w' => Below wr.heap.size wr w') (by kernel_rfl) (by kernel_rfl) ((Below.refl _ _).drew) ?_
      simp only [planOps, List.map_cons, List.map_nil, List.getD_cons_zero, List.getD_cons_succ, List.length_cons, List.length_nil, List.drop_succ_cons, List.drop_zero]
      refine mix_seg (seg := [_, _, _, _, _, _, _, _]) rfl ((Below.refl _ _).drew) ?_
      intro ι hι F hF
      have f0 := fun n => ((hF n).cell (p := ⟨g, of c * 4, none⟩) hgl).trans hc0
      have f1 := fun n => ((hF n).cell (p := ⟨g, of c * 4 + 1, none⟩) hgl).trans hc1
      have f2 := fun n => ((hF n).cell (p := ⟨g, of c * 4 + 2, none⟩) hgl).trans hc2
      have f3 := fun n => ((hF n).cell (p := ⟨g, of c * 4 + 3, none⟩) hgl).trans hc3
      repeat (go_big_quiet_step (fail))
      refine wpQuiet_nil ?_
      clear f0 f1 f2 f3 hF hι F
      refine mix_eff (fun K hK => ?_)
      go_wp2
      refine mix_on hK ((Below.refl _ _).drew.alloc (by simp) _) ?_
      clear hK K
      have hby := bytesAt_one wr c hlt
      have hB4 : Below wr.heap.size wr (wr.alloc (.cells #[.int .u8 c] 5)).drew := ((Below.refl _ _).alloc (Nat.le_refl _) _).drew
      generalize (wr.alloc (.cells #[.int .u8 c] 5)).drew = w4 at *
      refine mix_eff (fun K hK => ?_)
      go_wp2_with (go_at_call 18; refine (of_any _ [c] _ hby).mono ?_; rintro e w5 ⟨rfl, hb5⟩)
      have hB5 : Below wr.heap.size wr w5 := hB4.trans (hb5.mono hB4.size)
      clear hb5 hby hB4
      refine mix_on hK hB5 ?_
      clear hK K
      refine mix_eff (fun K hK => ?_)
      go_wp2_with (go_at_call 17; refine (or_any _ _ _).mono ?_; rintro e w6 ⟨rfl, hb6⟩)
      have hB6 : Below wr.heap.size wr w6 := hB5.trans (hb6.mono hB5.size)
      clear hb6 hB5
      refine mix_on hK hB6 ?_
      clear hK K
      refine mix_seg (seg := [_]) rfl hB6 ?_
      intro ι hι F hF
      repeat (go_big_quiet_step (fail))
      refine wpQuiet_nil ?_
      clear hF hι F
      have hS6 := hS.kept hB6 hgl
      have fr := hS6.free
      have d0 := (hB6.cell (p := ⟨g, of c * 4, none⟩) hgl).trans hc0
      have d1 := (hB6.cell (p := ⟨g, of c * 4 + 1, none⟩) hgl).trans hc1
      have d2 := (hB6.cell (p := ⟨g, of c * 4 + 2, none⟩) hgl).trans hc2
      have d3 := (hB6.cell (p := ⟨g, of c * 4 + 3, none⟩) hgl).trans hc3
      show wpList _ _ _ _ _ _
      go_wp2
      have hset := hS6.set (of c) (clsSet of c (of c) ||| ofN [c]) (by rw [hcl2.out]; exact ho)
      rw [setsL_one, ← clsSets_succ] at hset
      have hB7 := (((((hB.trans (hB6.mono hB.size)).setCell (p := ⟨g, of c * 4, none⟩) (by simp; omega) (.int .u64 (wd (clsSet of c (of c) ||| ofN [c]) 0))).setCell (p := ⟨g, of c * 4 + 1, none⟩) (by simp; omega) (.int .u64 (wd (clsSet of c (of c) ||| ofN [c]) 1))).setCell (p := ⟨g, of c * 4 + 2, none⟩) (by simp; omega) (.int .u64 (wd (clsSet of c (of c) ||| ofN [c]) 2))).setCell (p := ⟨g, of c * 4 + 3, none⟩) (by simp; omega) (.int .u64 (wd (clsSet of c (of c) ||| ofN [c]) 3)))
      refine NoPanic.normal ?_
      rw [setsL_one] at *
      clear d0 d1 d2 d3 fr hS6 hc0 hc1 hc2 hc3
      generalize (((w6.setCell ⟨g, of c * 4, none⟩ (.int .u64 (wd (clsSet of c (of c) ||| 2 ^ c) 0))).setCell ⟨g, of c * 4 + 1, none⟩ (.int .u64 (wd (clsSet of c (of c) ||| 2 ^ c) 1))).setCell ⟨g, of c * 4 + 2, none⟩ (.int .u64 (wd (clsSet of c (of c) ||| 2 ^ c) 2))).setCell ⟨g, of c * 4 + 3, none⟩ (.int .u64 (wd (clsSet of c (of c) ||| 2 ^ c) 3)) = w7 at *
      go_wp2
      go_roundw
      case rel => exact ⟨c + 1, by go_num, by omega, hset, hB7⟩
      case measure => simp [intOf]; omega
    · have hc' : c = 256 := by omega
      subst hc'
      go_wp2
      go_ret
      exact ⟨g, rfl, by omega, hS, hB⟩
end Go.Proofs.YtdmnocjlmnkdhaaDoor
namespace Go.Proofs.YtdmnocjlmnkdhaaDoor
open Go.RowKit Sets Cls
def keyV (k : Nat × Nat) : Value := .agg #[.int .u8 k.1, .int .u64 k.2]
/-- The entries of the keys l, the first one numbered i. -/
def ents : Nat → List (Nat × Nat) → List MapEntry
  | _, [] => []
  | i, k :: l => { key := keyV k, val := .int .u8 i, born := i } :: ents (i + 1) l
theorem ents_length : ∀ (l : List (Nat × Nat)) (i : Nat), (ents i l).length = l.length
  | [], _ => rfl
  | _ :: l, i => by simp [ents, ents_length l (i + 1)]
theorem ents_snoc (k : Nat × Nat) : ∀ (l : List (Nat × Nat)) (i : Nat), ents i (l ++ [k]) = ents i l ++ [{ key := keyV k, val := .int .u8 (i + l.length : Nat), born := i + l.length }]
  | [], i => by simp [ents]
  | a :: l, i => by
    simp only [List.cons_append, ents, ents_snoc k l (i + 1), List.length_cons]
    rw [show i + 1 + l.length = i + (l.length + 1) from by omega]
set_option maxRecDepth 100000 in
theorem eqTrait (a b a' b' : Int) (w : World) : (Op.equal 75 (.agg #[.int .u8 a, .int .u64 b]) (.agg #[.int .u8 a', .int .u64 b'])).run Tryd.prog w = .ok (a == a' && b == b') w := by
  have u1 := Tryd.underlying5
  have u2 := Tryd.underlying39
  have hp : Tryd.prog.stoodInHeld 75 = false := by kernel_rfl
  unfold Op.equal Op.maxDepth
  rw [show (10000 : Nat) = 9999 + 1 from rfl, run_equalIn_agg w 9999 _ _ _ Tryd.underlying75 hp]
  simp only [Program.fieldsOf, Tryd.underlying75]
  go_simp
  by_cases h1 : a = a' <;> by_cases h2 : b = b' <;> simp [h1, h2]
theorem check_traitD (d : Nat) (em : Bool) (a b : Int) (w : World) : (Instr.checkKey em (d + 1 + 1) 75 (.agg #[.int .u8 a, .int .u64 b])).run Tryd.prog w = .ok () w := by
  have u1 := Tryd.underlying5
  have u2 := Tryd.underlying39
  have a1 := Tryd.isAgg5
  have a2 := Tryd.isAgg39
  rw [Instr.checkKey]
  simp only [Sem.run_bind, run_underlying Tryd.underlying75, Result.andThen_ok]
  rw [← Array.forIn_toList]
  go_simp
  simp [Instr.checkKey, Sem.run_bind, run_underlying u1, run_underlying u2, Result.andThen_ok]
theorem check_trait (em : Bool) (a b : Int) (w : World) : (Instr.checkKey em 10000 75 (.agg #[.int .u8 a, .int .u64 b])).run Tryd.prog w = .ok () w := check_traitD 9998 em a b w
set_option maxRecDepth 100000 in
theorem find_asking (k : Nat × Nat) (w : World) : ∀ (l : List (Nat × Nat)) (i : Nat), (Instr.findAsking 75 (keyV k) (ents i l) i).run Tryd.prog w = .ok ((l.findIdx? (· == k)).map fun j => (i + j, Value.int .u8 (i + j : Nat))) w
  | [], i => by simp [ents, Instr.findAsking]
  | q :: l, i => by
    simp only [ents, Instr.findAsking, Sem.run_bind]
    have e := eqTrait k.1 k.2 q.1 q.2 w
    unfold keyV at *
    rw [e]
    simp only [Result.andThen_ok, Sem.run_ite, Sem.run_pure]
    have ih := find_asking k w l (i + 1)
    unfold keyV at ih
    by_cases h : q = k
    · subst h
      simp [List.findIdx?_cons]
    · have hb : ((k.1 : Int) == q.1 && (k.2 : Int) == q.2) = false := by
        rw [Bool.eq_false_iff]; intro h'
        simp at h'
        exact h (Prod.ext (by omega) (by omega))
      rw [hb, if_neg (by simp), ih, List.findIdx?_cons]
      simp only [beq_iff_eq, h, if_false, Option.map_map]
      congr 2
      funext j
      simp only [Function.comp, Prod.mk.injEq]
      exact ⟨by omega, by congr 1; omega⟩
theorem find_key (k : Nat × Nat) (w : World) (l : List (Nat × Nat)) : (Instr.findKey 75 (keyV k) (ents 0 l)).run Tryd.prog w = .ok ((l.findIdx? (· == k)).map fun j => (j, Value.int .u8 (j : Nat))) w := by
  unfold Instr.findKey
  simp only [Sem.run_bind, run_underlying Tryd.underlying75, Result.andThen_ok]
  have h := find_asking k w l 0
  simp only [Nat.zero_add] at h
  cases l with
  | nil => simp [ents, Instr.findNow]
  | cons q l =>
    have : Instr.findNow (.struct #[{ name := "class", type := 5, offset := 0, embedded := false, tag := "", pkgPath := "shibboleth/classes", byteOffset := 0 }, { name := "in", type := 39, offset := 1, embedded := false, tag := "", pkgPath := "shibboleth/classes", byteOffset := 8 }]) (keyV k) (ents 0 (q :: l)) 0 = none := by
      simp [ents, Instr.findNow, Instr.sameNow]
    rw [this]
    exact h
/-- Block g is the map of the keys l, each with its number. -/
def TraitMap (w : World) (g : Nat) (l : List (Nat × Nat)) : Prop := w.heap[g]? = some (.map (ents 0 l).toArray l.length)
theorem TraitMap.lt {w : World} {g : Nat} {l : List (Nat × Nat)} (h : TraitMap w g l) : g < w.heap.size := (Array.getElem?_eq_some_iff.1 h).1
theorem TraitMap.kept {w w' : World} {A g : Nat} {l : List (Nat × Nat)} (h : TraitMap w g l) (hb : Below A w w') (hA : g < A) : TraitMap w' g l := by
  unfold TraitMap at *; rw [hb.block _ hA]; exact h
theorem TraitMap.made (w : World) : TraitMap (w.alloc (.map #[] 0)) w.heap.size [] := heap_alloc_new w _
theorem zeroB (w : World) : (zeroValue 5).run Tryd.prog w = .ok (.int .u8 0) w := by kernel_rfl
theorem getObj_run {P : Program} {w : World} {g : Nat} {es : Array MapEntry} {clock : Nat} (h : w.heap[g]? = some (.map es clock)) : (getObj g).run P w = .ok (.map es clock) w := MapKept.run_getObj_map h
theorem TraitMap.look {w : World} {g : Nat} {l : List (Nat × Nat)} (h : TraitMap w g l) (k : Nat × Nat) :
    (Instr.lookup 73 (.map (some g)) (.agg #[.int .u8 k.1, .int .u64 k.2]) true).run Tryd.prog w =
      .ok (match l.findIdx? (· == k) with | some j => .tuple #[.int .u8 (j : Nat), .bool true] | none => .tuple #[.int .u8 0, .bool false]) w := by
  unfold Instr.lookup
  have hc := fun em => check_trait em k.1 k.2 w
  have hf := find_key k w l
  unfold keyV at hf
  simp only [Sem.run_bind, run_underlying Tryd.underlying73, Result.andThen_ok, getObj_run h, Sem.run_pure, hc, hf]
  cases l.findIdx? (· == k) with
  | none => simp
  | some j => simp
theorem TraitMap.put {w : World} {g : Nat} {l : List (Nat × Nat)} (h : TraitMap w g l) (k : Nat × Nat) (hk : l.findIdx? (· == k) = none) :
    ∃ w', (Instr.mapUpdate 73 (.map (some g)) (.agg #[.int .u8 k.1, .int .u64 k.2]) (.int .u8 l.length)).run Tryd.prog w = .ok () w' ∧ TraitMap w' g (l ++ [k]) ∧ w.grownBy w' (some g) := by
  have hc := fun em => check_trait em k.1 k.2 w
  have hf := find_key k w l
  rw [hk] at hf
  unfold keyV at hf
  have hg : w.heap[g]? = some (.map (ents 0 l).toArray l.length) := h
  refine ⟨ChangeMaps.setBlock w g (.map ((ents 0 l).toArray.push { key := .agg #[.int .u8 k.1, .int .u64 k.2], val := .int .u8 l.length, born := l.length }) (l.length + 1)), ?_, ?_, ⟨rfl, rfl, rfl, by simp [ChangeMaps.setBlock], fun i _ hi => ChangeMaps.heap_setBlock_other hg _ (fun e => hi (by rw [e]))⟩⟩
  · unfold Instr.mapUpdate
    simp only [Sem.run_bind, run_underlying Tryd.underlying73, Result.andThen_ok, getObj_run h, hc, hf, Option.map_none]
    exact MapKept.run_setObj_map _ hg
  · unfold TraitMap
    rw [ChangeMaps.heap_setBlock_same hg _, ents_snoc]
    simp [keyV]
theorem wpList_put {P : Program} {w : World} {ops : Array Oper} {rest : List Oper} {o : Oper} {a : Act} {Q : Exit → Act → World → Prop}
    (hg : o.guard = none) (m x v : Operand) (t : TypeId) (hop : o.op = Op.mapUpdate t m x v) (mv xv vv : Value) (hm : a.eval m = mv) (hx : a.eval x = xv) (hv : a.eval v = vv) {w' : World}
    (hrun : (Instr.mapUpdate t mv xv vv).run P w = .ok () w') (hK : wpList P ops Q rest (a.put o.dst undef) w') : wpList P ops Q (o :: rest) a w := by
  refine wpList_plain hg fun K' hK' => ?_
  unfold Oper.wp
  simp [execOp, hop, hm, hx, hv, hrun, Result.andThen]
  exact hK' _ _ hK
/-- len(m). -/
theorem TraitMap.len {w : World} {g : Nat} {l : List (Nat × Nat)} (h : TraitMap w g l) (ty : TypeId) : (Builtin.len_ #[73] ty #[.map (some g)]).run Tryd.prog w = .ok (.int .i64 l.length) w := by
  unfold Builtin.len_
  have hg : w.heap[g]? = some (.map (ents 0 l).toArray l.length) := h
  simp [run_underlying Tryd.underlying73, getObj_run hg, goInt, Result.andThen, ents_length]
end Go.Proofs.YtdmnocjlmnkdhaaDoor
