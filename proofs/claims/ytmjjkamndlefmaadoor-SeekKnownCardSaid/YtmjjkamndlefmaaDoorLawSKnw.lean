/- SeekKnown holds: the call answers true. No condition. -/
import Derived.Test.YtmjjkamndlefmaaDoorPqS6
import Derived.Test.YtmjjkamndlefmaaDoorPq40
import Derived.Test.YtmjjkamndlefmaaDoorPq43
import Derived.Test.YtmjjkamndlefmaaDoorPqS7
import Derived.Test.YtmjjkamndlefmaaDoorTie
import Derived.Test.YtmjjkamndlefmaaDoorCards
import Derived.SevenTiedAt
import Derived.Lay
import Derived.MakeChecks
import Derived.WalkKit
import Derived.ProofKit
import Derived.OpenShut
import Derived.ShutString
namespace Go.Proofs.YtmjjkamndlefmaaDoor
open Go.RowKit Sets Nf Df Cls
namespace Sk
def knM (la : List Bool) : Mc := ⟨[(ofN [97], 0), (ofN [98], 0), (ofN [99], 0)], [0, 1], [[], [2], []], la, false⟩
abbrev la1 : List Bool := [true, false, true]
abbrev la2 : List Bool := [false, false, true]
abbrev la3 : List Bool := [false, false, false]
def aS : ByteArray := ⟨#[97]⟩
def bcS : ByteArray := ⟨#[98, 99]⟩
theorem kn_fine (la : List Bool) (h : la.length ≤ 1000) : Fine (knM la) :=
  ⟨by simp [knM], by simp [knM], by simp [knM], h, fun l hl => by
    have h2 : l = [] ∨ l = [2] ∨ l = [] := by simpa [knM] using hl
    rcases h2 with rfl | rfl | rfl
    · exact ⟨by simp, fun k hk => by cases hk⟩
    · exact ⟨by simp, fun k hk => by
        have : k = 2 := by simpa using hk
        subst this; exact ⟨by decide, by decide⟩⟩
    · exact ⟨by simp, fun k hk => by cases hk⟩, fun k hk => by
    have h2 : k = 0 ∨ k = 1 := by simpa [knM] using hk
    rcases h2 with rfl | rfl <;> exact ⟨by decide, by decide⟩, some_fine.set⟩
theorem kn_right1 : rightM (knM la1) = true := by decide +kernel
theorem kn_a : takesM (knM la1) (bs aS) = true := by decide +kernel
theorem kn_bc : takesM (knM la2) (bs bcS) = true := by decide +kernel
theorem kn_first {la : List Bool} {c : Nat} {u : List Nat} (ht : Tk (knM la) (c :: u)) : ∃ k, (k = 0 ∨ k = 1) ∧ (stN (knM la) k).testBit c = true ∧ Gs (knM la) k u := by
  obtain ⟨k, hk, hc, hg⟩ := ht
  have h1 := (testBit_grp (knM la).fi k).1 hk
  have h2 : k ∈ [0, 1] := h1
  exact ⟨k, by simpa using h2, hc, hg⟩
theorem kn_fo {la : List Bool} {k j : Nat} (hk : k = 0 ∨ k = 1) (h : (foN (knM la) k).testBit j = true) : k = 1 ∧ j = 2 := by
  rcases hk with rfl | rfl
  · have h4 := (testBit_grp [] j).1 h
    cases h4
  · have h4 := (testBit_grp [2] j).1 h
    have h5 : j ∈ [2] := h4
    exact ⟨rfl, by simpa using h5⟩
theorem kn_st {la : List Bool} {k c : Nat} (h : (stN (knM la) k).testBit c = true) : (k = 0 → c = 97) ∧ (k = 1 → c = 98) ∧ (k = 2 → c = 99) := by
  refine ⟨fun e => ?_, fun e => ?_, fun e => ?_⟩
  · subst e
    have h1 : (ofN [97]).testBit c = true := h
    rw [ofN_testBit] at h1
    simpa using h1
  · subst e
    have h1 : (ofN [98]).testBit c = true := h
    rw [ofN_testBit] at h1
    simpa using h1
  · subst e
    have h1 : (ofN [99]).testBit c = true := h
    rw [ofN_testBit] at h1
    simpa using h1
theorem kn_fo2 {la : List Bool} {j : Nat} (h : (foN (knM la) 2).testBit j = true) : False := by
  have h4 := (testBit_grp [] j).1 h
  cases h4
theorem kn_least1 : ∀ u, takesM (knM la1) u = true → Le [97] u := by
  intro u hu
  have ht := ((takes_iff _ u).1 hu).2
  cases u with
  | nil => cases ht
  | cons c u =>
    obtain ⟨k, hk, hc, hg⟩ := kn_first ht
    cases hg with
    | done h =>
      rcases hk with rfl | rfl
      · rw [(kn_st hc).1 rfl]; exact .refl _
      · cases h
    | more h1 h2 h3 => exact .of ((ls_iff _ _).2 (.inl (by simp)))
theorem kn_least2 : ∀ u, takesM (knM la2) u = true → Le [98, 99] u := by
  intro u hu
  have ht := ((takes_iff _ u).1 hu).2
  cases u with
  | nil => cases ht
  | cons c u =>
    obtain ⟨k, hk, hc, hg⟩ := kn_first ht
    cases hg with
    | done h => rcases hk with rfl | rfl <;> cases h
    | more h1 h2 h3 =>
      obtain ⟨rfl, rfl⟩ := kn_fo hk h1
      rw [(kn_st hc).2.1 rfl, (kn_st h2).2.2 rfl]
      cases h3 with
      | done h => exact .refl _
      | more g1 g2 g3 => exact (kn_fo2 g1).elim
theorem kn_none : ∀ u, takesM (knM la3) u = false := by
  intro u
  cases h : takesM (knM la3) u with
  | false => rfl
  | true =>
    exfalso
    have ht := ((takes_iff _ u).1 h).2
    cases u with
    | nil => cases ht
    | cons c u =>
      obtain ⟨k, hk, hc, hg⟩ := ht
      clear hk hc h
      induction hg with
      | @done k h =>
        rcases k with _ | _ | _ | k <;> cases h
      | more _ _ _ ih => exact ih
theorem kn_path1 : PathIs (knM la1) aS true := .inl ⟨rfl, kn_a, by decide, kn_least1⟩
theorem kn_path2 : PathIs (knM la2) bcS true := .inl ⟨rfl, kn_bc, by decide, kn_least2⟩
theorem kn_path3 : PathIs (knM la3) ⟨#[]⟩ false := .inr ⟨rfl, rfl, kn_none⟩
theorem PathIs.one {m : Mc} {s t : ByteArray} {ok ok' : Bool} (h : PathIs m s ok) (h' : PathIs m t ok') : ok = ok' ∧ s = t := by
  rcases h with ⟨h1, h2, -, h3⟩ | ⟨h1, h2, h3⟩
  · rcases h' with ⟨g1, g2, -, g3⟩ | ⟨g1, g2, g3⟩
    · exact ⟨by rw [h1, g1], bs_inj (ls_tot' (h3 _ g2) (g3 _ h2))⟩
    · rw [g3] at h2; cases h2
  · rcases h' with ⟨g1, g2, -, g3⟩ | ⟨g1, g2, g3⟩
    · rw [h3] at g2; cases g2
    · exact ⟨by rw [h1, g1], by rw [h2, g2]⟩
/-- A machine of a last without a spot. -/
def wrM : Mc := ⟨[], [], [], [true], false⟩
theorem wr_fine : Fine wrM := ⟨by simp [wrM], by simp [wrM], by simp [wrM], by simp [wrM], fun l h => (by cases h), fun k h => (by cases h), fun s h => (by cases h)⟩
theorem wr_wrong : rightM wrM = false := by decide +kernel
theorem wr_path : PathIs wrM ⟨#[]⟩ false := .inr ⟨rfl, rfl, fun u => by
  cases h : takesM wrM u with
  | false => rfl
  | true => have := (right_iff wrM).2 ((takes_iff _ u).1 h).1; rw [wr_wrong] at this; cases this⟩
/-- What the negation's word is. -/
theorem not_word {d : Dm} (hr : DRt d) (h : takesD d [] = false) {s : ByteArray} {ok : Bool} (hw : WordIs (notD d) s ok) : s = ⟨#[]⟩ ∧ ok = true := by
  have hn : takesD (notD d) [] = true := by rw [not_takes hr [] (fun c hc => by cases hc), h]; rfl
  rcases hw with ⟨h1, h2, h3, -⟩ | ⟨-, -, h3⟩
  · refine ⟨bs_inj ?_, h1⟩
    have h4 := h3.least [] (fun c hc => by cases hc) (by rw [← takes_R h2]; exact hn)
    exact ls_tot' h4 (Le.nil _)
  · have := h3 [] (fun c hc => by cases hc)
    rw [hn] at this; cases this
def d0 : Dm := ⟨fun _ => 0, 0, [], []⟩
def x0 : Dx := ⟨none, 0, none, 0⟩
theorem d0_at (W : World) : DAt W x0 d0 := ⟨fun i hi => by simp [d0] at hi, fun i hi => by simp [d0] at hi⟩
theorem d0_fine : DFine d0 := ⟨Nat.zero_le _, Nat.zero_le _, fun l hl => (by cases hl), fun c _ => by show 0 < 256; decide⟩
theorem d0_word {s : ByteArray} {ok : Bool} (h : WordIs d0 s ok) : ok = false := by
  rcases h with ⟨-, h2, -⟩ | ⟨h1, -⟩
  · have := h2.pos; exact absurd this (by decide)
  · exact h1
theorem ls1 : ls (bs ⟨#[97, 98]⟩) (bs ⟨#[98]⟩) = false := by decide +kernel
theorem ls2 : ls (bs ⟨#[97, 98]⟩) (bs ⟨#[97, 99]⟩) = true := by decide +kernel
theorem ls3 : ls (bs ⟨#[97]⟩) (bs ⟨#[97]⟩) = false := by decide +kernel
theorem ls4 : ls (bs ⟨#[]⟩) (bs ⟨#[97]⟩) = true := by decide +kernel
/-- The machine's memory but for its last: that lies in block g. -/
structure KM (B g : Nat) (w : World) (x : Ma) (la : List Bool) : Prop where
  sp : w.ownsRow B 57 5 (.slice x.sa 3 x.sc) 3 (spL (knM la1).sp)
  fi : OwnN B w (.slice x.fa 2 x.fc) [0, 1]
  fo : ∃ vs : List Value, vs.length = 3 ∧ w.ownsRow B 41 1 (.slice x.oa 3 x.oc) 3 vs ∧ ∀ i, i < 3 → OwnN B w (vs.getD i (.slice none 0 0)) ((knM la1).fo.getD i [])
  slot : x.la = some ⟨g, 0, none⟩
  row : w.heap[g]? = some (.cells (bL la).toArray 4 (0, 0))
  len : la.length = 3
theorem KM.kept {B g : Nat} {w w' : World} {x : Ma} {la : List Bool} (h : KM B g w x la) (hb : Below w.heap.size w w') : KM B g w' x la := by
  obtain ⟨vs, h1, h2, h3⟩ := h.fo
  exact ⟨own_stay h.sp hb, own_stay h.fi hb, ⟨vs, h1, own_stay h2 hb, fun i hi => own_stay (h3 i hi) hb⟩, h.slot, (hb.block g (Array.getElem?_eq_some_iff.1 h.row).1).trans h.row, h.len⟩
theorem KM.set {B g : Nat} {w : World} {x : Ma} {la : List Bool} (h : KM B g w x la) (i : Nat) : KM B g (w.setCell ⟨g, i, none⟩ (.bool false)) x (la.set i false) := by
  obtain ⟨vs, h1, h2, h3⟩ := h.fo
  have key : ∀ {e : TypeId} {size n : Nat} {v : Value} {xs : List Value}, w.ownsRow B e size v n xs → e ≠ 4 → (w.setCell ⟨g, i, none⟩ (.bool false)).ownsRow B e size v n xs := fun ho he => own_kept ho fun k hk => by
    obtain ⟨cs, hc⟩ := own_type ho hk
    refine Below.heap_setCell w ⟨g, i, none⟩ _ k (fun e2 => ?_)
    rw [e2, h.row] at hc
    injection hc with hc
    injection hc with _ hc
    exact he hc.symm
  refine ⟨key h.sp (by decide), key h.fi (by decide), ⟨vs, h1, key h2 (by decide), fun i hi => key (h3 i hi) (by decide)⟩, h.slot, ?_, by rw [List.length_set]; exact h.len⟩
  rw [heap_setCell_same _ _ _ _ _ _ h.row]
  congr 2
  simp [bL]
theorem KM.mat {B g : Nat} {w : World} {x : Ma} {la : List Bool} (h : KM B g w x la) : MAt w x (knM la) := by
  obtain ⟨vs, h1, h2, h3⟩ := h.fo
  refine ⟨fun i hi => ?_, ?_, fun i hi => ?_, fun i hi => ?_⟩
  · have hi : i < 3 := hi
    obtain ⟨k, hk⟩ := own_addr h.sp (by omega)
    have hs := h.sp
    rw [hk] at hs
    refine ⟨k, 0, hk, fun j v hj => ?_⟩
    have hj5 : j < 5 := by have := (List.getElem?_eq_some_iff.1 hj).1; rwa [sp5_len] at this
    rw [Nat.zero_add, World.ownsRow.cellAt hs (i * 5 + j) (by omega), spL_get _ _ hi _ hj5]
    exact hj
  · obtain ⟨a, c, e, hn⟩ := h.fi.nums
    injection e with e1
    rw [e1]; exact hn
  · have hi : i < 3 := hi
    obtain ⟨k, hk⟩ := own_addr h2 (by omega)
    rw [hk] at h2
    obtain ⟨a, c, e, hn⟩ := (h3 i hi).nums
    refine ⟨k, 0, a, c, hk, ?_, hn⟩
    rw [Nat.zero_add, World.ownsRow.cellAt h2 i (by omega)]
    show vs[i]? = some (.slice a ((knM la1).fo.getD i []).length c)
    rw [← e, List.getD_eq_getElem?_getD, List.getElem?_eq_getElem (by omega)]; rfl
  · refine ⟨g, 0, h.slot, ?_⟩
    have hi : i < la.length := hi
    rw [Nat.zero_add, cell_of_row w g i _ _ _ h.row]
    rw [List.getElem?_toArray]
    exact bL_get la i hi
theorem wp_build_z {o : Oper} {a : Act} {w : World} {K : Act → World → Prop} {Q : Exit → Act → World → Prop} (ho : o.op = .build 28 #[]) (h : K (a.put o.dst (.agg (dvC x0 d0))) w) : o.wp Tryd.prog a w K Q := by
  have hrun := buildZ w
  unfold Oper.wp execOp
  simp only [ho, List.map_toArray, List.map_nil, Sem.run_bind, Sem.run_pure, hrun, Result.andThen_ok]
  exact h
/-- What is kept of the chapter's machine while its last is written. -/
structure KnS (w : World) (s g : Nat) (x : Ma) (la : List Bool) (W : World) : Prop where
  box : BoxM W s x (knM la)
  km : ∃ B, KM B g W x la
  bel : Below w.heap.size w W
  tab : Tab w
  low : 0 < w.heap.size
  gl : w.heap.size ≤ g
  gs : s ≠ g
theorem KnS.kept {w W W' : World} {s g : Nat} {x : Ma} {la : List Bool} (h : KnS w s g x la W) (hb : Below W.heap.size W W') : KnS w s g x la W' := by
  obtain ⟨B, hk⟩ := h.km
  exact ⟨h.box.kept hb h.box.lt, ⟨B, hk.kept hb⟩, h.bel.trans (hb.mono h.bel.size), h.tab, h.low, h.gl, h.gs⟩
theorem KnS.mat {w W : World} {s g : Nat} {x : Ma} {la : List Bool} (h : KnS w s g x la W) : MAt W x (knM la) := by
  obtain ⟨B, hk⟩ := h.km
  exact hk.mat
theorem KnS.tabs {w W : World} {s g : Nat} {x : Ma} {la : List Bool} (h : KnS w s g x la W) : Tab W := h.tab.below h.bel h.low
theorem KnS.set {w W : World} {s g : Nat} {x : Ma} {la : List Bool} (h : KnS w s g x la W) (i : Nat) : KnS w s g x (la.set i false) (W.setCell ⟨g, i, none⟩ (.bool false)) := by
  obtain ⟨B, hk⟩ := h.km
  have hb := But.set g W i (.bool false)
  refine ⟨⟨?_⟩, ⟨B, hk.set i⟩, hb.below h.bel h.gl h.bel.size, h.tab, h.low, h.gl, h.gs⟩
  rw [hb.block s h.box.lt h.gs, h.box.row]
  congr 2
  show #[_, _, _, Value.slice x.la la.length x.lc, _] = #[_, _, _, Value.slice x.la (la.set i false).length x.lc, _]
  rw [List.length_set]
  rfl
theorem KnS.slot {w W : World} {s g : Nat} {x : Ma} {la : List Bool} (h : KnS w s g x la W) : W.cell? ⟨s, 3, none⟩ = some (.slice (some ⟨g, 0, none⟩) 3 x.lc) := by
  obtain ⟨B, hk⟩ := h.km
  rw [cell_of_row W s 3 _ _ _ h.box.row]
  show some (Value.slice x.la la.length x.lc) = _
  rw [hk.slot, hk.len]
theorem KnS.cell {w W : World} {s g : Nat} {x : Ma} {la : List Bool} (h : KnS w s g x la W) (i : Nat) (b : Bool) (hb : la[i]? = some b) : W.cell? ⟨g, i, none⟩ = some (.bool b) := by
  obtain ⟨B, hk⟩ := h.km
  rw [cell_of_row W g i _ _ _ hk.row, List.getElem?_toArray]
  simp [bL, hb]
theorem KnS.free {w W : World} {s g : Nat} {x : Ma} {la : List Bool} (h : KnS w s g x la W) (i : Nat) : W.frozen? ⟨g, i, none⟩ = false := by
  obtain ⟨B, hk⟩ := h.km
  exact frozen_of_row W g i _ _ hk.row
theorem wr_any (w : World) (hT : Tab w) (hg : 0 < w.heap.size) :
    Calls Tryd.prog 19 #[.agg #[.slice none 0 0, .slice none 0 0, .slice none 0 0, .slice (some ⟨w.heap.size, 0, none⟩) 1 1, .bool false]] (w.alloc (.cells #[.bool true] 4)) fun e w' => e = .returned (.tuple #[.string ⟨#[]⟩, .bool false]) ∧ Below w.heap.size w w' := by
  have hb := (Below.refl w.heap.size w).alloc (Nat.le_refl _) (.cells #[.bool true] 4)
  have hm : MAt (w.alloc (.cells #[.bool true] 4)) ⟨none, 0, none, 0, none, 0, some ⟨w.heap.size, 0, none⟩, 1⟩ wrM := by
    refine ⟨fun i hi => absurd hi (Nat.not_lt_zero _), fun i hi => absurd hi (Nat.not_lt_zero _), fun i hi => absurd hi (Nat.not_lt_zero _), fun i hi => ?_⟩
    have hi : i < 1 := hi
    obtain rfl : i = 0 := by omega
    exact ⟨w.heap.size, 0, rfl, by rw [cell_of_row _ _ _ _ _ _ (heap_alloc_new w (.cells #[.bool true] 4))]; rfl⟩
  have h := path_any ⟨none, 0, none, 0, none, 0, some ⟨w.heap.size, 0, none⟩, 1⟩ wrM (w.alloc (.cells #[.bool true] 4)) hm wr_fine (hT.below hb hg)
  refine Calls.mono (show Calls Tryd.prog 19 #[.agg (mc ⟨none, 0, none, 0, none, 0, some ⟨w.heap.size, 0, none⟩, 1⟩ wrM)] _ _ from h) ?_
  rintro e w' ⟨⟨t, ok, rfl, hw⟩, hb2⟩
  obtain ⟨h1, h2⟩ := PathIs.one wr_path hw
  subst h1; subst h2
  exact ⟨rfl, hb.trans (hb2.mono hb.size)⟩
end Sk
end Go.Proofs.YtmjjkamndlefmaaDoor
namespace Go.Proofs.YtmjjkamndlefmaaDoor
open Go.RowKit Sets Nf Df Cls DfK DfR
namespace Sk
def RKnw : Nat → Nat
  | 0 => 36
  | 1 => 37
  | 2 => 38
  | 3 => 39
  | 4 => 40
  | 5 => 35
  | 6 => 41
  | 7 => 42
  | 8 => 2
  | _ => 1000
abbrev knX (b : Nat) : Ma := ⟨some ⟨b, 0, none⟩, 3, some ⟨b + 1, 0, none⟩, 2, some ⟨b + 1 + 1 + 1 + 1 + 1, 0, none⟩, 3, some ⟨b + 1 + 1 + 1 + 1 + 1 + 1, 0, none⟩, 3⟩
abbrev knW (w4 : World) : World := ((((((w4.alloc (.cells #[.int .u64 (wd (ofN [97]) 0), .int .u64 (wd (ofN [97]) 1), .int .u64 (wd (ofN [97]) 2), .int .u64 (wd (ofN [97]) 3), .int .u8 0, .int .u64 (wd (ofN [98]) 0), .int .u64 (wd (ofN [98]) 1), .int .u64 (wd (ofN [98]) 2), .int .u64 (wd (ofN [98]) 3), .int .u8 0, .int .u64 (wd (ofN [99]) 0), .int .u64 (wd (ofN [99]) 1), .int .u64 (wd (ofN [99]) 2), .int .u64 (wd (ofN [99]) 3), .int .u8 0] 57)).alloc (.cells #[.int .i64 0, .int .i64 1] 3)).alloc (.cells #[] 3)).alloc (.cells #[.int .i64 2] 3)).alloc (.cells #[] 3)).alloc (.cells #[.slice (some ⟨w4.heap.size + 1 + 1, 0, none⟩) 0 0, .slice (some ⟨w4.heap.size + 1 + 1 + 1, 0, none⟩) 1 1, .slice (some ⟨w4.heap.size + 1 + 1 + 1 + 1, 0, none⟩) 0 0] 41)).alloc (.cells #[.bool true, .bool false, .bool true] 4)
theorem kn_made (w4 : World) : KM w4.heap.size (w4.heap.size + 1 + 1 + 1 + 1 + 1 + 1) (knW w4) (knX w4.heap.size) la1 ∧ Below w4.heap.size w4 (knW w4) ∧ (knW w4).heap.size = w4.heap.size + 1 + 1 + 1 + 1 + 1 + 1 + 1 := by
  obtain ⟨W1, hW1⟩ : ∃ W, W = w4.alloc (.cells #[.int .u64 (wd (ofN [97]) 0), .int .u64 (wd (ofN [97]) 1), .int .u64 (wd (ofN [97]) 2), .int .u64 (wd (ofN [97]) 3), .int .u8 0, .int .u64 (wd (ofN [98]) 0), .int .u64 (wd (ofN [98]) 1), .int .u64 (wd (ofN [98]) 2), .int .u64 (wd (ofN [98]) 3), .int .u8 0, .int .u64 (wd (ofN [99]) 0), .int .u64 (wd (ofN [99]) 1), .int .u64 (wd (ofN [99]) 2), .int .u64 (wd (ofN [99]) 3), .int .u8 0] 57) := ⟨_, rfl⟩
  obtain ⟨W2, hW2⟩ : ∃ W, W = W1.alloc (.cells #[.int .i64 0, .int .i64 1] 3) := ⟨_, rfl⟩
  obtain ⟨W3, hW3⟩ : ∃ W, W = W2.alloc (.cells #[] 3) := ⟨_, rfl⟩
  obtain ⟨W4, hW4⟩ : ∃ W, W = W3.alloc (.cells #[.int .i64 2] 3) := ⟨_, rfl⟩
  obtain ⟨W5, hW5⟩ : ∃ W, W = W4.alloc (.cells #[] 3) := ⟨_, rfl⟩
  obtain ⟨W6, hW6⟩ : ∃ W, W = W5.alloc (.cells #[.slice (some ⟨w4.heap.size + 1 + 1, 0, none⟩) 0 0, .slice (some ⟨w4.heap.size + 1 + 1 + 1, 0, none⟩) 1 1, .slice (some ⟨w4.heap.size + 1 + 1 + 1 + 1, 0, none⟩) 0 0] 41) := ⟨_, rfl⟩
  obtain ⟨W7, hW7⟩ : ∃ W, W = W6.alloc (.cells #[.bool true, .bool false, .bool true] 4) := ⟨_, rfl⟩
  have b1 : Below w4.heap.size w4 W1 := by rw [hW1]; exact (Below.refl _ _).alloc (Nat.le_refl _) _
  have z1 : W1.heap.size = w4.heap.size + 1 := by rw [hW1]; simp
  have b2 : Below W1.heap.size W1 W2 := by rw [hW2]; exact (Below.refl _ _).alloc (Nat.le_refl _) _
  have z2 : W2.heap.size = w4.heap.size + 1 + 1 := by rw [hW2]; simp [z1]
  have b3 : Below W2.heap.size W2 W3 := by rw [hW3]; exact (Below.refl _ _).alloc (Nat.le_refl _) _
  have z3 : W3.heap.size = w4.heap.size + 1 + 1 + 1 := by rw [hW3]; simp [z2]
  have b4 : Below W3.heap.size W3 W4 := by rw [hW4]; exact (Below.refl _ _).alloc (Nat.le_refl _) _
  have z4 : W4.heap.size = w4.heap.size + 1 + 1 + 1 + 1 := by rw [hW4]; simp [z3]
  have b5 : Below W4.heap.size W4 W5 := by rw [hW5]; exact (Below.refl _ _).alloc (Nat.le_refl _) _
  have z5 : W5.heap.size = w4.heap.size + 1 + 1 + 1 + 1 + 1 := by rw [hW5]; simp [z4]
  have b6 : Below W5.heap.size W5 W6 := by rw [hW6]; exact (Below.refl _ _).alloc (Nat.le_refl _) _
  have z6 : W6.heap.size = w4.heap.size + 1 + 1 + 1 + 1 + 1 + 1 := by rw [hW6]; simp [z5]
  have b7 : Below W6.heap.size W6 W7 := by rw [hW7]; exact (Below.refl _ _).alloc (Nat.le_refl _) _
  have z7 : W7.heap.size = w4.heap.size + 1 + 1 + 1 + 1 + 1 + 1 + 1 := by rw [hW7]; simp [z6]
  have sp0 : W1.ownsRow w4.heap.size 57 5 (.slice (some ⟨w4.heap.size, 0, none⟩) 3 3) 3 (#[.int .u64 (wd (ofN [97]) 0), .int .u64 (wd (ofN [97]) 1), .int .u64 (wd (ofN [97]) 2), .int .u64 (wd (ofN [97]) 3), .int .u8 0, .int .u64 (wd (ofN [98]) 0), .int .u64 (wd (ofN [98]) 1), .int .u64 (wd (ofN [98]) 2), .int .u64 (wd (ofN [98]) 3), .int .u8 0, .int .u64 (wd (ofN [99]) 0), .int .u64 (wd (ofN [99]) 1), .int .u64 (wd (ofN [99]) 2), .int .u64 (wd (ofN [99]) 3), .int .u8 0] : Array Value).toList := by rw [hW1]; exact World.ownsRow_lit w4 _ 3 (by omega) (by decide) rfl
  have spH := own_stay (own_stay (own_stay (own_stay (own_stay (own_stay (sp0) b2) b3) b4) b5) b6) b7
  have fi0 : W2.ownsRow w4.heap.size 3 1 (.slice (some ⟨W1.heap.size, 0, none⟩) 2 2) 2 (#[.int .i64 0, .int .i64 1] : Array Value).toList := by rw [hW2]; exact World.ownsRow_lit W1 _ 2 (by omega) (by decide) rfl
  have fiH := own_stay (own_stay (own_stay (own_stay (own_stay (fi0) b3) b4) b5) b6) b7
  rw [z1] at fiH
  have o00 : W3.ownsRow w4.heap.size 3 1 (.slice (some ⟨W2.heap.size, 0, none⟩) 0 0) 0 (#[] : Array Value).toList := by rw [hW3]; exact World.ownsRow_lit W2 _ 0 (by omega) (by decide) rfl
  have o0H := own_stay (own_stay (own_stay (own_stay (o00) b4) b5) b6) b7
  rw [z2] at o0H
  have o10 : W4.ownsRow w4.heap.size 3 1 (.slice (some ⟨W3.heap.size, 0, none⟩) 1 1) 1 (#[.int .i64 2] : Array Value).toList := by rw [hW4]; exact World.ownsRow_lit W3 _ 1 (by omega) (by decide) rfl
  have o1H := own_stay (own_stay (own_stay (o10) b5) b6) b7
  rw [z3] at o1H
  have o20 : W5.ownsRow w4.heap.size 3 1 (.slice (some ⟨W4.heap.size, 0, none⟩) 0 0) 0 (#[] : Array Value).toList := by rw [hW5]; exact World.ownsRow_lit W4 _ 0 (by omega) (by decide) rfl
  have o2H := own_stay (own_stay (o20) b6) b7
  rw [z4] at o2H
  have fo0 : W6.ownsRow w4.heap.size 41 1 (.slice (some ⟨W5.heap.size, 0, none⟩) 3 3) 3 (#[.slice (some ⟨w4.heap.size + 1 + 1, 0, none⟩) 0 0, .slice (some ⟨w4.heap.size + 1 + 1 + 1, 0, none⟩) 1 1, .slice (some ⟨w4.heap.size + 1 + 1 + 1 + 1, 0, none⟩) 0 0] : Array Value).toList := by rw [hW6]; exact World.ownsRow_lit W5 _ 3 (by omega) (by decide) rfl
  have foH := own_stay (fo0) b7
  rw [z5] at foH
  have la0 : W7.heap[W6.heap.size]? = some (.cells #[.bool true, .bool false, .bool true] 4 (0, 0)) := by rw [hW7]; exact heap_alloc_new W6 _
  rw [z6] at la0
  have bA : Below w4.heap.size w4 W7 := b1.trans ((b2.trans ((b3.trans ((b4.trans ((b5.trans ((b6.trans (b7.mono b6.size)).mono b5.size)).mono b4.size)).mono b3.size)).mono b2.size)).mono b1.size)
  have HW : W7 = knW w4 := by rw [hW7, hW6, hW5, hW4, hW3, hW2, hW1]
  rw [← HW]
  exact ⟨⟨spH, fiH, ⟨_, rfl, foH, fun i hi => by
      have hi3 : i < 3 := hi
      have : i = 0 ∨ i = 1 ∨ i = 2 := by omega
      rcases this with rfl | rfl | rfl
      · exact o0H
      · exact o1H
      · exact o2H⟩, rfl, la0, rfl⟩, bA, z7⟩
set_option maxHeartbeats 25600000 in
set_option maxRecDepth 100000 in
theorem sknown_any (w : World) (hT : Tab w) : Calls Tryd.prog 5 #[] w fun e w' => e = .returned (.bool true) ∧ Below w.heap.size w w' := by
  have HG : Hid (0 < w.heap.size) := Lib.hid (World.block_lt_of_cell? _ _ (hT 0 (by decide)))
  have HT := Lib.hid hT
  have hz := zeroMc
  have hzd := zeroD
  clear hT
  go_enter Tryd.func5, Tryd.ntmps5
  have HO1 := Lib.hid (of_any _ [97] _ (bytes_litN w [97] (by decide) #[.int .u8 97] rfl (by decide)))
  have HA1 : Hid (Below w.heap.size w (w.alloc (.cells #[.int .u8 97] 5))) := Lib.hid ((Below.refl _ _).alloc (Nat.le_refl _) _)
  go_wp2_with fail
  refine HO1.out.mono ?_
  rintro e w2 ⟨rfl, hb2⟩
  have HB2 := Lib.hid (HA1.out.trans (hb2.mono HA1.out.size))
  clear hb2 HO1 HA1
  have HO1 := Lib.hid (of_any _ [98] _ (bytes_litN w2 [98] (by decide) #[.int .u8 98] rfl (by decide)))
  have HA1 : Hid (Below w2.heap.size w2 (w2.alloc (.cells #[.int .u8 98] 5))) := Lib.hid ((Below.refl _ _).alloc (Nat.le_refl _) _)
  go_wp2_with fail
  refine HO1.out.mono ?_
  rintro e w3 ⟨rfl, hb3⟩
  have HB3 := Lib.hid (HB2.out.trans ((HA1.out.trans (hb3.mono HA1.out.size)).mono HB2.out.size))
  clear hb3 HO1 HA1 HB2
  have HO1 := Lib.hid (of_any _ [99] _ (bytes_litN w3 [99] (by decide) #[.int .u8 99] rfl (by decide)))
  have HA1 : Hid (Below w3.heap.size w3 (w3.alloc (.cells #[.int .u8 99] 5))) := Lib.hid ((Below.refl _ _).alloc (Nat.le_refl _) _)
  go_wp2_with fail
  refine HO1.out.mono ?_
  rintro e w4 ⟨rfl, hb4⟩
  have HB4 := Lib.hid (HB3.out.trans ((HA1.out.trans (hb4.mono HA1.out.size)).mono HB3.out.size))
  clear hb4 HO1 HA1 HB3
  obtain ⟨hk, hbk, hsz⟩ := kn_made w4
  have HKM := Lib.hid hk
  have HB5 := Lib.hid (HB4.out.trans (hbk.mono HB4.out.size))
  have HMC : Hid (mc (knX w4.heap.size) (knM la1) = #[.slice (some ⟨w4.heap.size, 0, none⟩) 3 3, .slice (some ⟨w4.heap.size + 1, 0, none⟩) 2 2, .slice (some ⟨w4.heap.size + 1 + 1 + 1 + 1 + 1, 0, none⟩) 3 3, .slice (some ⟨w4.heap.size + 1 + 1 + 1 + 1 + 1 + 1, 0, none⟩) 3 3, .bool false]) := Lib.hid rfl
  have HR := Lib.hid (heap_alloc_new (knW w4) (.cells #[.slice none 0 0, .slice none 0 0, .slice none 0 0, .slice none 0 0, .bool false] 43))
  have HS := Lib.hid (World.setRow_alloc_new (knW w4) #[.slice none 0 0, .slice none 0 0, .slice none 0 0, .slice none 0 0, .bool false] (mc (knX w4.heap.size) (knM la1)) 43)
  rw [hsz] at HR HS
  have HSZ := Lib.hid hsz
  clear hk hbk hsz
  go_upto_region 2 with (refine wpList_store_row rfl 43 (.tmp 1) (.tmp 34) rfl (w4.heap.size + 1 + 1 + 1 + 1 + 1 + 1 + 1) #[.slice (some ⟨w4.heap.size, 0, none⟩) 3 3, .slice (some ⟨w4.heap.size + 1, 0, none⟩) 2 2, .slice (some ⟨w4.heap.size + 1 + 1 + 1 + 1 + 1, 0, none⟩) 3 3, .slice (some ⟨w4.heap.size + 1 + 1 + 1 + 1 + 1 + 1, 0, none⟩) 3 3, .bool false] rfl rfl 43 _ HR.out (by kernel_rfl) rfl (by simp [Value.oneCell']) ?_)
  rw [← HMC.out, HS.out]
  clear HMC HS HR
  have hput : ∀ a : Act, a.put none undef = a := fun _ => rfl
  rw [hput]
  clear hput
  have HX := Lib.hid (BoxM.new (knW w4) (knX w4.heap.size) (knM la1))
  rw [HSZ.out] at HX
  have hal := (Below.refl (knW w4).heap.size (knW w4)).alloc (Nat.le_refl _) (.cells (mc (knX w4.heap.size) (knM la1)) 43)
  have HKS : Hid (KnS w (w4.heap.size + 1 + 1 + 1 + 1 + 1 + 1 + 1) (w4.heap.size + 1 + 1 + 1 + 1 + 1 + 1) (knX w4.heap.size) la1 ((knW w4).alloc (.cells (mc (knX w4.heap.size) (knM la1)) 43))) := Lib.hid ⟨HX.out, ⟨_, HKM.out.kept hal⟩, HB5.out.trans (hal.mono HB5.out.size), HT.out, HG.out, by have := HB4.out.size; omega, by omega⟩
  clear hal HX HKM HB5 HSZ
  generalize (knW w4).alloc (.cells (mc (knX w4.heap.size) (knM la1)) 43) = w6 at *
  generalize knX w4.heap.size = x at *
  generalize w4.heap.size + 1 + 1 + 1 + 1 + 1 + 1 + 1 = s at *
  generalize w4.heap.size + 1 + 1 + 1 + 1 + 1 + 1 = gl at *
  generalize w4.heap.size + 1 + 1 + 1 + 1 + 1 = b5
  generalize w4.heap.size + 1 + 1 + 1 + 1 = b4
  generalize w4.heap.size + 1 + 1 + 1 = b3
  generalize w4.heap.size + 1 + 1 = b2
  generalize w4.heap.size + 1 = b1
  clear HB4
  have HXB : Hid (∀ W, Below w6.heap.size w6 W → BoxM W s x (knM la1) ∧ MAt W x (knM la1) ∧ Tab W ∧ 0 < W.heap.size) := Lib.hid (fun W hW => by
    have h := HKS.out.kept hW
    exact ⟨h.box, h.mat, h.tabs, Nat.lt_of_lt_of_le h.low h.bel.size⟩)
  have hfn := kn_fine la1 (by decide)
  have HFN := Lib.hid hfn
  clear hfn
  refine Rinv.region_inv4 (IB w6 x (knM la1)) 10 RKnw (by kernel_rfl) (by kernel_rfl) ?_ ?_ ?_ ?_
  · intro j hj
    have : j = 0 ∨ j = 1 ∨ j = 2 ∨ j = 3 ∨ j = 4 ∨ j = 5 ∨ j = 6 ∨ j = 7 ∨ j = 8 ∨ j = 9 := by omega
    rcases this with rfl | rfl | rfl | rfl | rfl | rfl | rfl | rfl | rfl | rfl
    iterate 9 exact .inl rfl
    exact .inr (Nat.le_of_ble_eq_true rfl)
  · intro L X hL
    exact IB.zero w6 x (knM la1) L X (fun j hj => hL j hj)
  · intro i hi L X w' hLi hdep hI K hK
    have HK := Lib.hid hK
    have HI := Lib.hid hI
    have HLI := Lib.hid hLi
    have HXW := Lib.hid (HXB.out _ hI.bel)
    have hi' : i = 0 ∨ i = 1 ∨ i = 2 ∨ i = 3 ∨ i = 4 ∨ i = 5 ∨ i = 6 ∨ i = 7 ∨ i = 8 ∨ i = 9 := by omega
    clear hK hI hLi
    rcases hi' with rfl | rfl | rfl | rfl | rfl | rfl | rfl | rfl | rfl | rfl
    · simp only [List.getD_cons_zero]
      clear hdep
      simp only [Rinv.putAll, RKnw, Act.put, List.setIfInBounds_toArray, List.set_cons_zero, List.set_cons_succ, List.set_nil]
      go_wp2_with (refine wpList_load_mach rfl _ rfl s x (knM la1) rfl HXW.out.1 ?_)
      exact HK.out _ _ (.agg (mc x (knM la1))) (by simp only [Rinv.putAll, RKnw, Act.put, List.setIfInBounds_toArray, List.set_cons_zero, List.set_cons_succ, List.set_nil]) (HI.out.s0)
    · simp only [List.getD_cons_zero, List.getD_cons_succ]
      clear hdep
      simp only [Rinv.putAll, RKnw, Act.put, List.setIfInBounds_toArray, List.set_cons_zero, List.set_cons_succ, List.set_nil]
      go_wp2_with (refine wpList_load_mach rfl _ rfl s x (knM la1) rfl HXW.out.1 ?_)
      exact HK.out _ _ (.agg (mc x (knM la1))) (by simp only [Rinv.putAll, RKnw, Act.put, List.setIfInBounds_toArray, List.set_cons_zero, List.set_cons_succ, List.set_nil]) (HI.out.s1)
    · simp only [List.getD_cons_zero, List.getD_cons_succ]
      have e1 := HI.out.b (hdep 1 (by decide) (by unfold Rinv.waits; kernel_rfl))
      have HSE := Lib.hid (nsets_any x (knM la1) w' HXW.out.2.1 HFN.out)
      clear hdep
      simp only [Rinv.putAll, RKnw, Act.put, List.setIfInBounds_toArray, List.set_cons_zero, List.set_cons_succ, List.set_nil, e1]
      go_wp2_with (go_at_call 22; refine HSE.out.mono ?_; rintro e w4 ⟨a4, c4, rfl, ho4, hb4⟩; have HO4 := Lib.hid ho4; have HB4 := Lib.hid hb4; clear ho4 hb4)
      exact HK.out _ _ (.slice a4 (stTo (knM la1) (knM la1).sp.length).length c4) (by simp only [Rinv.putAll, RKnw, Act.put, List.setIfInBounds_toArray, List.set_cons_zero, List.set_cons_succ, List.set_nil, e1]) (HI.out.s2 HLI.out HB4.out (owns_setsIn HO4.out (by have := stTo_len (knM la1) (knM la1).sp.length; have := (show (knM la1).sp.length ≤ 8 from (by decide)); unfold maxLen; omega)))
    · simp only [List.getD_cons_zero, List.getD_cons_succ]
      have h2 := hdep 2 (by decide) (by unfold Rinv.waits; kernel_rfl)
      have H2 := Lib.hid h2
      have HSI := Lib.hid (HI.out.c h2 HLI.out)
      clear h2
      generalize hv2 : X 2 = v2 at HSI
      have HRE := Lib.hid (Refine_any v2 _ w' HSI.out (by have := stTo_len (knM la1) (knM la1).sp.length; have := (show (knM la1).sp.length ≤ 8 from (by decide)); omega))
      clear hdep
      simp only [Rinv.putAll, RKnw, Act.put, List.setIfInBounds_toArray, List.set_cons_zero, List.set_cons_succ, List.set_nil, hv2]
      go_wp2_with (go_at_call 21; refine HRE.out.mono ?_; rintro e w4 ⟨rfl, hb4⟩; have HB4 := Lib.hid hb4; clear hb4)
      exact HK.out _ _ (.agg (partC (clM (knM la1)) (ncM (knM la1) : Nat))) (by simp only [Rinv.putAll, RKnw, Act.put, List.setIfInBounds_toArray, List.set_cons_zero, List.set_cons_succ, List.set_nil, hv2]) (HI.out.s3 H2.out HLI.out HB4.out)
    · simp only [List.getD_cons_zero, List.getD_cons_succ]
      have e0 := HI.out.a (hdep 0 (by decide) (by unfold Rinv.waits; kernel_rfl))
      have h3 := hdep 3 (by decide) (by unfold Rinv.waits; kernel_rfl)
      have H3 := Lib.hid h3
      have e3 := HI.out.d h3
      clear h3
      have HBU := Lib.hid (mbuild_any x (knM la1) w' HXW.out.2.1 HFN.out ((show (knM la1).sp.length ≤ 8 from (by decide))) HXW.out.2.2.1)
      clear hdep
      simp only [Rinv.putAll, RKnw, Act.put, List.setIfInBounds_toArray, List.set_cons_zero, List.set_cons_succ, List.set_nil, e0, e3]
      go_wp2_with (go_at_call 20; refine HBU.out.mono ?_; rintro e w4 ⟨z, dd, rfl, hb4, hm4, hd4, hq4⟩; have HB4 := Lib.hid hb4; have HM4 := Lib.hid hm4; have HD4 := Lib.hid hd4; have HQ4 := Lib.hid hq4; clear hb4 hm4 hd4 hq4)
      exact HK.out _ _ (.tuple #[.agg (dvC z dd), .int .i64 (erM (knM la1))]) (by simp only [Rinv.putAll, RKnw, Act.put, List.setIfInBounds_toArray, List.set_cons_zero, List.set_cons_succ, List.set_nil, e0, e3]) (HI.out.s4 H3.out HLI.out HB4.out HD4.out HM4.out HQ4.out)
    · simp only [List.getD_cons_zero, List.getD_cons_succ]
      have h4 := hdep 4 (by decide) (by unfold Rinv.waits; kernel_rfl)
      obtain ⟨z, dd, e4, -⟩ := HI.out.e h4
      have H4 := Lib.hid h4
      have E4 := Lib.hid e4
      clear h4
      clear hdep
      simp only [Rinv.putAll, RKnw, Act.put, List.setIfInBounds_toArray, List.set_cons_zero, List.set_cons_succ, List.set_nil, e4]
      go_wp2_with fail
      exact HK.out _ _ (.tuple #[.agg (dvC z dd), .int .i64 (erM (knM la1))]) (by simp only [Rinv.putAll, RKnw, Act.put, List.setIfInBounds_toArray, List.set_cons_zero, List.set_cons_succ, List.set_nil, e4]) (HI.out.s5 H4.out E4.out)
    · simp only [List.getD_cons_zero, List.getD_cons_succ]
      have h5 := hdep 5 (by decide) (by unfold Rinv.waits; kernel_rfl)
      have h4 := HI.out.c5 h5
      obtain ⟨z, dd, e4, -, -, e5, -⟩ := HI.out.e h4
      replace e5 := e5 h5
      have H4 := Lib.hid h4
      have E4 := Lib.hid e4
      clear h4 h5 e4
      clear hdep
      simp only [Rinv.putAll, RKnw, Act.put, List.setIfInBounds_toArray, List.set_cons_zero, List.set_cons_succ, List.set_nil, e5]
      go_wp2_with fail
      exact HK.out _ _ (.agg (dvC z dd)) (by simp only [Rinv.putAll, RKnw, Act.put, List.setIfInBounds_toArray, List.set_cons_zero, List.set_cons_succ, List.set_nil, e5]) (HI.out.s6 H4.out E4.out)
    · simp only [List.getD_cons_zero, List.getD_cons_succ]
      have h5 := hdep 5 (by decide) (by unfold Rinv.waits; kernel_rfl)
      have h4 := HI.out.c5 h5
      obtain ⟨z, dd, e4, -, -, e5, -⟩ := HI.out.e h4
      replace e5 := e5 h5
      have H4 := Lib.hid h4
      clear h4 h5 e4
      clear hdep
      simp only [Rinv.putAll, RKnw, Act.put, List.setIfInBounds_toArray, List.set_cons_zero, List.set_cons_succ, List.set_nil, e5]
      go_wp2_with fail
      exact HK.out _ _ (.int .i64 (erM (knM la1))) (by simp only [Rinv.putAll, RKnw, Act.put, List.setIfInBounds_toArray, List.set_cons_zero, List.set_cons_succ, List.set_nil, e5]) (HI.out.s7 H4.out)
    · simp only [List.getD_cons_zero, List.getD_cons_succ]
      have hz := zeroD
      clear hdep
      simp only [Rinv.putAll, RKnw, Act.put, List.setIfInBounds_toArray, List.set_cons_zero, List.set_cons_succ, List.set_nil]
      go_wp2_with fail
      exact HK.out _ _ (.pointer (some ⟨w'.heap.size, 0, none⟩)) (by simp only [Rinv.putAll, RKnw, Act.put, List.setIfInBounds_toArray, List.set_cons_zero, List.set_cons_succ, List.set_nil]) (HI.out.s8 HLI.out)
    · simp only [List.getD_cons_zero, List.getD_cons_succ]
      have h4 := hdep 4 (by decide) (by unfold Rinv.waits; kernel_rfl)
      have h6 := hdep 6 (by decide) (by unfold Rinv.waits; kernel_rfl)
      have h8 := hdep 8 (by decide) (by unfold Rinv.waits; kernel_rfl)
      obtain ⟨z, dd, e4, -, -, -, e6, -⟩ := HI.out.e h4
      replace e6 := e6 h6
      obtain ⟨q, e8, -, -, hr8⟩ := HI.out.f h8
      have HR8 := Lib.hid (hr8 HLI.out)
      have H4 := Lib.hid h4
      have H8 := Lib.hid h8
      have E4 := Lib.hid e4
      have E8 := Lib.hid e8
      clear h4 h6 h8 e4 hr8
      clear hdep
      simp only [Rinv.putAll, RKnw, Act.put, List.setIfInBounds_toArray, List.set_cons_zero, List.set_cons_succ, List.set_nil, e6, e8]
      go_wp2_with (refine wpList_store_row rfl 28 (.tmp 2) (.tmp 41) rfl q (dvC z dd) rfl rfl 28 _ HR8.out (sizeDf _ _ _ _) (by unfold dvC; rw [dfC_size, dfC_size]) (oneDf _ _ _ _ _ _ _ _) ?_)
      exact HK.out _ _ (undef) (by simp only [Rinv.putAll, RKnw, Act.put, List.setIfInBounds_toArray, List.set_cons_zero, List.set_cons_succ, List.set_nil, e6, e8]) (HI.out.s9 H4.out H8.out HLI.out undef E4.out E8.out)
  · intro L X w' hall hI K hK
    have HK := Lib.hid hK
    have HI := Lib.hid hI
    clear hK hI
    obtain ⟨z, dd, e4, hd, hm, e5, e6, e7, h8⟩ := HI.out.e (hall 4 (by decide))
    replace e5 := e5 (hall 5 (by decide))
    replace e6 := e6 (hall 6 (by decide))
    replace e7 := e7 (hall 7 (by decide))
    obtain ⟨q, e8, hq, hqs, -⟩ := HI.out.f (hall 8 (by decide))
    have HDD := Lib.hid hd
    have HBM := Lib.hid hm
    have HDR := Lib.hid ((h8 (hall 8 (by decide)) q e8).2 (hall 9 (by decide)))
    have HQ0 := Lib.hid hq
    have HBW := Lib.hid HI.out.bel
    have e0 := HI.out.a (hall 0 (by decide))
    have e1 := HI.out.b (hall 1 (by decide))
    have e3 := HI.out.d (hall 3 (by decide))
    clear hd hm h8 hq hqs HI hall
    simp only [List.getD_cons_zero, List.getD_cons_succ]
    simp only [Rinv.putAll, RKnw, Act.put, List.setIfInBounds_toArray, List.set_cons_zero, List.set_cons_succ, List.set_nil, e0, e1, e3, e4, e5, e6, e7, e8]
    clear e0 e1 e3 e4 e5 e6 e7 e8
    go_wp2_with fail
    refine HK.out _ _ ?_
    clear HK
    generalize X 2 = y2 at *
    clear X
    have HK1 := Lib.hid (HKS.out.kept HBW.out)
    have HBD := Lib.hid (HBM.out.yes kn_right1)
    clear HKS HXB HBM
    have her : erM (knM la1) = 0 := by unfold erM; rw [kn_right1]; rfl
    rw [her]
    clear her
    have HNO := Lib.hid (dnot_any z dd w' HDD.out HBD.out.fine HBD.out.right)
    go_upto_region 4 with (first
      | (refine wpList_load_df rfl _ rfl q z dd rfl ⟨HDR.out⟩ ?_)
      | (go_at_call 25; refine HNO.out.mono ?_; rintro e w7 ⟨zn, rfl, hon, hb7⟩; have HN7 := Lib.hid hon.at; have HB7 := Lib.hid hb7; clear hb7 hon)
      | (refine wpList_lay_dv rfl (.tmp 4) (.tmp 46) rfl zn (notD dd) rfl rfl ?_))
    have hal := (Below.refl w7.heap.size w7).alloc (Nat.le_refl _) (.cells (dvC zn (notD dd)) 28)
    have HB8 := Lib.hid (HB7.out.trans (hal.mono HB7.out.size))
    have HRN := Lib.hid (heap_alloc_new w7 (.cells (dvC zn (notD dd)) 28))
    have HN8 := Lib.hid (HN7.out.kept hal)
    obtain ⟨q2, hq2⟩ : ∃ q2, Hid (w7.heap.size = q2) := ⟨_, Lib.hid rfl⟩
    rw [hq2.out] at HRN ⊢
    clear hal HN7 HB7 HNO
    generalize w7.alloc (.cells (dvC zn (notD dd)) 28) = w8 at *
    clear hq2 w7
    have HK8 := Lib.hid (HK1.out.kept HB8.out)
    have HD8 := Lib.hid (HDD.out.kept HB8.out)
    have HR8 := Lib.hid ((HB8.out.block q (Array.getElem?_eq_some_iff.1 HDR.out).1).trans HDR.out)
    clear HK1 HDD HDR HB8 HBW
    have HWD := Lib.hid (word_any z dd w8 HD8.out HBD.out.fine (by have := HBD.out.few; omega) HK8.out.tabs)
    go_upto_region 5 with (first
      | (refine wpList_load_df rfl _ rfl q z dd rfl ⟨HR8.out⟩ ?_)
      | (go_at_call 13; refine HWD.out.mono ?_; rintro e w9 ⟨⟨t, ok, rfl, hw⟩, hb9⟩; obtain ⟨h1, h2⟩ := path_word HFN.out HBD.out kn_path1 hw; subst h1; subst h2; have HB9 := Lib.hid hb9; clear hb9 hw))
    have HK9 := Lib.hid (HK8.out.kept HB9.out)
    have HN9 := Lib.hid (HN8.out.kept HB9.out)
    have HR9 := Lib.hid ((HB9.out.block q2 (Array.getElem?_eq_some_iff.1 HRN.out).1).trans HRN.out)
    clear HK8 HN8 HRN HB9 HD8 HR8 HWD
    have HWN := Lib.hid (word_any zn (notD dd) w9 HN9.out (not_fine HBD.out.fine) (by have := HBD.out.few; show dd.R.length ≤ 1000; omega) HK9.out.tabs)
    have HTK : Hid (takesD dd [] = false) := Lib.hid ((HBD.out.takes ⟨#[]⟩).trans (by decide +kernel))
    go_upto_region 6 with (first
      | (refine wpList_load_df rfl _ rfl q2 zn (notD dd) rfl ⟨HR9.out⟩ ?_)
      | (go_at_call 13; refine HWN.out.mono ?_; rintro e w10 ⟨⟨t, ok, rfl, hw⟩, hb10⟩; obtain ⟨h1, h2⟩ := not_word HBD.out.right HTK.out hw; subst h1; subst h2; have HB10 := Lib.hid hb10; clear hb10 hw))
    have HKA := Lib.hid (HK9.out.kept HB10.out)
    clear HK9 HN9 HR9 HB10 HWN HTK
    have HP1 := Lib.hid (path_any x (knM la1) w10 HKA.out.mat HFN.out HKA.out.tabs)
    go_upto_region 7 with (first
      | (refine wpList_load_mach rfl _ rfl s x (knM la1) rfl HKA.out.box ?_)
      | (go_at_call 19; refine HP1.out.mono ?_; rintro e w11 ⟨⟨t, ok, rfl, hw⟩, hb11⟩; obtain ⟨h1, h2⟩ := PathIs.one kn_path1 hw; subst h1; subst h2; have HB11 := Lib.hid hb11; clear hb11 hw))
    have HKB := Lib.hid (HKA.out.kept HB11.out)
    clear HKA HB11 HP1
    have c1 := HKB.out.slot
    have c2 := HKB.out.cell 0 true rfl
    have c3 := HKB.out.free 0
    go_upto_region 8 with fail
    have HKC := Lib.hid (HKB.out.set 0)
    clear HKB c1 c2 c3
    generalize w11.setCell ⟨gl, 0, none⟩ (.bool false) = w12 at *
    have HP1 := Lib.hid (path_any x (knM la2) w12 HKC.out.mat (kn_fine la2 (by decide)) HKC.out.tabs)
    go_upto_region 9 with (first
      | (refine wpList_load_mach rfl _ rfl s x (knM la2) rfl HKC.out.box ?_)
      | (go_at_call 19; refine HP1.out.mono ?_; rintro e w13 ⟨⟨t, ok, rfl, hw⟩, hb13⟩; obtain ⟨h1, h2⟩ := PathIs.one kn_path2 hw; subst h1; subst h2; have HB13 := Lib.hid hb13; clear hb13 hw))
    have HKD := Lib.hid (HKC.out.kept HB13.out)
    clear HKC HB13 HP1
    have c1 := HKD.out.slot
    have c2 := HKD.out.cell 2 true rfl
    have c3 := HKD.out.free 2
    go_upto_region 10 with fail
    have HKE := Lib.hid (HKD.out.set 2)
    clear HKD c1 c2 c3
    generalize w13.setCell ⟨gl, 2, none⟩ (.bool false) = w14 at *
    have HP1 := Lib.hid (path_any x (knM la3) w14 HKE.out.mat (kn_fine la3 (by decide)) HKE.out.tabs)
    go_upto_region 11 with (first
      | (refine wpList_load_mach rfl _ rfl s x (knM la3) rfl HKE.out.box ?_)
      | (go_at_call 19; refine HP1.out.mono ?_; rintro e w15 ⟨⟨t, ok, rfl, hw⟩, hb15⟩; obtain ⟨h1, h2⟩ := PathIs.one kn_path3 hw; subst h1; subst h2; have HB15 := Lib.hid hb15; clear hb15 hw))
    have HKF := Lib.hid (HKE.out.kept HB15.out)
    clear HKE HB15 HP1
    have HKW : Hid (∀ W, Below w15.heap.size w15 W → Tab W ∧ Below w.heap.size w W) := Lib.hid (fun W hW => ⟨(HKF.out.kept hW).tabs, (HKF.out.kept hW).bel⟩)
    have HPW := Lib.hid (wr_any w15 HKF.out.tabs (Nat.lt_of_lt_of_le HG.out HKF.out.bel.size))
    clear HKF
    go_wp2_with fail
    with_reducible refine HPW.out.mono ?_
    rintro e w16 ⟨rfl, hb16⟩
    have HB16 := Lib.hid hb16
    clear hb16 HPW
    generalize w15.heap.size = g15
    have q1 : (aS.toList != [97]) = false := by decide +kernel
    have q2 : (bcS.toList != [98, 99]) = false := by decide +kernel
    go_upto_region 14 with fail
    have HL1 := Lib.hid (fun W => less_any ⟨#[97, 98]⟩ ⟨#[98]⟩ W)
    have HL2 := Lib.hid (fun W => less_any ⟨#[97, 98]⟩ ⟨#[97, 99]⟩ W)
    have HL3 := Lib.hid (fun W => less_any ⟨#[97]⟩ ⟨#[97]⟩ W)
    have HL4 := Lib.hid (fun W => less_any ⟨#[]⟩ ⟨#[97]⟩ W)
    rw [ls1] at HL1
    rw [ls2] at HL2
    rw [ls3] at HL3
    rw [ls4] at HL4
    have HEM := Lib.hid (empty_any x0 d0 w16 (d0_at w16) d0_fine (Nat.zero_le _) (HKW.out _ HB16.out).1)
    have HAW := Lib.hid (fun W (hW : Below w15.heap.size w15 W) => awake13_any W (HKW.out W hW).1)
    go_wp2_with (first
      | (go_at_call 11; with_reducible refine (HL1.out _).mono ?_; rintro e w17 ⟨rfl, rfl⟩)
      | (go_at_call 11; with_reducible refine (HL2.out _).mono ?_; rintro e w17 ⟨rfl, rfl⟩)
      | (go_at_call 11; with_reducible refine (HL3.out _).mono ?_; rintro e w17 ⟨rfl, rfl⟩)
      | (go_at_call 11; with_reducible refine (HL4.out _).mono ?_; rintro e w17 ⟨rfl, rfl⟩)
      | (refine BigFrame.wpList_want rfl (fun K' hK' => ?_); refine wp_build_z rfl ?_; refine hK' _ _ ?_; clear hK' K')
      | (go_at_call 15; with_reducible refine HEM.out.mono ?_; rintro e w17 ⟨⟨t, ok, rfl, hw⟩, hb17⟩; obtain rfl := d0_word hw; have HB17 := Lib.hid (HB16.out.trans (hb17.mono HB16.out.size)); clear hb17 hw)
      | (go_at_call 10; refine (HAW.out _ HB17.out).mono ?_; rintro e w18 ⟨rfl, hb18⟩; have HB18 := Lib.hid (HB17.out.trans (hb18.mono HB17.out.size)); clear hb18))
    go_ret
    exact ⟨rfl, (HKW.out _ HB18.out).2⟩
    all_goals first
      | exact absurd (show bcS.toList = [98, 99] by decide +kernel) (by assumption)
      | exact absurd (show aS.toList = [97] by decide +kernel) (by assumption)
  
end Sk
end Go.Proofs.YtmjjkamndlefmaaDoor
namespace Go.Proofs.YtmjjkamndlefmaaDoor
open Go.ChangeShapes Go.WideShapes Go.ChangeAt Go.WideMaps Go.WideElems Go.RowKit
open Go.ChangeMaps (open_string shut_string)
namespace LawSKnw
set_option maxRecDepth 100000 in
theorem lifted (os : Os) (started : os.Started) (H : Type) (enc : TypeId × Value → H) :
    ReturnsInHanded {} Tryd.checked os 5 .any (fun w args => (Rows.seekKnownSpec.pre enc Tryd.prog Tryd.f5 [] false w args ∧ laidMetH Tryd.prog laidT w) ∧ sizedMet enc Tryd.prog Tryd.f5 (OpenSpec.ofChange Rows.seekKnownSpec) false w args)
      (Rows.seekKnownSpec.post enc Tryd.prog Tryd.f5 false true false false) := by
  refine returnsInHanded_of_change_and (C := Tryd.checked) (X := fun w _ => laidMetH Tryd.prog laidT w) (fun _ _ _ hh h => h.of_heap hh) own started (by kernel_rfl) Tryd.func5
    (ChangeSpec.witness_shaped (enc := enc) (C := Tryd.checked) (os := os) (X := fun w _ => laidMetH Tryd.prog laidT w) false (World.laidAll Tryd.prog os laidT) #[] 8 (World.laidAll_os _ _ _) (World.shaped_of_ZipB (by kernel_rfl) (by kernel_rfl)) (by kernel_rfl) (by kernel_rfl) (by kernel_rfl)
      (by rw [MakeChecks.laidMetH_plain _ _ _ (by kernel_rfl)]; exact laidMet_laidAll _ (by kernel_rfl) (by kernel_rfl))) ?_
  intro W base args ds gs before hval0 hW _ _ hL _
  have hval : ∀ (j : Nat) t v, Tryd.f5.params[j]? = some t → args[j]? = some v → Value.okWide Tryd.prog W .any base t v := hval0
  have hW' := hW
  obtain ⟨p, q, hA0, hV, rfl, hfz, hnd⟩ := hW
  have hA : DataW.TrodAll enc Tryd.prog W 0 (fun _ => true) true Tryd.f5.params.toList args.toList ds p := hA0
  rw [Tryd.params5] at hA hval
  obtain ⟨rfl, rfl, rfl⟩ := trodAll_none hA
  obtain ⟨rfl, rfl⟩ := trodVars_none hV
  have hT := of_laid hL
  refine (Sk.sknown_any W hT).mono fun e W' ⟨he, hb⟩ => ?_
  subst he
  exact ⟨_, rfl, post_law hW' rfl laidOut (by kernel_rfl) (by kernel_rfl) Tryd.underlying4 rfl hb⟩
theorem law_holds : Rows.SeekKnownSaid :=
  OpenClaim.holds_of_wide 5 Tryd.f5 rfl rfl rfl rfl rfl rfl rfl ⟨rfl, rfl, rfl, rfl, rfl⟩ rfl rfl rfl rfl rfl (by kernel_rfl) Tryd.func5 (by kernel_rfl)
    (of_decide_eq_true (by kernel_rfl)) (by unfold Func.isWrapper; first | (rw [if_pos (by decide +kernel)]; kernel_rfl) | (rw [if_neg (by decide +kernel)]; exact ⟨rfl, rfl⟩))
    (fun os started H enc _ => lifted os started H enc)
theorem card_holds : Rows.SeekKnownCardSaid :=
  Claim7.holds_tied_plain_at .later [] [.data] true (true, "5ae6efb057a676888604708a25ee45a9dc5ee2ee62c2315df0fcae417ffdc528") false
    law_holds (fun _ h => by cases h) (by kernel_rfl) (fun _ h => by cases h) seekKnown_row_tie rfl ⟨rfl, rfl⟩ (by kernel_rfl) rfl
    (fun f fn hf hfn => by
      obtain rfl : f = 5 := Option.some.inj ((show Tryd.prog.funcNamed "shibboleth/shibbolethlaw13.SeekKnown" = some 5 by kernel_rfl).symm.trans hf) |>.symm
      obtain rfl : fn = Tryd.f5 := (Option.some.inj (Tryd.func5.symm.trans hfn)).symm
      exact ⟨by kernel_rfl, fun j t ht => by
        have hm := Array.mem_of_getElem? ht
        have hall : ((Tryd.f5.params).all fun u => !Tryd.prog.wantsStandIn u) = true := by kernel_rfl
        show Tryd.prog.wantsStandIn t = false
        simpa using Array.all_eq_true_iff_forall_mem.1 hall t hm⟩)
    (by kernel_rfl)
#print axioms card_holds
end LawSKnw
end Go.Proofs.YtmjjkamndlefmaaDoor
