/- Several texts in one. -/
import Derived.Test.YtmjjkamndlefmaaDoorPq18
import Derived.Test.YtmjjkamndlefmaaDoorPq04
import Derived.Test.YtmjjkamndlefmaaDoorPq14
namespace Go.Proofs.YtmjjkamndlefmaaDoor
open Go.RowKit Sets Cls
theorem BytesAt.nil (w : World) : BytesAt w (.slice none 0 0) [] := ⟨by simp, by simp, none, 0, rfl, by simp⟩
theorem BytesAt.take {w : World} {a : Option Addr} {n cap : Nat} {l : List Nat} (h : BytesAt w (.slice a n cap) l) (m : Nat) (hm : m ≤ n) : BytesAt w (.slice a m cap) (l.take m) := by
  obtain ⟨hl, hmx, a', cap', he, hc⟩ := h
  injection he with h1 h2 h3
  subst h1 h2
  have hlen : (l.take m).length = m := by simp; omega
  refine ⟨fun x hx => hl x (List.mem_of_mem_take hx), by omega, a, cap, by rw [hlen], fun i hi => ?_⟩
  rw [hlen] at hi
  obtain ⟨b, o, rfl, hq⟩ := hc i (by omega)
  refine ⟨b, o, rfl, ?_⟩
  rw [List.getD_eq_getElem?_getD, List.getElem?_take_of_lt hi, ← List.getD_eq_getElem?_getD]
  exact hq
/-- Block g is a row of slices of bytes. -/
def BytesRow (w : World) (g : Nat) (Ls : List (List Nat)) : Prop :=
  ∃ vs : List Value, w.heap[g]? = some (.cells vs.toArray 35 (0, 0)) ∧ vs.length = Ls.length ∧ ∀ i, i < Ls.length → BytesAt w (vs.getD i undef) (Ls.getD i [])
theorem BytesRow.lt {w : World} {g : Nat} {Ls : List (List Nat)} (h : BytesRow w g Ls) : g < w.heap.size := by
  obtain ⟨vs, h, -⟩ := h; exact (Array.getElem?_eq_some_iff.1 h).1
theorem BytesRow.kept {w w' : World} {g : Nat} {Ls : List (List Nat)} (h : BytesRow w g Ls) (hb : Below w.heap.size w w') : BytesRow w' g Ls := by
  have hl := h.lt
  obtain ⟨vs, h1, h2, h3⟩ := h
  exact ⟨vs, by rw [hb.block _ hl]; exact h1, h2, fun i hi => (h3 i hi).kept hb⟩
theorem BytesRow.at {w : World} {g : Nat} {Ls : List (List Nat)} (h : BytesRow w g Ls) (i : Nat) (hi : i < Ls.length) : ∃ v, w.cell? ⟨g, i, none⟩ = some v ∧ BytesAt w v (Ls.getD i []) := by
  obtain ⟨vs, h1, h2, h3⟩ := h
  refine ⟨vs.getD i undef, ?_, h3 i hi⟩
  rw [cell_of_row w g _ _ _ _ h1, List.getElem?_toArray, List.getElem?_eq_getElem (by omega), List.getD_eq_getElem?_getD, List.getElem?_eq_getElem (by omega)]
  rfl
theorem BytesRow.free {w : World} {g : Nat} {Ls : List (List Nat)} (h : BytesRow w g Ls) (j : Nat) : w.frozen? ⟨g, j, none⟩ = false := by
  obtain ⟨vs, h1, -⟩ := h; exact frozen_of_row w g j _ _ h1
/-- Bytes that do not lie in block g. -/
theorem bytes_setCell {w : World} {g i : Nat} {u v : Value} {l : List Nat} {vs : List Value} (hg : w.heap[g]? = some (.cells vs.toArray 35 (0, 0))) (hvs : ∀ x ∈ vs, ∃ a n c, x = .slice a n c) (h : BytesAt w v l) : BytesAt (w.setCell ⟨g, i, none⟩ u) v l := by
  obtain ⟨hl, hm, a, cap, rfl, hc⟩ := h
  refine ⟨hl, hm, a, cap, rfl, fun j hj => ?_⟩
  obtain ⟨b, o, rfl, hq⟩ := hc j hj
  refine ⟨b, o, rfl, ?_⟩
  have hbg : b ≠ g := by
    rintro rfl
    rw [cell_of_row w b _ _ _ _ hg, List.getElem?_toArray] at hq
    obtain ⟨x, n, c, e⟩ := hvs _ (List.mem_of_getElem? hq)
    cases e
  unfold World.cell?
  rw [heap_setCell_other _ _ _ _ hbg]
  exact hq
theorem bytes_slice {w : World} {v : Value} {l : List Nat} (h : BytesAt w v l) : ∃ a n c, v = .slice a n c := by
  obtain ⟨-, -, a, c, h, -⟩ := h; exact ⟨a, _, c, h⟩
theorem BytesRow.set {w : World} {g : Nat} {Ls : List (List Nat)} (h : BytesRow w g Ls) (i : Nat) (v : Value) (l : List Nat) (hv : BytesAt w v l) : BytesRow (w.setCell ⟨g, i, none⟩ v) g (Ls.set i l) := by
  obtain ⟨vs, h1, h2, h3⟩ := h
  have hvs : ∀ x ∈ vs, ∃ a n c, x = .slice a n c := by
    intro x hx
    obtain ⟨j, hj, rfl⟩ := List.mem_iff_getElem.1 hx
    have := bytes_slice (h3 j (by omega))
    rw [List.getD_eq_getElem?_getD, List.getElem?_eq_getElem hj] at this
    exact this
  refine ⟨vs.set i v, ?_, by simp [h2], fun j hj => ?_⟩
  · have := heap_setCell_same w g i _ _ v h1
    rw [this, List.setIfInBounds_toArray]
  · rw [List.length_set] at hj
    refine bytes_setCell h1 hvs ?_
    by_cases e : i = j
    · subst e
      rw [List.getD_eq_getElem?_getD, List.getElem?_set_self (by omega), List.getD_eq_getElem?_getD, List.getElem?_set_self (by omega)]
      exact hv
    · rw [List.getD_eq_getElem?_getD, List.getElem?_set_ne e, List.getD_eq_getElem?_getD, List.getElem?_set_ne e, ← List.getD_eq_getElem?_getD, ← List.getD_eq_getElem?_getD]
      exact h3 j hj
theorem len_bytes (a : Option Addr) (len cap : Nat) (w : World) : (Builtin.len_ #[35] 3 #[.slice a len cap]).run Tryd.prog w = .ok (.int .i64 len) w := by go_simp
theorem infoR : (Tryd.prog.info? 35).map (fun i => (i.zero, i.size, i.bytes)) = some (some (.slice none 0 0), 1, 24) := by kernel_rfl
theorem made_bytes {w w' : World} {B n : Nat} (h : w'.ownsRow B 35 1 (.slice (some ⟨w.heap.size, 0, none⟩) n n) n (madeCells #[Value.slice none 0 0] n).toList) :
    BytesRow w' w.heap.size (List.replicate n []) := by
  have key : (madeCells #[Value.slice none 0 0] n).toList = List.replicate n (Value.slice none 0 0) := by
    apply List.ext_getElem
    · simp [size_madeCells]
    · intro j h1 h2
      simp [madeCells, Nat.mod_one]
  obtain ⟨h1, h2⟩ := h
  rcases h2 with ⟨h2, -⟩ | ⟨g, cap, cur, h2, -, hg, -, -, hs, ht⟩
  · cases h2
  · injection h2 with h2 h3 h4
    injection h2 with h2
    injection h2 with h2 _ _
    subst h2 h4
    rw [key] at ht
    rw [List.take_of_length_le (by rw [Array.length_toList, hs]; exact Nat.le_refl _)] at ht
    refine ⟨List.replicate n (.slice none 0 0), by rw [hg, ← ht], by simp, fun i hi => ?_⟩
    rw [List.length_replicate] at hi
    rw [List.getD_eq_getElem?_getD, List.getElem?_replicate, if_pos hi, List.getD_eq_getElem?_getD, List.getElem?_replicate, if_pos hi]
    exact BytesAt.nil _
/-- The least k of each class, of the first i classes. -/
def leastN (of : Nat → Nat) (n : Nat) (k : Int) (i : Nat) : List (List Nat) := (List.range n).map fun j => if j < i then (listN (clsSet of 256 j)).take k.toNat else []
theorem leastN_length (of : Nat → Nat) (n : Nat) (k : Int) (i : Nat) : (leastN of n k i).length = n := by simp [leastN]
theorem leastN_zero (of : Nat → Nat) (n : Nat) (k : Int) : leastN of n k 0 = List.replicate n [] := by unfold leastN; simp [List.map_const']
theorem leastN_succ (of : Nat → Nat) (n : Nat) (k : Int) (i : Nat) : leastN of n k (i + 1) = (leastN of n k i).set i ((listN (clsSet of 256 i)).take k.toNat) := by
  unfold leastN
  apply List.ext_getElem
  · simp
  · intro j h1 h2
    rw [List.getElem_set]
    simp only [List.getElem_map, List.getElem_range]
    by_cases e : i = j
    · subst e; simp
    · rw [if_neg e]
      by_cases e2 : j < i
      · rw [if_pos e2, if_pos (by omega)]
      · rw [if_neg e2, if_neg (by omega)]
theorem leastN_all (of : Nat → Nat) (n : Nat) (k : Int) : leastN of n k n = (List.range n).map fun j => (listN (clsSet of 256 j)).take k.toNat := by
  unfold leastN
  apply List.map_congr_left
  intro j hj
  rw [if_pos (by simpa using hj)]
set_option maxHeartbeats 3200000 in
set_option maxRecDepth 100000 in
theorem least_any (of : Nat → Nat) (n : Nat) (k : Int) (w : World) (hn : n ≤ 256) (hof : ∀ c, c < 256 → of c < n) (hr : prightB of n = true) (hT : Tab w) (hg : 0 < w.heap.size) :
    Calls Tryd.prog 30 #[.agg (partC of n), .int .i64 k] w fun e w' =>
      ∃ g, e = .returned (.slice (some ⟨g, 0, none⟩) n n) ∧ w.heap.size ≤ g ∧ BytesRow w' g ((List.range n).map fun j => (listN (clsSet of 256 j)).take k.toNat) ∧ Below w.heap.size w w' := by
  have hP : PartAt (w.alloc (.cells (partC of n) 24)) w.heap.size of n := PartAt.new w of n
  have hB : Below w.heap.size w (w.alloc (.cells (partC of n) 24)) := (Below.refl _ _).alloc (Nat.le_refl _) _
  have hsz : w.heap.size < (w.alloc (.cells (partC of n) 24)).heap.size := hP.lt
  obtain ⟨i0, hi, hz0, hz1, hz2⟩ := info_parts infoR
  go_enter Tryd.func30, Tryd.ntmps30
  go_wp2_with (refine wpList_load_row rfl 24 (.tmp 2) rfl w.heap.size rfl 24 (partC of n) (0, 0) _ hP Tryd.underlying24 rfl (sizeP of n) ?_)
  refine (sets_any of n _ hn hof hr).mono ?_
  rintro e w1 ⟨g, rfl, hgw, hS, hb⟩
  have hB1 : Below w.heap.size w w1 := hB.trans (hb.mono (by omega))
  have hgl := hS.lt
  have hgw' : w.heap.size < g := by omega
  clear hP hB hb hr hsz
  go_wp2_with (at_make; refine wpList_make_full _ rfl _ _ 63 rfl w1.heap.size 35 i0 _ 1 Tryd.underlying63 hi hz0 hz1 .i64 .i64 n n n rfl rfl rfl rfl (by rw [hz2]; omega) (by unfold maxLen; omega) (Nat.le_refl _) ?_)
  intro w2 hown hgr
  have hL2 := made_bytes hown
  have hb2 : Below w1.heap.size w1 w2 := (Below.refl _ _).grown hgr (Nat.le_refl _) (by simp)
  have hS2 := hS.kept hb2 hgl
  have hB2 : Below w.heap.size w w2 := hB1.trans (hb2.mono hB1.size)
  rw [← leastN_zero of n k] at hL2
  clear hown hgr hb2 hS hB1 hof hi hz0 hz1 hz2 i0
  go_wp2
  generalize w1.heap.size = q at *
  go_loopw [17] (fun i wr => ∃ j : Nat, i = .int .i64 j ∧ j ≤ n ∧ SetsRow wr g (clsSets of n 256) ∧ BytesRow wr q (leastN of n k j) ∧ Below w.heap.size w wr) (fun i _ => (n - intOf i).toNat)
  case atStart => exact ⟨0, rfl, by omega, hS2, hL2, hB2⟩
  case round =>
    obtain ⟨j, rfl, hj, hS, hL, hB⟩ := hrel
    have hgl2 := hS.lt
    have hql := hL.lt
    by_cases hlt : j < n
    · have hcl := clsSets_length of n 256
      have hc0 := hS.cell j 0 (by omega) (by omega)
      have hc1 := hS.cell j 1 (by omega) (by omega)
      have hc2 := hS.cell j 2 (by omega) (by omega)
      have hc3 := hS.cell j 3 (by omega) (by omega)
      rw [clsSets_get of n 256 _ hlt] at hc0 hc1 hc2 hc3
      rw [Nat.add_zero] at hc0
      have HL := Lib.hid (listN_len (clsSet of 256 j))
      have HS := Lib.hid (leastN_succ of n k j)
      clear hcl
      have HT := Lib.hid ((hT.below hB hg).below ((Below.refl _ _).alloc (Nat.le_refl _) (.cells #[.int .u64 (wd (clsSet of 256 j) 0), .int .u64 (wd (clsSet of 256 j) 1), .int .u64 (wd (clsSet of 256 j) 2), .int .u64 (wd (clsSet of 256 j) 3)] 54)) (by have := hB.size; omega))
      go_wp2_with (go_at_call 56; refine (list_any (clsSet of 256 j) _ HT.out (by simp)).mono ?_; rintro e w3 ⟨v, rfl, hown, hb3⟩)
      have hby : BytesAt w3 v (listN (clsSet of 256 j)) := owns_bytes hown (fun x hx => ((mem_listN _ _).1 hx).1) (by have := HL.out; unfold maxLen; omega)
      obtain ⟨a, len, cap, rfl, hlen, hcap⟩ : ∃ a len cap, v = .slice a len cap ∧ len = (listN (clsSet of 256 j)).length ∧ len ≤ cap := by
        rcases hown.2 with ⟨h1, h2⟩ | ⟨gg, cap, cur, h1, -, -, h2, -⟩
        · exact ⟨none, 0, 0, h1, h2.symm, Nat.le_refl _⟩
        · exact ⟨_, _, cap, h1, rfl, h2⟩
      have hB3 : Below w.heap.size w w3 := (hB.alloc hB.size _).trans (hb3.mono (by have := hB.size; simp; omega))
      have hbr : Below wr.heap.size wr w3 := ((Below.refl _ _).alloc (Nat.le_refl _) _).trans (hb3.mono (by simp))
      have hS3 := hS.kept hbr hgl2
      have hL3 := hL.kept hbr
      obtain ⟨m, hm, hmk⟩ : ∃ m : Nat, m ≤ len ∧ (listN (clsSet of 256 j)).take k.toNat = (listN (clsSet of 256 j)).take m ∧ ((if k < (len : Int) then k else (len : Int)) < 0 ∧ m = 0 ∨ (0 ≤ (if k < (len : Int) then k else (len : Int)) ∧ (if k < (len : Int) then k else (len : Int)) = m)) := by
        by_cases h1 : k < (len : Int)
        · rw [if_pos h1]
          by_cases h2 : k < 0
          · exact ⟨0, by omega, by rw [show k.toNat = 0 from by omega], .inl ⟨h2, rfl⟩⟩
          · exact ⟨k.toNat, by omega, rfl, .inr ⟨by omega, by omega⟩⟩
        · rw [if_neg h1]
          exact ⟨len, Nat.le_refl _, by rw [List.take_of_length_le (by omega), List.take_of_length_le (by omega)], .inr ⟨by omega, rfl⟩⟩
      have hl0 := hby.2.1
      rw [← hlen] at hl0
      unfold maxLen at hl0
      have Hln := Lib.hid hlen
      obtain ⟨hmk1, hmk2⟩ := hmk
      have Hmk := Lib.hid hmk1
      have Hown := Lib.hid hown
      have Hby := Lib.hid hby
      clear hlen hmk1 hown hby hb3 hc0 hc1 hc2 hc3
      have fr := hL3.free j
      obtain ⟨vj, hvj, -⟩ := hL3.at j (by rw [leastN_length]; exact hlt)
      have hmc : (m : Int) ≤ (cap : Int) := by omega
      have h0j : 0 ≤ (j : Int) := by omega
      have hjn : (j : Int) < (n : Int) := by omega
      have hlr := len_bytes a len cap
      have hfin : ∀ u : Value, u = .slice a m cap → SetsRow (w3.setCell ⟨q, j, none⟩ u) g (clsSets of n 256) ∧ BytesRow (w3.setCell ⟨q, j, none⟩ u) q (leastN of n k (j + 1)) ∧ Below w.heap.size w (w3.setCell ⟨q, j, none⟩ u) := by
        rintro u rfl
        refine ⟨?_, ?_, hB3.setCell (p := ⟨q, j, none⟩) (by simp; omega) _⟩
        · unfold SetsRow at *; rw [heap_setCell_other _ _ _ _ (by simp; omega)]; exact hS3
        · rw [HS.out, Hmk.out]; exact hL3.set j _ _ (Hby.out.take m hm)
      have HF := Lib.hid hfin
      clear hfin
      rcases hmk2 with ⟨h1, rfl⟩ | ⟨h1, h2⟩
      · by_cases hk : k < (len : Int)
        · rw [if_pos hk] at h1
          go_wp2
          go_simp
          go_wp2
          obtain ⟨r1, r2, r3⟩ := HF.out _ rfl
          exact ⟨⟨j + 1, by go_num, by omega, r1, r2, r3⟩, by simp [intOf]; omega⟩
        · rw [if_neg hk] at h1
          omega
      · by_cases hk : k < (len : Int)
        · rw [if_pos hk] at h1 h2
          subst h2
          go_wp2
          go_simp
          go_wp2
          rw [show (if 0 < m then (m : Int) else 0).toNat = m from by split <;> omega]
          obtain ⟨r1, r2, r3⟩ := HF.out _ rfl
          exact ⟨⟨j + 1, by go_num, by omega, r1, r2, r3⟩, by simp [intOf]; omega⟩
        · rw [if_neg hk] at h1 h2
          have : m = len := by omega
          subst this
          clear h2
          go_wp2
          go_simp
          go_wp2
          have hif : (if (m : Int) < k then (m : Int) else k) = m := by split <;> omega
          simp only [hif]
          rw [show (if (0 : Int) < (m : Int) then (m : Int) else 0).toNat = m from by split <;> omega]
          obtain ⟨r1, r2, r3⟩ := HF.out _ rfl
          exact ⟨⟨j + 1, by go_num, by omega, r1, r2, r3⟩, by simp [intOf]; omega⟩
    · have : j = n := by omega
      subst this
      rw [leastN_all] at hL
      go_wp2
      go_ret
      exact ⟨q, rfl, by omega, hL, hB⟩
end Go.Proofs.YtmjjkamndlefmaaDoor
namespace Go.Proofs.YtmjjkamndlefmaaDoor
open Go.RowKit Sets Nf
namespace Df
theorem bytes_one (w : World) (c : Nat) (hc : c < 256) : BytesAt (w.alloc (.cells #[.int .u8 c] 5)) (.slice (some ⟨w.heap.size, 0, none⟩) 1 1) [c] := by
  refine ⟨by simp [hc], by simp [maxLen], _, 1, rfl, fun i hi => ?_⟩
  have : i = 0 := by simpa using hi
  subst this
  exact ⟨w.heap.size, 0, rfl, by simp⟩
theorem u8_wrap (k : Nat) (h : k < 256) : IntKind.u8.wrap (k : Int) = k := by
  have : (k : Int) < 256 := by omega
  simp [IntKind.wrap, IntKind.bits, IntKind.signed]
  omega
set_option maxHeartbeats 3200000 in
set_option maxRecDepth 100000 in
theorem with_any (S k : Nat) (w : World) (hk : k < 256) :
    Calls Tryd.prog 65 #[.agg (setC S), .int .i64 k] w fun e w' => e = .returned (.agg (setC (S ||| 2 ^ k))) ∧ Below w.heap.size w w' := by
  have HK := Lib.hid hk
  have hwr := u8_wrap k hk
  clear hk
  go_enter Tryd.func65, Tryd.ntmps65
  go_upto_region 1 with fail
  rw [zeroC]
  have HS0 := Lib.hid ((SetB.new w S).stay ((Below.refl _ _).alloc (Nat.le_refl _) (.cells (setC 0) 54)))
  have HS1 : Hid (SetB ((w.alloc (.cells (setC S) 54)).alloc (.cells (setC 0) 54)) (w.heap.size + 1) 0) := Lib.hid (by have := SetB.new (w.alloc (.cells (setC S) 54)) 0; simpa using this)
  have HB1 : Hid (Below w.heap.size w ((w.alloc (.cells (setC S) 54)).alloc (.cells (setC 0) 54))) := Lib.hid (((Below.refl _ _).alloc (Nat.le_refl _) _).alloc (by simp) _)
  generalize (w.alloc (.cells (setC S) 54)).alloc (.cells (setC 0) 54) = w1 at *
  obtain ⟨s, hs⟩ : ∃ s, Hid (w.heap.size = s) := ⟨_, Lib.hid rfl⟩
  rw [hs.out] at HS0 HS1 HB1 ⊢
  have HL0 := Lib.hid HS0.out.lt
  have HL1 := Lib.hid HS1.out.lt
  refine region_mix [(false, 0), (false, 1), (false, 2), (true, 3), (true, 4), (true, 5)] (fun w' => Below w1.heap.size w1 w') (by kernel_rfl) (by kernel_rfl) ((Below.refl _ _).drew) ?_
  simp only [planOps, List.map_cons, List.map_nil, List.getD_cons_zero, List.getD_cons_succ, List.length_cons, List.length_nil, List.drop_succ_cons, List.drop_zero]
  refine mix_seg (seg := [_, _, _]) rfl ((Below.refl _ _).drew) ?_
  intro ι hι F2 hF
  have f1 := Lib.hid (fun n => HS0.out.kept (hF n) HL0.out)
  refine BigFrame.wpQuiet_want rfl (fun K hK => ?_); refine quiet_load_set _ rfl s S rfl (fun w' ⟨n, e⟩ => e ▸ f1.out n) ?_; refine hK _ ?_; clear hK K; simp only [Act.put, List.setIfInBounds_toArray, List.set_cons_zero, List.set_cons_succ]
  iterate 2 (go_big_quiet_step (fail))
  refine wpQuiet_nil ?_
  clear f1 hF hι F2
  have HBD : Hid (Below w1.heap.size w1 w1.drew) := Lib.hid ((Below.refl _ _).drew)
  refine mix_eff (fun K hK => ?_)
  go_wp2_with fail
  have HB2 := Lib.hid (HBD.out.alloc (Nat.le_refl _) (.cells #[.int .u8 k] 5))
  refine mix_on hK HB2.out ?_
  clear hK K
  have HO := Lib.hid (of_any _ [k] _ (bytes_one w1.drew k HK.out))
  rw [setsL_one] at HO
  refine mix_eff (fun K hK => ?_)
  go_wp2_with (go_at_call 24; refine HO.out.mono ?_; rintro e w8 ⟨rfl, hb8⟩; have HB8 := Lib.hid (HB2.out.trans (hb8.mono HB2.out.size)); clear hb8)
  refine mix_on hK HB8.out ?_
  clear hK K
  have HA1 := Lib.hid (or_any S (2 ^ k) w8)
  refine mix_eff (fun K hK => ?_)
  go_wp2_with (go_at_call 72; refine HA1.out.mono ?_; rintro e w9 ⟨rfl, hb9⟩; have HB9 := Lib.hid (HB8.out.trans (hb9.mono HB8.out.size)); clear hb9)
  refine mix_on hK HB9.out ?_
  clear hK K
  refine mix_seg (seg := []) (rest := []) rfl HB9.out ?_
  intro ι hι F hF
  refine wpQuiet_nil ?_
  clear hF hι F
  show wpList _ _ _ _ _ _
  have HS9 := Lib.hid (HS1.out.kept HB9.out HL1.out)
  go_wp2_with (refine wpList_store_set rfl (.tmp 4) (.tmp 10) rfl (s + 1) 0 (S ||| 2 ^ k) rfl rfl HS9.out ?_)
  refine NoPanic.normal ?_
  go_wp2_with fail
  refine bodyPost_ret (v := .agg (setC (S ||| 2 ^ k))) (results_cell_row (p := 4) Tryd.results65 _ _ (s + 1) 54 _ (0, 0) _ rfl (HS9.out.put _).row Tryd.underlying54 rfl (sizeSet _)) rfl ⟨rfl, ?_⟩
  rw [hs.out]
  exact But.below (HB1.out.trans (HB9.out.mono (by have := HL0.out; omega))) (But.setRow _ _ _) (by omega) (by have h1 := HL0.out; have h2 := HB9.out.size; omega)
set_option maxHeartbeats 3200000 in
set_option maxRecDepth 100000 in
theorem dgroup_any (a : Option Addr) (cap : Nat) (l : List Int) (w : World) (h : NumsIn w a l) (hl : l.length ≤ 1000) (hn : ∀ k ∈ l, 0 ≤ k ∧ k < 256) :
    Calls Tryd.prog 63 #[.slice a l.length cap] w fun e w' => e = .returned (.agg (setC (grp l))) ∧ Below w.heap.size w w' := by
  have HN := Lib.hid h
  have HL := Lib.hid hl
  have HK := Lib.hid hn
  clear h hl hn
  go_enter Tryd.func63, Tryd.ntmps63
  go_upto_region 2 with fail
  rw [zeroC]
  have hB0 : SetB ((w.alloc (.cells (setC 0) 54)).alloc (.cells (setC 0) 54)) w.heap.size 0 := (SetB.new w 0).stay ((Below.refl _ _).alloc (Nat.le_refl _) _)
  have hB1 : SetB ((w.alloc (.cells (setC 0) 54)).alloc (.cells (setC 0) 54)) (w.heap.size + 1) 0 := by have := SetB.new (w.alloc (.cells (setC 0) 54)) 0; simpa using this
  have hbl : Below w.heap.size w ((w.alloc (.cells (setC 0) 54)).alloc (.cells (setC 0) 54)) := ((Below.refl _ _).alloc (Nat.le_refl _) _).alloc (by simp) _
  have HB0 := Lib.hid hB0
  have HB1 := Lib.hid hB1
  have HBL := Lib.hid hbl
  clear hB0 hB1 hbl
  generalize (w.alloc (.cells (setC 0) 54)).alloc (.cells (setC 0) 54) = w1 at *
  go_wp2_with fail
  go_loopw [8] (fun i wr => ∃ j : Nat, i = .int .i64 j ∧ j ≤ l.length ∧ Hid (SetB wr (w.heap.size + 1) (grp (l.take j))) ∧ Hid (SetB wr w.heap.size 0) ∧ Hid (Below w.heap.size w wr)) (fun i _ => ((l.length : Int) - intOf i).toNat)
  case atStart => exact ⟨0, rfl, Nat.zero_le _, HB1, HB0, HBL⟩
  case round =>
    obtain ⟨j, rfl, hj, HS, HZ, HB⟩ := hrel
    generalize hwr : wr = w2 at *
    clear hwr wr HB0 HB1 HBL w1
    have HN2 := Lib.hid (HN.out.kept HB.out)
    by_cases hlt : j < l.length
    · have hdd : decide ((j : Int) < (l.length : Int)) = true := decide_eq_true (by omega)
      have hd2 : decide (j < l.length) = true := decide_eq_true hlt
      obtain ⟨b, o, rfl, hc⟩ := HN2.out j hlt
      have HX := Lib.hid (HK.out _ (getD_mem (d := 0) hlt))
      have HT : Hid (grp (l.take (j + 1)) = grp (l.take j) ||| 2 ^ (l.getD j 0).toNat) := Lib.hid (by
        unfold grp
        rw [List.take_succ_eq_append_getElem hlt, List.map_append, List.map_cons, List.map_nil, ofN_snoc, List.getD_eq_getElem?_getD, List.getElem?_eq_getElem hlt]; rfl)
      have HW1 : Hid (wrap64 ((j : Int) + 1) = ((j + 1 : Nat) : Int)) := Lib.hid (nat_wrap (by have := HL.out; omega))
      generalize l.getD j 0 = k at *
      obtain ⟨n, rfl⟩ := Int.eq_ofNat_of_zero_le HX.out.1
      have HA := Lib.hid (with_any (grp (l.take j)) n w2 (by have := HX.out; omega))
      rw [show ((n : Int)).toNat = n from by omega] at HT
      go_wp2_with (first
        | (refine wpList_load_set rfl (.tmp 3) rfl (w.heap.size + 1) (grp (l.take j)) rfl HS.out ?_)
        | (go_at_call 65; refine HA.out.mono ?_; rintro e w3 ⟨rfl, hb3⟩; have HS3 := Lib.hid (HS.out.stay hb3); have HZ3 := Lib.hid (HZ.out.stay hb3); have HB3 := Lib.hid (HB.out.trans (hb3.mono HB.out.size)); clear hb3)
        | (refine wpList_store_set rfl (.tmp 3) (.tmp 14) rfl (w.heap.size + 1) (grp (l.take j)) (grp (l.take j) ||| 2 ^ n) rfl rfl HS3.out ?_))
      go_roundw
      case rel =>
        exact ⟨j + 1, by rw [HW1.out], hlt, Lib.hid (by rw [HT.out]; exact HS3.out.put _), Lib.hid (HZ3.out.but (But.setRow _ _ _) (by omega)), Lib.hid (But.below HB3.out (But.setRow _ _ _) (by omega) HB3.out.size)⟩
      case measure => rw [HW1.out]; exact meas9 hlt
    · have hdd : decide ((j : Int) < (l.length : Int)) = false := decide_eq_false (by omega)
      have hd2 : decide (j < l.length) = false := decide_eq_false hlt
      have HT : Hid (l.take j = l) := Lib.hid (List.take_of_length_le (by omega))
      rw [HT.out] at HS
      go_wp2_with (first
        | (refine wpList_load_set rfl (.tmp 3) rfl (w.heap.size + 1) (grp l) rfl HS.out ?_)
        | (refine wpList_store_set rfl (.tmp 2) (.tmp 16) rfl w.heap.size 0 (grp l) rfl rfl HZ.out ?_))
      refine bodyPost_ret (v := .agg (setC (grp l))) (results_cell_row (p := 2) Tryd.results63 _ _ w.heap.size 54 _ (0, 0) _ rfl (HZ.out.put (grp l)).row Tryd.underlying54 rfl (sizeSet _)) rfl ⟨rfl, But.below HB.out (But.setRow _ _ _) (Nat.le_refl _) HB.out.size⟩
end Df
end Go.Proofs.YtmjjkamndlefmaaDoor
