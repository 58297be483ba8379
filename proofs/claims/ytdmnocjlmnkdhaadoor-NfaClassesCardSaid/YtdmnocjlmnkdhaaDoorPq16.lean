/- classes.Part.refine. -/
import Derived.Test.YtdmnocjlmnkdhaaDoorPq15
namespace Go.Proofs.YtdmnocjlmnkdhaaDoor
open Go.RowKit Sets Cls
/-- v is a slice of these sets. -/
def SetsIn (w : World) (v : Value) (L : List Nat) : Prop :=
  L.length ≤ maxLen ∧ ∃ a cap, v = .slice a L.length cap ∧ L.length ≤ cap ∧ ∀ i, i < L.length → ∃ b o, a = some ⟨b, o, none⟩ ∧ ∀ q, q < 4 → w.cell? ⟨b, o + i * 4 + q, none⟩ = some (.int .u64 (wd (L.getD i 0) q))
theorem SetsIn.kept {w w' : World} {v : Value} {L : List Nat} (h : SetsIn w v L) (hb : Below w.heap.size w w') : SetsIn w' v L := by
  obtain ⟨hm, a, cap, rfl, hcap, hc⟩ := h
  refine ⟨hm, a, cap, rfl, hcap, fun i hi => ?_⟩
  obtain ⟨b, o, rfl, hq⟩ := hc i hi
  exact ⟨b, o, rfl, fun q hq4 => (hb.cell (World.block_lt_of_cell? _ _ (hq q hq4))).trans (hq q hq4)⟩
theorem zeroP (w : World) : (zeroValue 33).run Tryd.prog w = .ok (.agg (partC (fun _ => 0) 0)) w := by
  rw [show partC (fun _ => 0) 0 = (List.replicate 256 (Value.int .u8 0) ++ [Value.int .i64 0]).toArray from by unfold partC ofL; rw [List.map_const', List.length_range]; rfl]
  kernel_rfl
theorem PartAt.congr {w : World} {B : Nat} {of g : Nat → Nat} {n : Int} (h : PartAt w B of n) (e : ∀ c, c < 256 → of c = g c) : PartAt w B g n := by
  unfold PartAt at *; rw [← partC_congr of g n e]; exact h
theorem has_nat (S c : Nat) (w : World) (h : c < 256) :
    Calls Tryd.prog 33 #[.agg #[.int .u64 (wd S 0), .int .u64 (wd S 1), .int .u64 (wd S 2), .int .u64 (wd S 3)], .int .u8 c] w fun e w' =>
      e = .returned (.bool (S.testBit c)) ∧ Below w.heap.size w w' := by
  have := has_any S (c : Int) w (by omega) (by omega)
  simpa using this
/-- Block T is a trait. -/
def TraitAt (w : World) (T a b : Nat) : Prop := w.heap[T]? = some (.cells #[.int .u8 a, .int .u64 b] 75 (0, 0))
theorem TraitAt.lt {w : World} {T a b : Nat} (h : TraitAt w T a b) : T < w.heap.size := (Array.getElem?_eq_some_iff.1 h).1
theorem TraitAt.new (w : World) (a b : Nat) : TraitAt (w.alloc (.cells #[.int .u8 a, .int .u64 b] 75)) w.heap.size a b := heap_alloc_new w _
theorem TraitAt.kept {w w' : World} {A T a b : Nat} (h : TraitAt w T a b) (hb : Below A w w') (hA : T < A) : TraitAt w' T a b := by
  unfold TraitAt at *; rw [hb.block _ hA]; exact h
theorem TraitAt.c0 {w : World} {T a b : Nat} (h : TraitAt w T a b) : w.cell? ⟨T, 0, none⟩ = some (.int .u8 a) := by rw [cell_of_row w T 0 _ _ _ h]; rfl
theorem TraitAt.c1 {w : World} {T a b : Nat} (h : TraitAt w T a b) : w.cell? ⟨T, 1, none⟩ = some (.int .u64 b) := by rw [cell_of_row w T 1 _ _ _ h]; rfl
theorem TraitAt.free {w : World} {T a b : Nat} (h : TraitAt w T a b) (j : Nat) : w.frozen? ⟨T, j, none⟩ = false := frozen_of_row w T j _ _ h
theorem TraitAt.set {w : World} {T a b : Nat} (h : TraitAt w T a b) (b' : Nat) : TraitAt (w.setCell ⟨T, 1, none⟩ (.int .u64 b')) T a b' := by
  unfold TraitAt at *
  exact heap_setCell_same w T 1 _ _ _ h
theorem bor_shl (X j : Nat) (h : X < 2 ^ j) (hj : j < 64) : bits .or .u64 (X : Int) (IntKind.u64.wrap (2 ^ j)) = ((X ||| 2 ^ j : Nat) : Int) := by
  have hp : 2 ^ j < 18446744073709551616 := Nat.pow_lt_pow_right (n := 64) (by decide) hj
  have e : IntKind.u64.wrap (2 ^ j) = ((2 ^ j : Nat) : Int) := by
    rw [IntKind.wrap_u64, show ((2 : Int) ^ j) = ((2 ^ j : Nat) : Int) from by simp]
    generalize 2 ^ j = x at hp
    omega
  rw [e, bits_or_u64_nat _ _ (by generalize 2 ^ j = x at *; omega) hp]
theorem findIdx_congr {α : Type} (p q : α → Bool) (h : ∀ x, p x = q x) (l : List α) : l.findIdx? p = l.findIdx? q := by rw [show p = q from funext h]
theorem keys_some (f : Nat → Nat × Nat) (c : Nat) (h : head (byKey f) c = false) : (keysTo f c).findIdx? (fun x => x == f c) = some (cls (byKey f) c) := by
  rw [← keysTo_some f c h]
  exact findIdx_congr _ _ (fun x => Bool.eq_iff_iff.2 ⟨fun h => @beq_iff_eq _ instBEqOfDecidableEq _ _ _ |>.2 (beq_iff_eq.1 h), fun h => beq_iff_eq.2 (@beq_iff_eq _ instBEqOfDecidableEq _ _ _ |>.1 h)⟩) _
theorem keys_none (f : Nat → Nat × Nat) (c : Nat) (h : head (byKey f) c = true) : (keysTo f c).findIdx? (fun x => x == f c) = none := by
  rw [← keysTo_none f c h]
  exact findIdx_congr _ _ (fun x => Bool.eq_iff_iff.2 ⟨fun h => @beq_iff_eq _ instBEqOfDecidableEq _ _ _ |>.2 (beq_iff_eq.1 h), fun h => beq_iff_eq.2 (@beq_iff_eq _ instBEqOfDecidableEq _ _ _ |>.1 h)⟩) _
/-- The classes of the bytes below c. -/
def ptN (E : Nat → Nat → Bool) (c d : Nat) : Nat := if d < c then cls E d else 0
set_option maxHeartbeats 3200000 in
set_option maxRecDepth 100000 in
theorem refine_any (E : Nat → Nat → Bool) (hE : Eqv E) (n : Int) (v : Value) (L : List Nat) (w : World) (hv : SetsIn w v L) (hL : L.length ≤ 64) :
    Calls Tryd.prog 15 #[.agg (partC (cls E) n), v] w fun e w' =>
      e = .returned (.agg (partC (cls (byKey (keyC E L))) (nh (byKey (keyC E L)) 256 : Nat))) ∧ Below w.heap.size w w' := by
  have hz := zeroP
  have hmm := @run_makeMap Tryd.prog
  have hP : PartAt ((((w.alloc (.cells (partC (cls E) n) 33)).alloc (.cells (partC (fun _ => 0) 0) 33)).alloc (.cells (partC (fun _ => 0) 0) 33)).alloc (.map #[] 0)) w.heap.size (cls E) n := (((PartAt.new w (cls E) n).alloc _).alloc _).alloc _
  have hr := hP.range
  obtain ⟨hLm, a, cap, rfl, hcap, hvc⟩ := hv
  go_enter Tryd.func15, Tryd.ntmps15
  go_wp2_with (refine wpList_load_mid rfl 31 (.tmp 15) rfl w.heap.size 0 rfl (ofL (cls E)) _ hr Tryd.underlying31 rfl (sizeO (cls E)) ?_)
  have hF := byKey_eqv (keyC E L)
  have hQ : PartAt ((((w.alloc (.cells (partC (cls E) n) 33)).alloc (.cells (partC (fun _ => 0) 0) 33)).alloc (.cells (partC (fun _ => 0) 0) 33)).alloc (.map #[] 0)) (w.heap.size + 1 + 1) (fun _ => 0) 0 := by
    have := (PartAt.new ((w.alloc (.cells (partC (cls E) n) 33)).alloc (.cells (partC (fun _ => 0) 0) 33)) (fun _ => 0) 0).alloc (.map #[] 0)
    simpa using this
  have hR : PartAt ((((w.alloc (.cells (partC (cls E) n) 33)).alloc (.cells (partC (fun _ => 0) 0) 33)).alloc (.cells (partC (fun _ => 0) 0) 33)).alloc (.map #[] 0)) (w.heap.size + 1) (fun _ => 0) 0 := by
    have := ((PartAt.new (w.alloc (.cells (partC (cls E) n) 33)) (fun _ => 0) 0).alloc (.cells (partC (fun _ => 0) 0) 33)).alloc (.map #[] 0)
    simpa using this
  have hM : TraitMap ((((w.alloc (.cells (partC (cls E) n) 33)).alloc (.cells (partC (fun _ => 0) 0) 33)).alloc (.cells (partC (fun _ => 0) 0) 33)).alloc (.map #[] 0)) (w.heap.size + 1 + 1 + 1) [] := by
    have := TraitMap.made (((w.alloc (.cells (partC (cls E) n) 33)).alloc (.cells (partC (fun _ => 0) 0) 33)).alloc (.cells (partC (fun _ => 0) 0) 33))
    simpa using this
  have hB0 : Below w.heap.size w ((((w.alloc (.cells (partC (cls E) n) 33)).alloc (.cells (partC (fun _ => 0) 0) 33)).alloc (.cells (partC (fun _ => 0) 0) 33)).alloc (.map #[] 0)) := by
    repeat (first | refine Below.alloc ?_ (by simp <;> omega) _)
    exact Below.refl _ _
  generalize ((((w.alloc (.cells (partC (cls E) n) 33)).alloc (.cells (partC (fun _ => 0) 0) 33)).alloc (.cells (partC (fun _ => 0) 0) 33)).alloc (.map #[] 0)) = W0 at *
  clear hP hr hmm
  obtain ⟨R, hRe⟩ : ∃ R, R = w.heap.size + 1 := ⟨_, rfl⟩
  obtain ⟨q, hqe⟩ : ∃ q, q = R + 1 := ⟨_, rfl⟩
  obtain ⟨M, hMe⟩ : ∃ M, M = q + 1 := ⟨_, rfl⟩
  rw [← hRe] at hR hQ hM ⊢
  rw [← hqe] at hQ hM ⊢
  rw [← hMe] at hM ⊢
  have hRw : w.heap.size < R := by omega
  have hRq : R < q := by omega
  have hqM : q < M := by omega
  clear hRe hqe hMe
  replace hQ := hQ.congr (g := ptN (byKey (keyC E L)) 0) (fun c _ => by simp [ptN])
  go_loopw [17] (fun i wr => ∃ c : Nat, i = .int .i64 c ∧ c ≤ 256 ∧ PartAt wr q (ptN (byKey (keyC E L)) c) 0 ∧ PartAt wr R (fun _ => 0) 0 ∧ TraitMap wr M (keysTo (keyC E L) c) ∧ Below w.heap.size w wr) (fun i _ => (256 - intOf i).toNat)
  case atStart => exact ⟨0, rfl, by omega, hQ, hR, hM, hB0⟩
  case round =>
    obtain ⟨c, rfl, hc, hQ, hR, hM, hB⟩ := hrel
    have hMl := hM.lt
    by_cases hlt : c < 256
    · have hx := index_of (cls E) c hlt
      have hcE : cls E c ≤ c := cls_le E hE c
      have hdk : decide ((c : Int) < 256) = true := decide_eq_true (by omega)
      go_wp2
      obtain ⟨wo, rfl⟩ : ∃ wo : World, wo = wr := ⟨_, rfl⟩
      have hT0 := TraitAt.new wo (cls E c) 0
      have hBo : Below wo.heap.size wo (wo.alloc (.cells #[.int .u8 (cls E c), .int .u64 0] 75)) := (Below.refl _ _).alloc (Nat.le_refl _) _
      generalize wo.alloc (.cells #[.int .u8 (cls E c), .int .u64 0] 75) = w1 at *
      obtain ⟨T, hT⟩ : ∃ T, T = wo.heap.size := ⟨_, rfl⟩
      rw [← hT] at hT0 hBo hMl ⊢
      have hTw : w.heap.size ≤ T := by have := hB.size; omega
      have HT := Lib.hid hT
      clear hT
      go_loopw [25] (fun i wi => ∃ j : Nat, i = .int .i64 j ∧ j ≤ L.length ∧ TraitAt wi T (cls E c) (inb L c j) ∧ Below T wo wi) (fun i _ => (L.length - intOf i).toNat)
      case atStart => exact ⟨0, rfl, Nat.zero_le _, hT0, hBo⟩
      case round =>
        obtain ⟨j, rfl, hj, hTi, hBi⟩ := hrel
        have hTl := hTi.lt
        by_cases hjl : j < L.length
        · obtain ⟨b, o, rfl, hq⟩ := hvc j hjl
          have hBw : Below w.heap.size w wr := hB.trans (hBi.mono hTw)
          have s0 := (hBw.cell (World.block_lt_of_cell? _ _ (hq 0 (by omega)))).trans (hq 0 (by omega))
          have s1 := (hBw.cell (World.block_lt_of_cell? _ _ (hq 1 (by omega)))).trans (hq 1 (by omega))
          have s2 := (hBw.cell (World.block_lt_of_cell? _ _ (hq 2 (by omega)))).trans (hq 2 (by omega))
          have s3 := (hBw.cell (World.block_lt_of_cell? _ _ (hq 3 (by omega)))).trans (hq 3 (by omega))
          rw [Nat.add_zero] at s0
          clear hq
          have hin : inb L c (j + 1) = if (L.getD j 0).testBit c then inb L c j ||| 2 ^ j else inb L c j := rfl
          have hil := inb_lt L c j
          generalize L.getD j 0 = S at *
          have HI := Lib.hid hin
          clear hin
          go_wp2_with (go_at_call 33; refine (has_nat _ _ _ hlt).mono ?_; rintro e w5 ⟨rfl, hb5⟩)
          · have hBi5 : Below T wo w5 := (hBi.alloc (by omega) _).trans (hb5.mono (by simp; omega))
            have hT5 : TraitAt w5 T (cls E c) (inb L c j) := (hTi.kept ((Below.refl _ _).alloc (Nat.le_refl _) _) hTl).kept hb5 (by simp; omega)
            have HS : Hid (S.testBit c = true) := Lib.hid (by assumption)
            have k0 := hT5.c1
            have k1 := hT5.free 1
            have hTl5 := hT5.lt
            refine region_mix [(false, 0), (false, 1), (false, 2), (false, 3), (false, 4), (false, 5)] (fun w' => Below w5.heap.size w5 w') (by kernel_rfl) (by kernel_rfl) ((Below.refl _ _).drew) ?_
            simp only [planOps, List.map_cons, List.map_nil, List.getD_cons_zero, List.getD_cons_succ, List.length_cons, List.length_nil, List.drop_succ_cons, List.drop_zero]
            refine mix_seg (seg := [_, _, _, _, _, _]) (rest := []) rfl ((Below.refl _ _).drew) ?_
            intro ι hι F hF'
            have f0 := fun n => ((hF' n).cell (p := ⟨T, 1, none⟩) hTl5).trans k0
            repeat (go_big_quiet_step (fail))
            refine wpQuiet_nil ?_
            clear f0 hF' hι F
            show wpList _ _ _ _ _ _
            go_wp2
            refine NoPanic.normal ?_
            rw [bor_shl _ _ hil (by omega)]
            have hI := HI.out
            rw [if_pos HS.out] at hI
            rw [← hI]
            have hT6 := hT5.set (inb L c (j + 1))
            have hB6 : Below T wo (w5.setCell ⟨T, 1, none⟩ (.int .u64 (inb L c (j + 1)))) := hBi5.setCell (p := ⟨T, 1, none⟩) (Nat.le_refl _) _
            clear hI k0 k1
            generalize w5.setCell ⟨T, 1, none⟩ (.int .u64 (inb L c (j + 1))) = w6 at *
            go_wp2
            exact ⟨⟨j + 1, by go_num, by omega, hT6, hB6.drew⟩, by simp [intOf]; omega⟩
          · have hBi5 : Below T wo w5 := (hBi.alloc (by omega) _).trans (hb5.mono (by simp; omega))
            have hT5 : TraitAt w5 T (cls E c) (inb L c j) := (hTi.kept ((Below.refl _ _).alloc (Nat.le_refl _) _) hTl).kept hb5 (by simp; omega)
            have HS : Hid (S.testBit c = false) := Lib.hid (by assumption)
            have hI := HI.out
            rw [if_neg (by rw [HS.out]; exact Bool.false_ne_true)] at hI
            rw [← hI] at hT5
            exact ⟨⟨j + 1, by go_num, by omega, hT5, hBi5⟩, by simp [intOf]; omega⟩
        · have hjl' : j = L.length := by omega
          subst hjl'
          have hQ1 := hQ.kept hBi (by omega)
          have hR1 := hR.kept hBi (by omega)
          have hM1 := hM.kept hBi (by omega)
          have hBw : Below w.heap.size w wr := hB.trans (hBi.mono hTw)
          have t0 := hTi.c0
          have t1 := hTi.c1
          have cq := hQ1.cell c hlt
          have fq := hQ1.free c
          have hfin : ∀ (w' : World) (k : Nat), PartAt w' q (ptN (byKey (keyC E L)) c) 0 → cls (byKey (keyC E L)) c = k → PartAt (w'.setCell ⟨q, c, none⟩ (.int .u8 k)) q (ptN (byKey (keyC E L)) (c + 1)) 0 := by
            intro w' k h hk
            refine (h.set c k hlt).congr (fun d hd => ?_)
            unfold ptN
            by_cases e : d = c
            · subst e; rw [if_pos rfl, if_pos (by omega), hk]
            · rw [if_neg e]
              by_cases e2 : d < c
              · rw [if_pos e2, if_pos (by omega)]
              · rw [if_neg e2, if_neg (by omega)]
          have HF := Lib.hid hfin
          have HM1 := Lib.hid hM1
          clear hfin hM hQ hR hvc
          have hix : 0 ≤ (c : Int) := by omega
          cases hd : head (byKey (keyC E L)) c
          · have hl : (Instr.lookup 73 (.map (some M)) (.agg #[.int .u8 (cls E c), .int .u64 (inb L c L.length)]) true).run Tryd.prog wr = .ok (.tuple #[.int .u8 (cls (byKey (keyC E L)) c), .bool true]) wr := by
              have := HM1.out.look (keyC E L c)
              rw [keys_some _ _ hd] at this
              exact this
            have HK : Hid (keysTo (keyC E L) (c + 1) = keysTo (keyC E L) c) := Lib.hid (keysTo_old _ _ hd)
            clear hd
            go_wp2
            go_roundw
            case rel =>
              refine ⟨c + 1, by go_num, by omega, HF.out _ _ hQ1 rfl, hR1.kept (A := q) ((Below.refl _ _).setCell (p := ⟨q, c, none⟩) (Nat.le_refl _) _) (by omega), ?_, hBw.setCell (p := ⟨q, c, none⟩) (by simp; omega) _⟩
              rw [HK.out]
              unfold TraitMap
              rw [heap_setCell_other _ _ _ _ (by simp; omega)]
              exact HM1.out
            case measure => simp [intOf]; omega
          · have hl : (Instr.lookup 73 (.map (some M)) (.agg #[.int .u8 (cls E c), .int .u64 (inb L c L.length)]) true).run Tryd.prog wr = .ok (.tuple #[.int .u8 0, .bool false]) wr := by
              have := HM1.out.look (keyC E L c)
              rw [keys_none _ _ hd] at this
              exact this
            have HK : Hid (keysTo (keyC E L) (c + 1) = keysTo (keyC E L) c ++ [keyC E L c]) := Lib.hid (keysTo_new _ _ hd)
            have hlen := HM1.out.len 3
            obtain ⟨w7, hput, hM7, hg7⟩ := HM1.out.put (keyC E L c) (keys_none _ _ hd)
            have hnl : (keysTo (keyC E L) c).length = cls (byKey (keyC E L)) c := by rw [keysTo_length, cls_head _ hF c hd]
            have hcl := cls_le _ hF c
            rw [hnl] at hput hlen
            have hb7 : Below M wr w7 := (Below.refl _ _).grown hg7 (by omega) (by simp)
            have hQ7 := hQ1.kept hb7 (by omega)
            have hR7 := hR1.kept hb7 (by omega)
            have hB7 : Below w.heap.size w w7 := hBw.trans (hb7.mono (by omega))
            have cq7 := hQ7.cell c hlt
            have fq7 := hQ7.free c
            have HM7 := Lib.hid hM7
            have hw8 : IntKind.u8.wrap (cls (byKey (keyC E L)) c : Int) = (cls (byKey (keyC E L)) c : Int) := by
              simp [IntKind.wrap, IntKind.bits, IntKind.signed]; omega
            clear hd hnl hM7 hg7 hb7 hE hF
            go_wp2_with (at_mapUpdate; refine wpList_put rfl _ _ _ _ rfl _ _ _ rfl rfl rfl hput ?_)
            refine ⟨⟨c + 1, by go_num, by omega, HF.out _ _ hQ7 rfl, hR7.kept (A := q) ((Below.refl _ _).setCell (p := ⟨q, c, none⟩) (Nat.le_refl _) _) (by omega), ?_, hB7.setCell (p := ⟨q, c, none⟩) (by simp; omega) _⟩, by simp [intOf]; omega⟩
            rw [HK.out]
            unfold TraitMap
            rw [heap_setCell_other _ _ _ _ (by simp; omega)]
            exact HM7.out
    · have hc' : c = 256 := by omega
      subst hc'
      have hlen := hM.len 3
      rw [keysTo_length] at hlen
      have hQ' := hQ.congr (g := cls (byKey (keyC E L))) (fun d hd => by unfold ptN; rw [if_pos hd])
      have cN := hQ'.cellN
      have fN := hQ'.free 256
      have hQ8 := hQ'.setN (nh (byKey (keyC E L)) 256 : Nat)
      have hb8 : Below q wr (wr.setCell ⟨q, 256, none⟩ (.int .i64 (nh (byKey (keyC E L)) 256 : Nat))) := (Below.refl _ _).setCell (p := ⟨q, 256, none⟩) (Nat.le_refl _) _
      have hR8 := hR.kept hb8 hRq
      have hB8 : Below w.heap.size w (wr.setCell ⟨q, 256, none⟩ (.int .i64 (nh (byKey (keyC E L)) 256 : Nat))) := hB.trans (hb8.mono (by omega))
      have HQ8 := Lib.hid hQ8
      have HR8 := Lib.hid hR8
      clear hQ hM hQ' hb8 hR hQ8 hR8
      go_wp2_with (first
        | (refine wpList_load_row rfl 33 (.tmp 5) rfl q rfl 33 (partC (cls (byKey (keyC E L))) (nh (byKey (keyC E L)) 256 : Nat)) (0, 0) _ HQ8.out Tryd.underlying33 rfl (sizeP _ _) ?_)
        | (refine wpList_store_row rfl 33 (.tmp 4) (.tmp 63) rfl R (partC (cls (byKey (keyC E L))) (nh (byKey (keyC E L)) 256 : Nat)) rfl rfl 33 (partC (fun _ => 0) 0) HR8.out (sizeP _ _) (by rw [partC_size, partC_size]) (partC_one _ _) ?_))
      have h3 : ((wr.setCell ⟨q, 256, none⟩ (.int .i64 (nh (byKey (keyC E L)) 256 : Nat))).setRow R (partC (cls (byKey (keyC E L))) (nh (byKey (keyC E L)) 256 : Nat))).heap[R]? = some (.cells (partC (cls (byKey (keyC E L))) (nh (byKey (keyC E L)) 256 : Nat)) 33 (0, 0)) := setRow_heap _ _ _ _ _ _ HR8.out
      refine bodyPost_ret (v := .agg (partC (cls (byKey (keyC E L))) (nh (byKey (keyC E L)) 256 : Nat))) (results_cell_row (p := 4) Tryd.results15 _ _ R 33 _ (0, 0) _ rfl h3 Tryd.underlying33 rfl (sizeP _ _)) rfl ⟨rfl, ?_⟩
      exact hB8.trans ⟨rfl, rfl, rfl, by simp, fun k hk => setRow_other _ _ _ _ (by omega)⟩
end Go.Proofs.YtdmnocjlmnkdhaaDoor
