/- class. -/
import Derived.Test.YtbmoanhdpnaocaaRexE
namespace Go.Proofs.Ytbmoanhdpnaocaa
open Go.RowKit Sets Tr Rx
/-- how far a reader is -/
def posOf (w : World) (B : Nat) : Nat := match w.cell? ⟨B, 1, none⟩ with | some (.int _ p) => p.toNat | _ => 0
theorem posOf_row {w : World} {B : Nat} {s : ByteArray} {p o : Nat} {nv pv : Value} (h : Row w B s p o nv pv) : posOf w B = p := by
  unfold posOf
  rw [h.cells.2.1]
  simp
theorem or_one (S T : Nat) (w : World) : Calls Try.prog 42 #[setV S, setV T] w fun e w' => e = .returned (setV (S ||| T)) ∧ Below w.heap.size w w' := or_any S T w
theorem not_one (S : Nat) (w : World) : Calls Try.prog 14 #[setV S] w fun e w' => e = .returned (setV (full ^^^ S)) ∧ Below w.heap.size w w' := not_any S w
theorem clsL_end {l : List Nat} {f S p : Nat} (h : pk l p = 93) : clsL l (f + 1) S p = .ok S (p + 1) := if_pos h
theorem clsL_bad {l : List Nat} {f S p q : Nat} (h : pk l p ≠ 93) (hi : item l p = .bad q) : clsL l (f + 1) S p = .bad q := by unfold clsL; rw [if_neg h, hi]
theorem clsL_ok' {l : List Nat} {f S T p q : Nat} (h : pk l p ≠ 93) (hi : item l p = .ok T q) : clsL l (f + 1) S p = clsL l f (S ||| T) q := by rw [clsL, if_neg h, hi]
theorem AnyTmps.normal {Q : Exit → Act → World → Prop} {a : Act} {w : World} (h : Q .normal a w) : AnyTmps Q .normal a w := h
/-- what the loop keeps -/
structure ClsI (w : World) (B : Nat) (s : ByteArray) (o : Nat) (nv pv : Value) (R : L Nat) (wr : World) (f S p : Nat) : Prop where
  row : Row wr B s p o nv pv
  w0 : Words wr w.heap.size 0
  w1 : Words wr (w.heap.size + 1) S
  but : But B w wr
  le : p ≤ s.size
  fuel : s.size < p + f
  is : clsL (by' s) f S p = R
theorem LP.cast {α : Type} {B : Nat} {s : ByteArray} {o : Nat} {nv pv : Value} {w : World} {enc : α → Value} {r r' : L α} {e : Ending} {w' : World} (h : r' = r) (k : LP B s o nv pv w enc r' e w') : LP B s o nv pv w enc r e w' := h ▸ k
def clsE (b : Bool) (r : L Nat) : L Nat := match r with | .ok S q => .ok (if b then full ^^^ S else S) q | .bad q => .bad q
theorem cls_yes {l : List Nat} {p : Nat} (h : pk l p = 94) : cls l p = clsE true (clsL l (l.length + 1) 0 (p + 1)) := by
  unfold cls
  rw [if_pos h]
  cases clsL l (l.length + 1) 0 (p + 1) <;> rfl
theorem cls_no {l : List Nat} {p : Nat} (h : pk l p ≠ 94) : cls l p = clsE false (clsL l (l.length + 1) 0 p) := by
  unfold cls
  rw [if_neg h]
  cases clsL l (l.length + 1) 0 p <;> rfl
set_option maxHeartbeats 1600000 in
set_option maxRecDepth 100000 in
theorem class_yes (B : Nat) (s : ByteArray) (p o : Nat) (nv pv : Value) (w : World) (h : Row w B s p o nv pv) (hs : s.size ≤ 200) (hk : pk (by' s) p = 94) :
    Calls Try.prog 37 #[.pointer (some ⟨B, 0, none⟩)] w (LP B s o nv pv w setV (clsE true (clsL (by' s) ((by' s).length + 1) 0 (p + 1)))) := by
  have hB := h.lt
  have hbB : w.heap.size ≠ B := by omega
  have hbB1 : w.heap.size + 1 ≠ B := by omega
  have hsz1 : (w.alloc (.cells #[.int .u64 0, .int .u64 0, .int .u64 0, .int .u64 0] 34)).heap.size = w.heap.size + 1 := by simp
  have HW0 := Lib.hid ((words_zero w).alloc (.cells #[.int .u64 0, .int .u64 0, .int .u64 0, .int .u64 0] 34))
  have HW1 := words_zero (w.alloc (.cells #[.int .u64 0, .int .u64 0, .int .u64 0, .int .u64 0] 34))
  rw [hsz1] at HW1
  have HW1 := Lib.hid HW1
  have HR := Lib.hid ((h.alloc (.cells #[.int .u64 0, .int .u64 0, .int .u64 0, .int .u64 0] 34)).alloc (.cells #[.int .u64 0, .int .u64 0, .int .u64 0, .int .u64 0] 34))
  have HA := Lib.hid ((But.alloc B w (.cells #[.int .u64 0, .int .u64 0, .int .u64 0, .int .u64 0] 34)).allocR (.cells #[.int .u64 0, .int .u64 0, .int .u64 0, .int .u64 0] 34))
  have It := Lib.hid (fun w' p (hR : Row w' B s p o nv pv) hp => item_any B s p o nv pv w' hR hp hs)
  have Ty := Lib.hid (fun w' p (c : Nat) (hR : Row w' B s p o nv pv) => take_yes B s p o nv pv c w' hR hs)
  have Tn := Lib.hid (fun w' p (c : Nat) (hR : Row w' B s p o nv pv) => take_no B s p o nv pv c w' hR)
  have hp1 : (p + 1) ≤ s.size := by rw [← by_len]; exact pk_lt (by omega)
  have HF : Hid (s.size < (p + 1) + ((by' s).length + 1)) := Lib.hid (by rw [by_len]; omega)
  obtain ⟨R, hRR⟩ : ∃ R, R = clsL (by' s) ((by' s).length + 1) 0 (p + 1) := ⟨_, rfl⟩
  rw [← hRR]
  have HIS := Lib.hid hRR.symm
  clear hRR
  have HT := Lib.hid (take_yes B s p o nv pv 94 _ HR.out hs (by decide) hk)
  clear h hsz1 hk
  go_enter Try.func37, Try.ntmps37
  go_wp2_with fail
  refine HT.out.mono ?_
  rintro e w1 ⟨rfl, hR1, hb1⟩
  have HI : Hid (ClsI w B s o nv pv R w1 ((by' s).length + 1) 0 (p + 1)) := Lib.hid ⟨hR1, HW0.out.but hb1 hbB, HW1.out.but hb1 hbB1, HA.out.trans hb1, hp1, HF.out, HIS.out⟩
  clear hR1 hb1 HT HW0 HW1 HA HR HIS HF hp1
  go_wp2_with fail
  go_loopw [] (fun wr => ∃ f S p, Hid (ClsI w B s o nv pv R wr f S p)) (fun wr => s.size + 1 - posOf wr B)
  case atStart => exact ⟨_, _, _, HI⟩
  case round =>
    obtain ⟨f, S, p, HI⟩ := hrel
    have hle := HI.out.le
    have hfu := HI.out.fuel
    obtain ⟨f, rfl⟩ : ∃ g, f = g + 1 := ⟨f - 1, by omega⟩
    by_cases h93 : pk (by' s) p = 93
    · have HE := Lib.hid (congrArg (clsE true) ((clsL_end h93).symm.trans HI.out.is))
      go_wp2_with fail
      refine (Ty.out _ p 93 HI.out.row (by decide) h93).mono ?_
      rintro e w6 ⟨rfl, hR6, hb6⟩
      have HW := Lib.hid (HI.out.w0.but hb6 hbB)
      have HV := Lib.hid (HI.out.w1.but hb6 hbB1)
      have HB := Lib.hid (HI.out.but.trans hb6)
      clear hb6
      obtain ⟨d0, d1, d2, d3⟩ := HV.out.cells
      go_wp2_with fail
      refine (not_one S _).mono ?_
      rintro e w7 ⟨rfl, hb7⟩
      have HW7 := Lib.hid (HW.out.below hb7)
      have HB7 := Lib.hid (HB.out.belowR hb7)
      have HR7 := Lib.hid (hR6.below hb7)
      obtain ⟨e0, e1, e2, e3⟩ := HW7.out.cells
      obtain ⟨f0, f1, f2, f3⟩ := HW7.out.frozen
      clear hb7 hR6 d0 d1 d2 d3
      unfold setV
      go_wp2_with fail
      have hput := HW7.out.put (full ^^^ S)
      refine bodyPost_ret (v := setV (full ^^^ S)) (results_cell_row (p := 2) Try.results37 _ _ w.heap.size 34 _ (0, 0) _ rfl hput Try.underlying34 rfl (by kernel_rfl)) rfl (LP.cast HE.out ⟨rfl, ?_, ?_⟩)
      · exact (((HR7.out.other hbB).other hbB).other hbB).other hbB
      · exact (((HB7.out.own (Nat.le_refl _) _ _).own (Nat.le_refl _) _ _).own (Nat.le_refl _) _ _).own (Nat.le_refl _) _ _
    · cases hi : item (by' s) p with
      | bad q =>
        have HE := Lib.hid (congrArg (clsE true) ((clsL_bad h93 hi).symm.trans HI.out.is))
        have Iq := Lib.hid (fun w' hR => hi ▸ It.out w' p hR hle)
        clear hi
        go_wp2_with fail
        refine (Tn.out _ p 93 HI.out.row hle h93).mono ?_
        rintro e w6 ⟨rfl, hR6, hb6⟩
        have HV := Lib.hid (HI.out.w1.but hb6 hbB1)
        have HB := Lib.hid (HI.out.but.trans hb6)
        have HR6 := Lib.hid hR6
        clear hb6 hR6
        go_wp2_with fail
        refine region_mixP [(false, 0), (false, 1), (true, 2), (true, 3)] (fun w' => But B w6 w') (by kernel_rfl) (by kernel_rfl) ((But.refl _ _).drewR) ?_
        simp only [planOps, List.map_cons, List.map_nil, List.getD_cons_zero, List.getD_cons_succ, List.length_cons, List.length_nil, List.drop_succ_cons, List.drop_zero]
        refine mix_seg (seg := [_, _]) rfl ((But.refl _ _).drewR) ?_
        intro ι hι F hF
        have g0 : ∀ n, (F n).cell? ⟨w.heap.size + 1, 0, none⟩ = some (.int .u64 (wd S 0)) := fun n => (HV.out.but (hF n) hbB1).cells.1
        have g1 : ∀ n, (F n).cell? ⟨w.heap.size + 1, 1, none⟩ = some (.int .u64 (wd S 1)) := fun n => (HV.out.but (hF n) hbB1).cells.2.1
        have g2 : ∀ n, (F n).cell? ⟨w.heap.size + 1, 2, none⟩ = some (.int .u64 (wd S 2)) := fun n => (HV.out.but (hF n) hbB1).cells.2.2.1
        have g3 : ∀ n, (F n).cell? ⟨w.heap.size + 1, 3, none⟩ = some (.int .u64 (wd S 3)) := fun n => (HV.out.but (hF n) hbB1).cells.2.2.2
        repeat (go_big_quiet_step (fail))
        refine wpQuiet_nil ?_
        clear g0 g1 g2 g3 hF hι F
        refine mix_eff (fun K hK => ?_)
        go_wp2_with fail
        refine (Iq.out _ HR6.out.drew).mono ?_
        rintro e w7 ⟨rfl, hb7⟩
        intro a' ha'
        exact ⟨ha', LP.cast HE.out ⟨rfl, (HB.out.trans (But.refl _ _).drewR).trans hb7⟩⟩
      | ok T q =>
        have HE := Lib.hid ((clsL_ok' h93 hi).symm.trans HI.out.is)
        have Iq := Lib.hid (fun w' hR => hi ▸ It.out w' p hR hle)
        have hok := item_ok (by_lt s) hi
        rw [by_len] at hok
        have HOK := Lib.hid hok
        clear hi hok
        go_wp2_with fail
        refine (Tn.out _ p 93 HI.out.row hle h93).mono ?_
        rintro e w6 ⟨rfl, hR6, hb6⟩
        have HW := Lib.hid (HI.out.w0.but hb6 hbB)
        have HV := Lib.hid (HI.out.w1.but hb6 hbB1)
        have HB := Lib.hid (HI.out.but.trans hb6)
        have HR6 := Lib.hid hR6
        clear hb6 hR6
        go_wp2_with fail
        refine region_mixP [(false, 0), (false, 1), (true, 2), (true, 3)] (fun w' => But B w6 w') (by kernel_rfl) (by kernel_rfl) ((But.refl _ _).drewR) ?_
        simp only [planOps, List.map_cons, List.map_nil, List.getD_cons_zero, List.getD_cons_succ, List.length_cons, List.length_nil, List.drop_succ_cons, List.drop_zero]
        refine mix_seg (seg := [_, _]) rfl ((But.refl _ _).drewR) ?_
        intro ι hι F hF
        have g0 : ∀ n, (F n).cell? ⟨w.heap.size + 1, 0, none⟩ = some (.int .u64 (wd S 0)) := fun n => (HV.out.but (hF n) hbB1).cells.1
        have g1 : ∀ n, (F n).cell? ⟨w.heap.size + 1, 1, none⟩ = some (.int .u64 (wd S 1)) := fun n => (HV.out.but (hF n) hbB1).cells.2.1
        have g2 : ∀ n, (F n).cell? ⟨w.heap.size + 1, 2, none⟩ = some (.int .u64 (wd S 2)) := fun n => (HV.out.but (hF n) hbB1).cells.2.2.1
        have g3 : ∀ n, (F n).cell? ⟨w.heap.size + 1, 3, none⟩ = some (.int .u64 (wd S 3)) := fun n => (HV.out.but (hF n) hbB1).cells.2.2.2
        repeat (go_big_quiet_step (fail))
        refine wpQuiet_nil ?_
        clear g0 g1 g2 g3 hF hι F
        refine mix_eff (fun K hK => ?_)
        go_wp2_with fail
        refine (Iq.out _ HR6.out.drew).mono ?_
        rintro e w7 ⟨rfl, hR7, hb7⟩
        have hb67 := (But.refl B w6).drewR.trans hb7
        have HW7 := Lib.hid (HW.out.but hb67 hbB)
        have HV7 := Lib.hid (HV.out.but hb67 hbB1)
        have HB7 := Lib.hid (HB.out.trans hb67)
        have HB67 := Lib.hid hb67
        have HR7 := Lib.hid hR7
        clear hb67 hb7 hR7
        go_wp2
        refine mix_on hK HB67.out ?_
        clear hK K
        refine mix_eff (fun K hK => ?_)
        go_wp2_with fail
        refine (or_one S T _).mono ?_
        rintro e w8 ⟨rfl, hb8⟩
        have HW8 := Lib.hid (HW7.out.below hb8)
        have HV8 := Lib.hid (HV7.out.below hb8)
        have HB8 := Lib.hid (HB7.out.belowR hb8)
        have HB68 := Lib.hid (HB67.out.belowR hb8)
        have HR8 := Lib.hid (HR7.out.below hb8)
        clear hb8
        go_wp2
        refine mix_on hK HB68.out ?_
        clear hK K
        obtain ⟨e0, e1, e2, e3⟩ := HV8.out.cells
        obtain ⟨f0, f1, f2, f3⟩ := HV8.out.frozen
        unfold setV
        show wpList _ _ _ _ _ _
        go_wp2
        have hle2 : w.heap.size ≤ w.heap.size + 1 := by omega
        have hne2 : w.heap.size + 1 ≠ w.heap.size := by omega
        have HI2 : Hid (ClsI w B s o nv pv R ((((w8.setCell ⟨w.heap.size + 1, 0, none⟩ (.int .u64 (wd (S ||| T) 0))).setCell ⟨w.heap.size + 1, 1, none⟩ (.int .u64 (wd (S ||| T) 1))).setCell ⟨w.heap.size + 1, 2, none⟩ (.int .u64 (wd (S ||| T) 2))).setCell ⟨w.heap.size + 1, 3, none⟩ (.int .u64 (wd (S ||| T) 3))) f (S ||| T) q) := Lib.hid
          ⟨(((HR8.out.other hbB1).other hbB1).other hbB1).other hbB1, HW8.out.kept (by rw [Below.heap_setCell _ _ _ _ hne2.symm, Below.heap_setCell _ _ _ _ hne2.symm, Below.heap_setCell _ _ _ _ hne2.symm, Below.heap_setCell _ _ _ _ hne2.symm]), HV8.out.put _,
           (((HB8.out.own hle2 _ _).own hle2 _ _).own hle2 _ _).own hle2 _ _, HOK.out.2.2, by have := HOK.out.2.1; omega, HE.out⟩
        refine AnyTmps.normal ?_
        go_wp2
        go_round
        case rel => exact ⟨_, _, _, HI2⟩
        case measure =>
          rw [posOf_row HI2.out.row, posOf_row HI.out.row]
          have := HOK.out.2.1
          have := HOK.out.2.2
          omega
set_option maxHeartbeats 1600000 in
set_option maxRecDepth 100000 in
theorem class_no (B : Nat) (s : ByteArray) (p o : Nat) (nv pv : Value) (w : World) (h : Row w B s p o nv pv) (hp : p ≤ s.size) (hs : s.size ≤ 200) (hk : pk (by' s) p ≠ 94) :
    Calls Try.prog 37 #[.pointer (some ⟨B, 0, none⟩)] w (LP B s o nv pv w setV (clsE false (clsL (by' s) ((by' s).length + 1) 0 p))) := by
  have hB := h.lt
  have hbB : w.heap.size ≠ B := by omega
  have hbB1 : w.heap.size + 1 ≠ B := by omega
  have hsz1 : (w.alloc (.cells #[.int .u64 0, .int .u64 0, .int .u64 0, .int .u64 0] 34)).heap.size = w.heap.size + 1 := by simp
  have HW0 := Lib.hid ((words_zero w).alloc (.cells #[.int .u64 0, .int .u64 0, .int .u64 0, .int .u64 0] 34))
  have HW1 := words_zero (w.alloc (.cells #[.int .u64 0, .int .u64 0, .int .u64 0, .int .u64 0] 34))
  rw [hsz1] at HW1
  have HW1 := Lib.hid HW1
  have HR := Lib.hid ((h.alloc (.cells #[.int .u64 0, .int .u64 0, .int .u64 0, .int .u64 0] 34)).alloc (.cells #[.int .u64 0, .int .u64 0, .int .u64 0, .int .u64 0] 34))
  have HA := Lib.hid ((But.alloc B w (.cells #[.int .u64 0, .int .u64 0, .int .u64 0, .int .u64 0] 34)).allocR (.cells #[.int .u64 0, .int .u64 0, .int .u64 0, .int .u64 0] 34))
  have It := Lib.hid (fun w' p (hR : Row w' B s p o nv pv) hp => item_any B s p o nv pv w' hR hp hs)
  have Ty := Lib.hid (fun w' p (c : Nat) (hR : Row w' B s p o nv pv) => take_yes B s p o nv pv c w' hR hs)
  have Tn := Lib.hid (fun w' p (c : Nat) (hR : Row w' B s p o nv pv) => take_no B s p o nv pv c w' hR)
  have hp1 : p ≤ s.size := hp
  have HF : Hid (s.size < p + ((by' s).length + 1)) := Lib.hid (by rw [by_len]; omega)
  obtain ⟨R, hRR⟩ : ∃ R, R = clsL (by' s) ((by' s).length + 1) 0 p := ⟨_, rfl⟩
  rw [← hRR]
  have HIS := Lib.hid hRR.symm
  clear hRR
  have HT := Lib.hid (take_no B s p o nv pv 94 _ HR.out hp hk)
  clear h hsz1 hk
  go_enter Try.func37, Try.ntmps37
  go_wp2_with fail
  refine HT.out.mono ?_
  rintro e w1 ⟨rfl, hR1, hb1⟩
  have HI : Hid (ClsI w B s o nv pv R w1 ((by' s).length + 1) 0 p) := Lib.hid ⟨hR1, HW0.out.but hb1 hbB, HW1.out.but hb1 hbB1, HA.out.trans hb1, hp1, HF.out, HIS.out⟩
  clear hR1 hb1 HT HW0 HW1 HA HR HIS HF hp1
  go_wp2_with fail
  go_loopw [] (fun wr => ∃ f S p, Hid (ClsI w B s o nv pv R wr f S p)) (fun wr => s.size + 1 - posOf wr B)
  case atStart => exact ⟨_, _, _, HI⟩
  case round =>
    obtain ⟨f, S, p, HI⟩ := hrel
    have hle := HI.out.le
    have hfu := HI.out.fuel
    obtain ⟨f, rfl⟩ : ∃ g, f = g + 1 := ⟨f - 1, by omega⟩
    by_cases h93 : pk (by' s) p = 93
    · have HE := Lib.hid (congrArg (clsE false) ((clsL_end h93).symm.trans HI.out.is))
      go_wp2_with fail
      refine (Ty.out _ p 93 HI.out.row (by decide) h93).mono ?_
      rintro e w6 ⟨rfl, hR6, hb6⟩
      have HW := Lib.hid (HI.out.w0.but hb6 hbB)
      have HV := Lib.hid (HI.out.w1.but hb6 hbB1)
      have HB := Lib.hid (HI.out.but.trans hb6)
      clear hb6
      obtain ⟨d0, d1, d2, d3⟩ := HV.out.cells
      obtain ⟨e0, e1, e2, e3⟩ := HW.out.cells
      obtain ⟨f0, f1, f2, f3⟩ := HW.out.frozen
      go_wp2_with fail
      have HW7 := HW
      have HB7 := HB
      have HR7 := Lib.hid hR6
      have hput := HW7.out.put S
      refine bodyPost_ret (v := setV S) (results_cell_row (p := 2) Try.results37 _ _ w.heap.size 34 _ (0, 0) _ rfl hput Try.underlying34 rfl (by kernel_rfl)) rfl (LP.cast HE.out ⟨rfl, ?_, ?_⟩)
      · exact (((HR7.out.other hbB).other hbB).other hbB).other hbB
      · exact (((HB7.out.own (Nat.le_refl _) _ _).own (Nat.le_refl _) _ _).own (Nat.le_refl _) _ _).own (Nat.le_refl _) _ _
    · cases hi : item (by' s) p with
      | bad q =>
        have HE := Lib.hid (congrArg (clsE false) ((clsL_bad h93 hi).symm.trans HI.out.is))
        have Iq := Lib.hid (fun w' hR => hi ▸ It.out w' p hR hle)
        clear hi
        go_wp2_with fail
        refine (Tn.out _ p 93 HI.out.row hle h93).mono ?_
        rintro e w6 ⟨rfl, hR6, hb6⟩
        have HV := Lib.hid (HI.out.w1.but hb6 hbB1)
        have HB := Lib.hid (HI.out.but.trans hb6)
        have HR6 := Lib.hid hR6
        clear hb6 hR6
        go_wp2_with fail
        refine region_mixP [(false, 0), (false, 1), (true, 2), (true, 3)] (fun w' => But B w6 w') (by kernel_rfl) (by kernel_rfl) ((But.refl _ _).drewR) ?_
        simp only [planOps, List.map_cons, List.map_nil, List.getD_cons_zero, List.getD_cons_succ, List.length_cons, List.length_nil, List.drop_succ_cons, List.drop_zero]
        refine mix_seg (seg := [_, _]) rfl ((But.refl _ _).drewR) ?_
        intro ι hι F hF
        have g0 : ∀ n, (F n).cell? ⟨w.heap.size + 1, 0, none⟩ = some (.int .u64 (wd S 0)) := fun n => (HV.out.but (hF n) hbB1).cells.1
        have g1 : ∀ n, (F n).cell? ⟨w.heap.size + 1, 1, none⟩ = some (.int .u64 (wd S 1)) := fun n => (HV.out.but (hF n) hbB1).cells.2.1
        have g2 : ∀ n, (F n).cell? ⟨w.heap.size + 1, 2, none⟩ = some (.int .u64 (wd S 2)) := fun n => (HV.out.but (hF n) hbB1).cells.2.2.1
        have g3 : ∀ n, (F n).cell? ⟨w.heap.size + 1, 3, none⟩ = some (.int .u64 (wd S 3)) := fun n => (HV.out.but (hF n) hbB1).cells.2.2.2
        repeat (go_big_quiet_step (fail))
        refine wpQuiet_nil ?_
        clear g0 g1 g2 g3 hF hι F
        refine mix_eff (fun K hK => ?_)
        go_wp2_with fail
        refine (Iq.out _ HR6.out.drew).mono ?_
        rintro e w7 ⟨rfl, hb7⟩
        intro a' ha'
        exact ⟨ha', LP.cast HE.out ⟨rfl, (HB.out.trans (But.refl _ _).drewR).trans hb7⟩⟩
      | ok T q =>
        have HE := Lib.hid ((clsL_ok' h93 hi).symm.trans HI.out.is)
        have Iq := Lib.hid (fun w' hR => hi ▸ It.out w' p hR hle)
        have hok := item_ok (by_lt s) hi
        rw [by_len] at hok
        have HOK := Lib.hid hok
        clear hi hok
        go_wp2_with fail
        refine (Tn.out _ p 93 HI.out.row hle h93).mono ?_
        rintro e w6 ⟨rfl, hR6, hb6⟩
        have HW := Lib.hid (HI.out.w0.but hb6 hbB)
        have HV := Lib.hid (HI.out.w1.but hb6 hbB1)
        have HB := Lib.hid (HI.out.but.trans hb6)
        have HR6 := Lib.hid hR6
        clear hb6 hR6
        go_wp2_with fail
        refine region_mixP [(false, 0), (false, 1), (true, 2), (true, 3)] (fun w' => But B w6 w') (by kernel_rfl) (by kernel_rfl) ((But.refl _ _).drewR) ?_
        simp only [planOps, List.map_cons, List.map_nil, List.getD_cons_zero, List.getD_cons_succ, List.length_cons, List.length_nil, List.drop_succ_cons, List.drop_zero]
        refine mix_seg (seg := [_, _]) rfl ((But.refl _ _).drewR) ?_
        intro ι hι F hF
        have g0 : ∀ n, (F n).cell? ⟨w.heap.size + 1, 0, none⟩ = some (.int .u64 (wd S 0)) := fun n => (HV.out.but (hF n) hbB1).cells.1
        have g1 : ∀ n, (F n).cell? ⟨w.heap.size + 1, 1, none⟩ = some (.int .u64 (wd S 1)) := fun n => (HV.out.but (hF n) hbB1).cells.2.1
        have g2 : ∀ n, (F n).cell? ⟨w.heap.size + 1, 2, none⟩ = some (.int .u64 (wd S 2)) := fun n => (HV.out.but (hF n) hbB1).cells.2.2.1
        have g3 : ∀ n, (F n).cell? ⟨w.heap.size + 1, 3, none⟩ = some (.int .u64 (wd S 3)) := fun n => (HV.out.but (hF n) hbB1).cells.2.2.2
        repeat (go_big_quiet_step (fail))
        refine wpQuiet_nil ?_
        clear g0 g1 g2 g3 hF hι F
        refine mix_eff (fun K hK => ?_)
        go_wp2_with fail
        refine (Iq.out _ HR6.out.drew).mono ?_
        rintro e w7 ⟨rfl, hR7, hb7⟩
        have hb67 := (But.refl B w6).drewR.trans hb7
        have HW7 := Lib.hid (HW.out.but hb67 hbB)
        have HV7 := Lib.hid (HV.out.but hb67 hbB1)
        have HB7 := Lib.hid (HB.out.trans hb67)
        have HB67 := Lib.hid hb67
        have HR7 := Lib.hid hR7
        clear hb67 hb7 hR7
        go_wp2
        refine mix_on hK HB67.out ?_
        clear hK K
        refine mix_eff (fun K hK => ?_)
        go_wp2_with fail
        refine (or_one S T _).mono ?_
        rintro e w8 ⟨rfl, hb8⟩
        have HW8 := Lib.hid (HW7.out.below hb8)
        have HV8 := Lib.hid (HV7.out.below hb8)
        have HB8 := Lib.hid (HB7.out.belowR hb8)
        have HB68 := Lib.hid (HB67.out.belowR hb8)
        have HR8 := Lib.hid (HR7.out.below hb8)
        clear hb8
        go_wp2
        refine mix_on hK HB68.out ?_
        clear hK K
        obtain ⟨e0, e1, e2, e3⟩ := HV8.out.cells
        obtain ⟨f0, f1, f2, f3⟩ := HV8.out.frozen
        unfold setV
        show wpList _ _ _ _ _ _
        go_wp2
        have hle2 : w.heap.size ≤ w.heap.size + 1 := by omega
        have hne2 : w.heap.size + 1 ≠ w.heap.size := by omega
        have HI2 : Hid (ClsI w B s o nv pv R ((((w8.setCell ⟨w.heap.size + 1, 0, none⟩ (.int .u64 (wd (S ||| T) 0))).setCell ⟨w.heap.size + 1, 1, none⟩ (.int .u64 (wd (S ||| T) 1))).setCell ⟨w.heap.size + 1, 2, none⟩ (.int .u64 (wd (S ||| T) 2))).setCell ⟨w.heap.size + 1, 3, none⟩ (.int .u64 (wd (S ||| T) 3))) f (S ||| T) q) := Lib.hid
          ⟨(((HR8.out.other hbB1).other hbB1).other hbB1).other hbB1, HW8.out.kept (by rw [Below.heap_setCell _ _ _ _ hne2.symm, Below.heap_setCell _ _ _ _ hne2.symm, Below.heap_setCell _ _ _ _ hne2.symm, Below.heap_setCell _ _ _ _ hne2.symm]), HV8.out.put _,
           (((HB8.out.own hle2 _ _).own hle2 _ _).own hle2 _ _).own hle2 _ _, HOK.out.2.2, by have := HOK.out.2.1; omega, HE.out⟩
        refine AnyTmps.normal ?_
        go_wp2
        go_round
        case rel => exact ⟨_, _, _, HI2⟩
        case measure =>
          rw [posOf_row HI2.out.row, posOf_row HI.out.row]
          have := HOK.out.2.1
          have := HOK.out.2.2
          omega
theorem class_any (B : Nat) (s : ByteArray) (p o : Nat) (nv pv : Value) (w : World) (h : Row w B s p o nv pv) (hp : p ≤ s.size) (hs : s.size ≤ 200) :
    Calls Try.prog 37 #[.pointer (some ⟨B, 0, none⟩)] w (LP B s o nv pv w setV (cls (by' s) p)) := by
  by_cases hk : pk (by' s) p = 94
  · rw [cls_yes hk]
    exact class_yes B s p o nv pv w h hs hk
  · rw [cls_no hk]
    exact class_no B s p o nv pv w h hp hs hk
end Go.Proofs.Ytbmoanhdpnaocaa
