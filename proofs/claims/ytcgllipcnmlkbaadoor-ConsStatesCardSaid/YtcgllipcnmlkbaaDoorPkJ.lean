/- Several texts in one. -/
import Derived.Test.YtcgllipcnmlkbaaDoorPkI
import Derived.Test.YtcgllipcnmlkbaaDoorPkD
import Derived.Test.YtcgllipcnmlkbaaDoorPkC
namespace Go.Proofs.YtcgllipcnmlkbaaDoor
open Go.RowKit Sets Tr Rx
theorem Row.drewN {w : World} {B : Nat} {s : ByteArray} {p o : Nat} {nv pv : Value} (h : Row w B s p o nv pv) (n : Nat) : Row (w.drewN n) B s p o nv pv := h
theorem by_extract (s : ByteArray) (p : Nat) : by' (s.extract p s.size) = (by' s).drop p := by
  unfold by'
  rw [Lib.extract_data, List.take_of_length_le (by rw [List.length_drop, Array.length_toList]; exact Nat.le_refl _), List.map_drop]
theorem size_rest (s : ByteArray) (p : Nat) : (s.extract p s.size).size = s.size - p := by
  rw [← by_len, by_extract, List.length_drop, by_len]
theorem index_rest (s : ByteArray) (p k : Nat) (h : p + k < s.size) (w : World) : (Instr.index 9 (.string (s.extract p s.size)) (.int .i64 (k : Nat))).run Tryd.prog w = .ok (.int .u8 (pk (by' s) (p + k) : Nat)) w := by
  rw [index_by (s.extract p s.size) k k rfl (by rw [size_rest]; omega), by_extract]
  unfold pk
  rw [List.getD_eq_getElem?_getD, List.getD_eq_getElem?_getD, List.getElem?_drop]
theorem shl_bits : ∀ x : Nat, x < 16 → ∀ y : Nat, y < 16 → bits .or .u8 ((x : Int) * 16) (y : Int) = ((x * 16 + y : Nat) : Int) := by decide +kernel
theorem escape_bad {l m : List Nat} {p : Nat} (h1 : m.contains (pk l (p + 1)) = false) (h2 : pk l (p + 1) = 120 → hx l p = none) : escape l m p = .bad p := by
  unfold escape
  rw [if_neg (by rw [h1]; exact Bool.false_ne_true)]
  split
  · rename_i h; rw [h2 h]
  · rfl
set_option maxHeartbeats 3200000 in
theorem escape_any (B : Nat) (s : ByteArray) (p o : Nat) (nv pv : Value) (ms : ByteArray) (m : List Nat) (w : World) (h : Row w B s p o nv pv) (hp : p < s.size) (hs : s.size ≤ 200) (hm : HasB ms m) (hmo : MOk m) :
    Calls Tryd.prog 85 #[.pointer (some ⟨B, 0, none⟩), .string ms] w (LP B s o nv pv w u8V (escape (by' s) m p)) := by
  obtain ⟨c0, c1, -, -, -⟩ := h.cells
  have f1 := h.frozen 1
  have hB := h.lt
  have HR := Lib.hid h
  clear h
  have hsz := size_rest s p
  have hle : p ≤ s.size := by omega
  have hd0 : decide (p ≤ s.size) = true := decide_eq_true hle
  by_cases h1 : s.size - p ≤ 1
  · have hr : escape (by' s) m p = .bad p := by
      have he := pk_end (l := by' s) (p := p + 1) (by rw [by_len]; omega)
      refine escape_bad ?_ ?_
      · rw [he, Bool.eq_false_iff]; intro hh; have := hmo _ hh; omega
      · rw [he]; intro hh; omega
    rw [hr]
    have g1 : decide ((1 : Int) < ((s.size - p : Nat) : Int)) = false := decide_eq_false (by omega)
    have g2 : decide ((3 : Int) < ((s.size - p : Nat) : Int)) = false := decide_eq_false (by omega)
    clear hr h1 hm hmo
    go_enter Tryd.func85, Tryd.ntmps85
    go_wp2_with fail
    go_quiet (fail)
    go_wp2_with fail
    exact ⟨rfl, rfl, (But.refl _ _).drewN _⟩
  · have g1 : decide ((1 : Int) < ((s.size - p : Nat) : Int)) = true := decide_eq_true (by omega)
    have i1 : ∀ w, (Instr.index 9 (.string (s.extract p s.size)) (.int .i64 1)).run Tryd.prog w = .ok (.int .u8 (pk (by' s) (p + 1) : Nat)) w := index_rest s p 1 (by omega)
    have hk := pk_ne (l := by' s) (p := p + 1) (by rw [by_len]; omega) (by_lt s)
    have hi := hm _ hk
    have HI := fun w => index_bytes ms (pk (by' s) (p + 1)) w
    generalize Lib.indexByte ms.data.toList (((pk (by' s) (p + 1) : Nat) : Int)).toNat.toUInt8 = q at hi HI
    have HI := Lib.hid HI
    cases hc : m.contains (pk (by' s) (p + 1)) with
    | true =>
      have hr : escape (by' s) m p = .ok (pk (by' s) (p + 1)) (p + 2) := if_pos hc
      rw [hr]
      rw [hc] at hi
      clear hr hm hmo hc
      generalize pk (by' s) (p + 1) = k at *
      go_enter Tryd.func85, Tryd.ntmps85
      go_wp2_with fail
      go_quiet (fail)
      go_wp2_with (go_at_call 69; refine (HI.out _).mono ?_; rintro e w' ⟨rfl, rfl⟩)
      go_ret
      exact ⟨rfl, HR.out.put (p + 2), (But.set0 _ _ _ _).drewN _⟩
    | false =>
      rw [hc] at hi
      by_cases h3 : s.size - p ≤ 3
      · have hr : escape (by' s) m p = .bad p := by
          refine escape_bad hc (fun _ => ?_)
          cases hh : hx (by' s) p with
          | none => rfl
          | some x => have := (hx_some hh).2; rw [by_len] at this; omega
        rw [hr]
        have g2 : decide ((3 : Int) < ((s.size - p : Nat) : Int)) = false := decide_eq_false (by omega)
        clear hr hm hmo hc
        generalize pk (by' s) (p + 1) = k at *
        go_enter Tryd.func85, Tryd.ntmps85
        go_wp2_with fail
        go_quiet (fail)
        go_wp2_with (go_at_call 69; refine (HI.out _).mono ?_; rintro e w' ⟨rfl, rfl⟩)
        exact ⟨rfl, rfl, (But.refl _ _).drewN _⟩
      · have g2 : decide ((3 : Int) < ((s.size - p : Nat) : Int)) = true := decide_eq_true (by omega)
        by_cases hx0 : pk (by' s) (p + 1) = 120
        · have i2 : ∀ w, (Instr.index 9 (.string (s.extract p s.size)) (.int .i64 2)).run Tryd.prog w = .ok (.int .u8 (pk (by' s) (p + 2) : Nat)) w := index_rest s p 2 (by omega)
          have i3 : ∀ w, (Instr.index 9 (.string (s.extract p s.size)) (.int .i64 3)).run Tryd.prog w = .ok (.int .u8 (pk (by' s) (p + 3) : Nat)) w := index_rest s p 3 (by omega)
          have k2 := pk_ne (l := by' s) (p := p + 2) (by rw [by_len]; omega) (by_lt s)
          have k3 := pk_ne (l := by' s) (p := p + 3) (by rw [by_len]; omega) (by_lt s)
          have V2 := fun w => value_any _ w k2
          have V3 := fun w => value_any _ w k3
          have hesc : escape (by' s) m p = (match hx (by' s) p with | some x => .ok x (p + 4) | none => .bad p) := by
            unfold escape
            rw [if_neg (by rw [hc]; exact Bool.false_ne_true), if_pos hx0]
            cases hx (by' s) p <;> rfl
          rw [hesc]
          unfold hx
          rw [hx0] at i1 HI
          clear hesc hm hmo hc hx0 hk
          generalize pk (by' s) (p + 2) = b2 at *
          generalize pk (by' s) (p + 3) = b3 at *
          cases v2 : Pct.val b2 with
          | none =>
            rw [v2] at V2
            simp only [valV] at V2 ⊢
            cases v3 : Pct.val b3 with
            | none =>
              rw [v3] at V3
              simp only [valV] at V3 ⊢
              have V2 := Lib.hid V2
              have V3 := Lib.hid V3
              clear v2 v3
              go_enter Tryd.func85, Tryd.ntmps85
              go_wp2_with fail
              go_quiet (fail)
              go_wp2_with (go_at_call 69; refine (HI.out _).mono ?_; rintro e w' ⟨rfl, rfl⟩)
              refine (V2.out _).mono ?_; rintro e w' ⟨rfl, rfl⟩
              go_wp2_with fail
              refine (V3.out _).mono ?_; rintro e w' ⟨rfl, rfl⟩
              go_wp2_with fail
              exact ⟨rfl, rfl, (But.refl _ _).drewN _⟩
            | some y =>
              rw [v3] at V3
              simp only [valV] at V3 ⊢
              have V2 := Lib.hid V2
              have V3 := Lib.hid V3
              clear v2 v3
              go_enter Tryd.func85, Tryd.ntmps85
              go_wp2_with fail
              go_quiet (fail)
              go_wp2_with (go_at_call 69; refine (HI.out _).mono ?_; rintro e w' ⟨rfl, rfl⟩)
              refine (V2.out _).mono ?_; rintro e w' ⟨rfl, rfl⟩
              go_wp2_with fail
              refine (V3.out _).mono ?_; rintro e w' ⟨rfl, rfl⟩
              go_wp2_with fail
              exact ⟨rfl, rfl, (But.refl _ _).drewN _⟩
          | some x =>
            rw [v2] at V2
            simp only [valV] at V2 ⊢
            cases v3 : Pct.val b3 with
            | none =>
              rw [v3] at V3
              simp only [valV] at V3 ⊢
              have V2 := Lib.hid V2
              have V3 := Lib.hid V3
              clear v2 v3
              go_enter Tryd.func85, Tryd.ntmps85
              go_wp2_with fail
              go_quiet (fail)
              go_wp2_with (go_at_call 69; refine (HI.out _).mono ?_; rintro e w' ⟨rfl, rfl⟩)
              refine (V2.out _).mono ?_; rintro e w' ⟨rfl, rfl⟩
              go_wp2_with fail
              refine (V3.out _).mono ?_; rintro e w' ⟨rfl, rfl⟩
              go_wp2_with fail
              exact ⟨rfl, rfl, (But.refl _ _).drewN _⟩
            | some y =>
              rw [v3] at V3
              simp only [valV] at V3 ⊢
              have hx16 := Pct.val_lt v2
              have hy16 := Pct.val_lt v3
              have hs4 := Lib.hid (shl_bits x hx16 y hy16)
              have V2 := Lib.hid V2
              have V3 := Lib.hid V3
              clear v2 v3
              go_enter Tryd.func85, Tryd.ntmps85
              go_wp2_with fail
              go_quiet (fail)
              go_wp2_with (go_at_call 69; refine (HI.out _).mono ?_; rintro e w' ⟨rfl, rfl⟩)
              refine (V2.out _).mono ?_; rintro e w' ⟨rfl, rfl⟩
              go_wp2_with fail
              refine (V3.out _).mono ?_; rintro e w' ⟨rfl, rfl⟩
              go_wp2_with fail
              go_ret
              refine ⟨?_, HR.out.put (p + 4), (But.set0 _ _ _ _).drewN _⟩
              refine congrArg (fun t => Ending.returned (Value.int .u8 t)) ?_
              exact hs4.out
        · have hr : escape (by' s) m p = .bad p := escape_bad hc (fun h => absurd h hx0)
          rw [hr]
          have g3 : ((pk (by' s) (p + 1) : Int) == 120) = false := by rw [beq_eq_false_iff_ne]; omega
          clear hr hm hmo hc hx0
          generalize pk (by' s) (p + 1) = k at *
          go_enter Tryd.func85, Tryd.ntmps85
          go_wp2_with fail
          go_quiet (fail)
          go_wp2_with (go_at_call 69; refine (HI.out _).mono ?_; rintro e w' ⟨rfl, rfl⟩)
          exact ⟨rfl, rfl, (But.refl _ _).drewN _⟩
set_option maxHeartbeats 1600000 in
theorem single_any (B : Nat) (s : ByteArray) (p o : Nat) (nv pv : Value) (ms : ByteArray) (m : List Nat) (w : World) (h : Row w B s p o nv pv) (hp : p ≤ s.size) (hs : s.size ≤ 200) (hm : HasB ms m) (hmo : MOk m) :
    Calls Tryd.prog 78 #[.pointer (some ⟨B, 0, none⟩), .string ms] w (LP B s o nv pv w u8V (single (by' s) m p)) := by
  obtain ⟨c0, c1, -, -, -⟩ := h.cells
  have f1 := h.frozen 1
  have hB := h.lt
  have HR := Lib.hid h
  clear h
  by_cases e : p = s.size
  · have he : ((p : Int) == (s.size : Int)) = true := by simp; omega
    have hr : single (by' s) m p = .bad p := if_pos (pk_end (by rw [by_len]; omega))
    rw [hr]
    clear hr e hm hmo
    go_enter Tryd.func78, Tryd.ntmps78
    go_wp2_with fail
    go_quiet (fail)
    go_wp2_with fail
    exact ⟨rfl, rfl, (But.refl _ _).drewN _⟩
  · have he : ((p : Int) == (s.size : Int)) = false := by rw [beq_eq_false_iff_ne]; omega
    have ix := index_by s p p rfl (by omega)
    have hlt : p < s.size := by omega
    have hk := pk_ne (l := by' s) (p := p) (by rw [by_len]; exact hlt) (by_lt s)
    have hr0 : single (by' s) m p = if pk (by' s) p = 92 then escape (by' s) m p else if m.contains (pk (by' s) p) then .bad p else .ok (pk (by' s) p) (p + 1) := if_neg (by omega)
    rw [hr0]
    clear hr0 e
    by_cases h92 : pk (by' s) p = 92
    · rw [if_pos h92]
      rw [h92] at ix
      have HE := Lib.hid (fun w' (hR : Row w' B s p o nv pv) => escape_any B s p o nv pv ms m w' hR hlt hs hm hmo)
      clear h92 hm hmo hk
      generalize escape (by' s) m p = r at *
      go_enter Tryd.func78, Tryd.ntmps78
      go_wp2_with fail
      go_quiet (fail)
      go_wp2_with fail
      go_quiet (fail)
      go_wp2_with fail
      refine (HE.out _ (Row.drewN HR.out _)).mono ?_
      intro e w' hL
      cases r with
      | bad q =>
        obtain ⟨rfl, hb⟩ := hL
        exact ⟨rfl, rfl, ((But.refl _ _).drewN _).trans hb⟩
      | ok x q =>
        obtain ⟨rfl, hR, hb⟩ := hL
        unfold u8V
        go_wp2_with fail
        go_ret
        exact ⟨rfl, hR, ((But.refl _ _).drewN _).trans hb⟩
    · rw [if_neg h92]
      have hi := hm _ hk
      have HI := fun w => index_bytes ms (pk (by' s) p) w
      generalize Lib.indexByte ms.data.toList (((pk (by' s) p : Nat) : Int)).toNat.toUInt8 = q at hi HI
      have HI := Lib.hid HI
      have g3 : ((pk (by' s) p : Int) == 92) = false := by rw [beq_eq_false_iff_ne]; omega
      clear h92 hm hmo
      generalize pk (by' s) p = k at *
      cases hc : m.contains k with
      | true =>
        rw [hc] at hi
        clear hc
        go_enter Tryd.func78, Tryd.ntmps78
        go_wp2_with fail
        go_quiet (fail)
        go_wp2_with fail
        go_quiet (fail)
        go_wp2_with (go_at_call 69; refine (HI.out _).mono ?_; rintro e w' ⟨rfl, rfl⟩)
        exact ⟨rfl, rfl, (But.refl _ _).drewN _⟩
      | false =>
        rw [hc] at hi
        clear hc
        go_enter Tryd.func78, Tryd.ntmps78
        go_wp2_with fail
        go_quiet (fail)
        go_wp2_with fail
        go_quiet (fail)
        go_wp2_with (go_at_call 69; refine (HI.out _).mono ?_; rintro e w' ⟨rfl, rfl⟩)
        go_ret
        exact ⟨rfl, HR.out.put (p + 1), (But.set0 _ _ _ _).drewN _⟩
end Go.Proofs.YtcgllipcnmlkbaaDoor
namespace Go.Proofs.YtcgllipcnmlkbaaDoor
open Go.RowKit Sets Tr Rx
def cntV (x : Nat × Nat) : Value := .tuple #[.int .i64 x.1, .int .i64 x.2]
def timV : Option (Int × Int) → Value
  | some (a, b) => .tuple #[.int .i64 a, .int .i64 b, .bool true]
  | none => .tuple #[.int .i64 0, .int .i64 0, .bool false]
/-- the row of a reader whose text is s -/
structure Rd (w : World) (B : Nat) (s : ByteArray) (p o : Nat) (nv pv : Value) : Prop where
  row : Row w B s p o nv pv
  le : p ≤ s.size
set_option maxHeartbeats 1600000 in
theorem counts_any (B : Nat) (s : ByteArray) (p o : Nat) (nv pv : Value) (w : World) (h : Row w B s p o nv pv) (hp : p ≤ s.size) (hs : s.size ≤ 200) :
    Calls Tryd.prog 79 #[.pointer (some ⟨B, 0, none⟩)] w (LP B s o nv pv w cntV (counts (by' s) p)) := by
  have hB := h.lt
  have HR := Lib.hid h
  have D := fun w' p (hR : Row w' B s p o nv pv) (hp : p ≤ s.size) => digit_any B s p o nv pv w' hR hp hs
  have Ty := fun w' p (c : Nat) (hR : Row w' B s p o nv pv) => take_yes B s p o nv pv c w' hR hs
  have Tn := fun w' p (c : Nat) (hR : Row w' B s p o nv pv) => take_no B s p o nv pv c w' hR
  have Ny := fun w' p (c : Nat) (hR : Row w' B s p o nv pv) => need_yes B s p o nv pv c w' hR hs
  have Nn := fun w' p (c : Nat) (hR : Row w' B s p o nv pv) => need_no B s p o nv pv c w' hR
  have D := Lib.hid D
  have Ty := Lib.hid Ty
  have Tn := Lib.hid Tn
  have Ny := Lib.hid Ny
  have Nn := Lib.hid Nn
  clear h
  have D1 := D.out w p HR.out hp
  unfold counts
  cases h1 : digit (by' s) p with
  | bad q =>
    rw [h1] at D1
    have D1 := Lib.hid D1
    clear h1
    go_enter Tryd.func79, Tryd.ntmps79
    go_wp2_with fail
    refine D1.out.mono ?_
    rintro e w' ⟨rfl, hb⟩
    exact ⟨rfl, rfl, hb⟩
  | ok a p1 =>
    rw [h1] at D1
    have D1 := Lib.hid D1
    have hl1 := (digit_ok h1).2.2
    rw [by_len] at hl1
    clear h1
    simp only
    by_cases h44 : pk (by' s) p1 = 44
    · rw [if_pos h44]
      have hp2 : p1 + 1 ≤ s.size := by rw [← by_len]; exact pk_lt (by omega)
      cases h2 : digit (by' s) (p1 + 1) with
      | bad q =>
        have D2 := Lib.hid (fun w' hR => h2 ▸ D.out w' (p1 + 1) hR hp2)
        clear h2
        go_enter Tryd.func79, Tryd.ntmps79
        go_wp2_with fail
        refine D1.out.mono ?_
        rintro e w' ⟨rfl, hR1, hb1⟩
        unfold intV
        go_wp2_with fail
        refine (Ty.out _ p1 44 hR1 (by decide) h44).mono ?_
        rintro e w' ⟨rfl, hR2, hb2⟩
        go_wp2_with fail
        refine (D2.out _ hR2).mono ?_
        rintro e w' ⟨rfl, hb3⟩
        exact ⟨rfl, rfl, (hb1.trans hb2).trans hb3⟩
      | ok b p2 =>
        have D2 := Lib.hid (fun w' hR => h2 ▸ D.out w' (p1 + 1) hR hp2)
        have hl3 := (digit_ok h2).2.2
        have hp3 : 1 ≤ p2 := by have := (digit_ok h2).2.1; omega
        rw [by_len] at hl3
        clear h2
        simp only
        by_cases hba : b < a
        · rw [if_pos hba]
          have d1 : decide (b < a) = true := decide_eq_true hba
          have d2 : decide ((b : Int) < (a : Int)) = true := decide_eq_true (by omega)
          have hpp : ((p2 : Int) - 1) = ((p2 - 1 : Nat) : Int) := by omega
          have HPP := Lib.hid hpp
          clear hpp
          go_enter Tryd.func79, Tryd.ntmps79
          go_wp2_with fail
          refine D1.out.mono ?_
          rintro e w' ⟨rfl, hR1, hb1⟩
          unfold intV
          go_wp2_with fail
          refine (Ty.out _ p1 44 hR1 (by decide) h44).mono ?_
          rintro e w' ⟨rfl, hR2, hb2⟩
          go_wp2_with fail
          refine (D2.out _ hR2).mono ?_
          rintro e w' ⟨rfl, hR3, hb3⟩
          obtain ⟨c0, c1, -, -, -⟩ := hR3.cells
          unfold intV
          go_wp2_with fail
          refine ⟨rfl, ?_, (hb1.trans hb2).trans hb3⟩
          first | rfl | (rw [HPP.out]; rfl) | (simp only [HPP.out]; rfl) | trace_state
        · rw [if_neg hba]
          have d1 : decide (b < a) = false := decide_eq_false hba
          have d2 : decide ((b : Int) < (a : Int)) = false := decide_eq_false (by omega)
          by_cases h125 : pk (by' s) p2 = 125
          · have hn : need (by' s) 125 p2 (a, b) = .ok (a, b) (p2 + 1) := if_pos h125
            rw [hn]
            clear hn
            go_enter Tryd.func79, Tryd.ntmps79
            go_wp2_with fail
            refine D1.out.mono ?_
            rintro e w' ⟨rfl, hR1, hb1⟩
            unfold intV
            go_wp2_with fail
            refine (Ty.out _ p1 44 hR1 (by decide) h44).mono ?_
            rintro e w' ⟨rfl, hR2, hb2⟩
            go_wp2_with fail
            refine (D2.out _ hR2).mono ?_
            rintro e w' ⟨rfl, hR3, hb3⟩
            unfold intV
            go_wp2_with fail
            refine (Ny.out _ p2 125 hR3 (by decide) h125).mono ?_
            rintro e w' ⟨rfl, hR4, hb4⟩
            go_wp2_with fail
            go_ret2
            exact ⟨rfl, hR4, ((hb1.trans hb2).trans hb3).trans hb4⟩
          · have hn : need (by' s) 125 p2 (a, b) = .bad p2 := if_neg h125
            rw [hn]
            clear hn
            go_enter Tryd.func79, Tryd.ntmps79
            go_wp2_with fail
            refine D1.out.mono ?_
            rintro e w' ⟨rfl, hR1, hb1⟩
            unfold intV
            go_wp2_with fail
            refine (Ty.out _ p1 44 hR1 (by decide) h44).mono ?_
            rintro e w' ⟨rfl, hR2, hb2⟩
            go_wp2_with fail
            refine (D2.out _ hR2).mono ?_
            rintro e w' ⟨rfl, hR3, hb3⟩
            unfold intV
            go_wp2_with fail
            refine (Nn.out _ p2 125 hR3 (by omega) h125).mono ?_
            rintro e w' ⟨rfl, hb4⟩
            exact ⟨rfl, rfl, ((hb1.trans hb2).trans hb3).trans hb4⟩
    · rw [if_neg h44]
      by_cases h125 : pk (by' s) p1 = 125
      · have hn : need (by' s) 125 p1 (a, a) = .ok (a, a) (p1 + 1) := if_pos h125
        rw [hn]
        clear hn
        go_enter Tryd.func79, Tryd.ntmps79
        go_wp2_with fail
        refine D1.out.mono ?_
        rintro e w' ⟨rfl, hR1, hb1⟩
        unfold intV
        go_wp2_with fail
        refine (Tn.out _ p1 44 hR1 (by omega) h44).mono ?_
        rintro e w' ⟨rfl, hR2, hb2⟩
        go_wp2_with fail
        refine (Ny.out _ p1 125 hR2 (by decide) h125).mono ?_
        rintro e w' ⟨rfl, hR3, hb3⟩
        go_wp2_with fail
        go_ret2
        exact ⟨rfl, hR3, (hb1.trans hb2).trans hb3⟩
      · have hn : need (by' s) 125 p1 (a, a) = .bad p1 := if_neg h125
        rw [hn]
        clear hn
        go_enter Tryd.func79, Tryd.ntmps79
        go_wp2_with fail
        refine D1.out.mono ?_
        rintro e w' ⟨rfl, hR1, hb1⟩
        unfold intV
        go_wp2_with fail
        refine (Tn.out _ p1 44 hR1 (by omega) h44).mono ?_
        rintro e w' ⟨rfl, hR2, hb2⟩
        go_wp2_with fail
        refine (Nn.out _ p1 125 hR2 (by omega) h125).mono ?_
        rintro e w' ⟨rfl, hb3⟩
        exact ⟨rfl, rfl, (hb1.trans hb2).trans hb3⟩
set_option maxHeartbeats 1600000 in
theorem times_any (B : Nat) (s : ByteArray) (p o : Nat) (nv pv : Value) (w : World) (h : Row w B s p o nv pv) (hp : p ≤ s.size) (hs : s.size ≤ 200) :
    Calls Tryd.prog 71 #[.pointer (some ⟨B, 0, none⟩)] w (LP B s o nv pv w timV (times (by' s) p)) := by
  have hB := h.lt
  have HR := Lib.hid h
  have Ty := Lib.hid (fun w' (c : Nat) (hR : Row w' B s p o nv pv) => take_yes B s p o nv pv c w' hR hs)
  have Tn := Lib.hid (fun w' (c : Nat) (hR : Row w' B s p o nv pv) => take_no B s p o nv pv c w' hR hp)
  clear h
  unfold times
  by_cases h1 : pk (by' s) p = 42
  · rw [if_pos h1]
    go_enter Tryd.func71, Tryd.ntmps71
    go_wp2_with fail
    refine (Ty.out _ 42 HR.out (by decide) h1).mono ?_
    rintro e w' ⟨rfl, hR1, hb1⟩
    go_wp2_with fail
    go_ret3
    exact ⟨rfl, hR1, hb1⟩
  rw [if_neg h1]
  by_cases h2 : pk (by' s) p = 43
  · rw [if_pos h2]
    go_enter Tryd.func71, Tryd.ntmps71
    go_wp2_with fail
    refine (Tn.out _ 42 HR.out h1).mono ?_
    rintro e w' ⟨rfl, hR1, hb1⟩
    go_wp2_with fail
    refine (Ty.out _ 43 hR1 (by decide) h2).mono ?_
    rintro e w' ⟨rfl, hR2, hb2⟩
    go_wp2_with fail
    go_ret3
    exact ⟨rfl, hR2, hb1.trans hb2⟩
  rw [if_neg h2]
  by_cases h3 : pk (by' s) p = 63
  · rw [if_pos h3]
    go_enter Tryd.func71, Tryd.ntmps71
    go_wp2_with fail
    refine (Tn.out _ 42 HR.out h1).mono ?_
    rintro e w' ⟨rfl, hR1, hb1⟩
    go_wp2_with fail
    refine (Tn.out _ 43 hR1 h2).mono ?_
    rintro e w' ⟨rfl, hR2, hb2⟩
    go_wp2_with fail
    refine (Ty.out _ 63 hR2 (by decide) h3).mono ?_
    rintro e w' ⟨rfl, hR3, hb3⟩
    go_wp2_with fail
    go_ret3
    exact ⟨rfl, hR3, (hb1.trans hb2).trans hb3⟩
  rw [if_neg h3]
  by_cases h4 : pk (by' s) p = 123
  · rw [if_pos h4]
    have hp2 : p + 1 ≤ s.size := by rw [← by_len]; exact pk_lt (by omega)
    have HC := Lib.hid (fun w' (hR : Row w' B s (p + 1) o nv pv) => counts_any B s (p + 1) o nv pv w' hR hp2 hs)
    generalize counts (by' s) (p + 1) = r at *
    cases r with
    | bad q =>
      go_enter Tryd.func71, Tryd.ntmps71
      go_wp2_with fail
      refine (Tn.out _ 42 HR.out h1).mono ?_
      rintro e w' ⟨rfl, hR1, hb1⟩
      go_wp2_with fail
      refine (Tn.out _ 43 hR1 h2).mono ?_
      rintro e w' ⟨rfl, hR2, hb2⟩
      go_wp2_with fail
      refine (Tn.out _ 63 hR2 h3).mono ?_
      rintro e w' ⟨rfl, hR3, hb3⟩
      go_wp2_with fail
      refine (Ty.out _ 123 hR3 (by decide) h4).mono ?_
      rintro e w' ⟨rfl, hR4, hb4⟩
      go_wp2_with fail
      refine (HC.out _ hR4).mono ?_
      rintro e w' ⟨rfl, hb5⟩
      exact ⟨rfl, rfl, (((hb1.trans hb2).trans hb3).trans hb4).trans hb5⟩
    | ok ab q =>
      obtain ⟨a, b⟩ := ab
      go_enter Tryd.func71, Tryd.ntmps71
      go_wp2_with fail
      refine (Tn.out _ 42 HR.out h1).mono ?_
      rintro e w' ⟨rfl, hR1, hb1⟩
      go_wp2_with fail
      refine (Tn.out _ 43 hR1 h2).mono ?_
      rintro e w' ⟨rfl, hR2, hb2⟩
      go_wp2_with fail
      refine (Tn.out _ 63 hR2 h3).mono ?_
      rintro e w' ⟨rfl, hR3, hb3⟩
      go_wp2_with fail
      refine (Ty.out _ 123 hR3 (by decide) h4).mono ?_
      rintro e w' ⟨rfl, hR4, hb4⟩
      go_wp2_with fail
      refine (HC.out _ hR4).mono ?_
      rintro e w' ⟨rfl, hR5, hb5⟩
      unfold cntV
      go_wp2_with fail
      go_ret3
      exact ⟨rfl, hR5, (((hb1.trans hb2).trans hb3).trans hb4).trans hb5⟩
  · rw [if_neg h4]
    go_enter Tryd.func71, Tryd.ntmps71
    go_wp2_with fail
    refine (Tn.out _ 42 HR.out h1).mono ?_
    rintro e w' ⟨rfl, hR1, hb1⟩
    go_wp2_with fail
    refine (Tn.out _ 43 hR1 h2).mono ?_
    rintro e w' ⟨rfl, hR2, hb2⟩
    go_wp2_with fail
    refine (Tn.out _ 63 hR2 h3).mono ?_
    rintro e w' ⟨rfl, hR3, hb3⟩
    go_wp2_with fail
    refine (Tn.out _ 123 hR3 h4).mono ?_
    rintro e w' ⟨rfl, hR4, hb4⟩
    go_wp2_with fail
    go_ret3
    exact ⟨rfl, hR4, ((hb1.trans hb2).trans hb3).trans hb4⟩
end Go.Proofs.YtcgllipcnmlkbaaDoor
namespace Go.Proofs.YtcgllipcnmlkbaaDoor
open Go.RowKit Sets Tr Rx
theorem But.own {B b : Nat} {w w' : World} (h : But B w w') (hb : w.heap.size ≤ b) (i : Nat) (v : Value) : But B w (w'.setCell ⟨b, i, none⟩ v) :=
  ⟨h.os, h.tape, h.output, by simpa using h.size, fun k hk hn => by rw [Below.heap_setCell w' ⟨b, i, none⟩ v k (by simp only; omega)]; exact h.block k hk hn⟩
theorem But.allocR {B : Nat} {w w' : World} (h : But B w w') (o : Obj) : But B w (w'.alloc o) := h.trans (.alloc B w' o)
theorem But.belowR {B : Nat} {w w' w'' : World} (h : But B w w') (k : Below w'.heap.size w' w'') : But B w w'' := h.trans (.of_below k)
theorem Row.other {w : World} {B b i : Nat} {s : ByteArray} {p o : Nat} {nv pv v : Value} (h : Row w B s p o nv pv) (hb : b ≠ B) : Row (w.setCell ⟨b, i, none⟩ v) B s p o nv pv :=
  h.kept (Below.heap_setCell w ⟨b, i, none⟩ v B (by simp only; exact fun e => hb e.symm))
theorem Row.alloc {w : World} {B : Nat} {s : ByteArray} {p o : Nat} {nv pv : Value} (h : Row w B s p o nv pv) (ob : Obj) : Row (w.alloc ob) B s p o nv pv := h.kept (Below.heap_alloc _ _ _ h.lt)
theorem Row.below {w w' : World} {B : Nat} {s : ByteArray} {p o : Nat} {nv pv : Value} (h : Row w B s p o nv pv) (hb : Below w.heap.size w w') : Row w' B s p o nv pv := h.kept (hb.block _ h.lt)
/-- a set's words lie in block b -/
def Words (w : World) (b S : Nat) : Prop := w.heap[b]? = some (.cells #[.int .u64 (wd S 0), .int .u64 (wd S 1), .int .u64 (wd S 2), .int .u64 (wd S 3)] 52 (0, 0))
theorem Words.lt {w : World} {b S : Nat} (h : Words w b S) : b < w.heap.size := (Array.getElem?_eq_some_iff.1 h).1
theorem Words.cells {w : World} {b S : Nat} (h : Words w b S) :
    w.cell? ⟨b, 0, none⟩ = some (.int .u64 (wd S 0)) ∧ w.cell? ⟨b, 1, none⟩ = some (.int .u64 (wd S 1)) ∧ w.cell? ⟨b, 2, none⟩ = some (.int .u64 (wd S 2)) ∧ w.cell? ⟨b, 3, none⟩ = some (.int .u64 (wd S 3)) := by
  unfold Words at h; simp [World.cell?, h]
theorem Words.frozen {w : World} {b S : Nat} (h : Words w b S) : w.frozen? ⟨b, 0, none⟩ = false ∧ w.frozen? ⟨b, 1, none⟩ = false ∧ w.frozen? ⟨b, 2, none⟩ = false ∧ w.frozen? ⟨b, 3, none⟩ = false := by
  unfold Words at h; simp [World.frozen?, h]
theorem Words.kept {w w' : World} {b S : Nat} (h : Words w b S) (hk : w'.heap[b]? = w.heap[b]?) : Words w' b S := hk.trans h
theorem Words.but {w w' : World} {B b S : Nat} (h : Words w b S) (hb : But B w w') (hn : b ≠ B) : Words w' b S := h.kept (hb.block _ h.lt hn)
theorem Words.below {w w' : World} {b S : Nat} (h : Words w b S) (hb : Below w.heap.size w w') : Words w' b S := h.kept (hb.block _ h.lt)
theorem Words.alloc {w : World} {b S : Nat} (h : Words w b S) (o : Obj) : Words (w.alloc o) b S := h.kept (Below.heap_alloc _ _ _ h.lt)
theorem words_zero (w : World) : Words (w.alloc (.cells #[.int .u64 0, .int .u64 0, .int .u64 0, .int .u64 0] 52)) w.heap.size 0 := by
  unfold Words
  rw [heap_alloc_new]
  simp [wd]
theorem Words.put {w : World} {b S : Nat} (h : Words w b S) (T : Nat) :
    Words ((((w.setCell ⟨b, 0, none⟩ (.int .u64 (wd T 0))).setCell ⟨b, 1, none⟩ (.int .u64 (wd T 1))).setCell ⟨b, 2, none⟩ (.int .u64 (wd T 2))).setCell ⟨b, 3, none⟩ (.int .u64 (wd T 3))) b T := by
  unfold Words at *
  simp [World.setCell, Array.getElem?_modify, h]
def setV (S : Nat) : Value := .agg #[.int .u64 (wd S 0), .int .u64 (wd S 1), .int .u64 (wd S 2), .int .u64 (wd S 3)]
theorem bytes_one (w : World) (c : Nat) (hc : c < 256) : BytesAt (w.alloc (.cells #[.int .u8 c] 5)) (.slice (some ⟨w.heap.size, 0, none⟩) 1 1) [c] := by
  refine ⟨by intro x hx; rw [List.mem_singleton.1 hx]; exact hc, by unfold maxLen; simp, _, 1, rfl, fun i hi => ⟨w.heap.size, 0, rfl, ?_⟩⟩
  have : i = 0 := by simp at hi; omega
  subst this
  simp
theorem of_one (w : World) (c : Nat) (hc : c < 256) : Calls Tryd.prog 77 #[.slice (some ⟨w.heap.size, 0, none⟩) 1 1] (w.alloc (.cells #[.int .u8 c] 5)) fun e w' =>
    e = .returned (setV (2 ^ c)) ∧ Below (w.heap.size + 1) (w.alloc (.cells #[.int .u8 c] 5)) w' := by
  have h := of_any _ [c] _ (bytes_one w c hc)
  have e : ofN [c] = 2 ^ c := by simp [ofN]
  rw [e] at h
  refine h.mono ?_
  rintro e w' ⟨rfl, hb⟩
  exact ⟨rfl, by simpa using hb⟩
theorem range_one (w : World) (a b : Nat) (ha : a < 256) (hb : b < 256) : Calls Tryd.prog 87 #[.int .u8 a, .int .u8 b] w fun e w' =>
    e = .returned (setV (rangeN a b)) ∧ Below w.heap.size w w' := by
  have h := range_any (a : Int) (b : Int) w (by omega) (by omega) (by omega) (by omega)
  simp only [Int.toNat_natCast] at h
  exact h
set_option maxHeartbeats 1600000 in
theorem item_any (B : Nat) (s : ByteArray) (p o : Nat) (nv pv : Value) (w : World) (h : Row w B s p o nv pv) (hp : p ≤ s.size) (hs : s.size ≤ 200) :
    Calls Tryd.prog 83 #[.pointer (some ⟨B, 0, none⟩)] w (LP B s o nv pv w setV (item (by' s) p)) := by
  have hB := h.lt
  have hbB : w.heap.size ≠ B := by omega
  have HW0 := Lib.hid (words_zero w)
  have HR := Lib.hid (h.alloc (.cells #[.int .u64 0, .int .u64 0, .int .u64 0, .int .u64 0] 52))
  have HA := Lib.hid (But.alloc B w (.cells #[.int .u64 0, .int .u64 0, .int .u64 0, .int .u64 0] 52))
  have S1 := Lib.hid (fun w' p (hR : Row w' B s p o nv pv) hp => single_any B s p o nv pv sInner inner w' hR hp hs hasInner (fun _ => inner_lt))
  have Ty := Lib.hid (fun w' p (c : Nat) (hR : Row w' B s p o nv pv) => take_yes B s p o nv pv c w' hR hs)
  have Tn := Lib.hid (fun w' p (c : Nat) (hR : Row w' B s p o nv pv) => take_no B s p o nv pv c w' hR)
  clear h
  unfold item
  cases h1 : single (by' s) inner p with
  | bad q =>
    have D1 := Lib.hid (fun w' hR => h1 ▸ S1.out w' p hR hp)
    clear h1
    unfold sInner at *
    go_enter Tryd.func83, Tryd.ntmps83
    go_wp2_with fail
    refine (D1.out _ HR.out).mono ?_
    rintro e w' ⟨rfl, hb⟩
    exact ⟨rfl, rfl, HA.out.trans hb⟩
  | ok a p1 =>
    have D1 := Lib.hid (fun w' hR => h1 ▸ S1.out w' p hR hp)
    have hl1 := (single_ok (fun _ => inner_lt) (by_lt s) h1).2.2
    have ha := (single_ok (fun _ => inner_lt) (by_lt s) h1).1
    rw [by_len] at hl1
    clear h1
    simp only
    by_cases h45 : pk (by' s) p1 = 45
    · rw [if_pos h45]
      have hp2 : p1 + 1 ≤ s.size := by rw [← by_len]; exact pk_lt (by omega)
      cases h2 : single (by' s) inner (p1 + 1) with
      | bad q =>
        have D2 := Lib.hid (fun w' hR => h2 ▸ S1.out w' (p1 + 1) hR hp2)
        clear h2
        unfold sInner at *
        go_enter Tryd.func83, Tryd.ntmps83
        go_wp2_with fail
        refine (D1.out _ HR.out).mono ?_
        rintro e w1 ⟨rfl, hR1, hb1⟩
        unfold u8V
        go_wp2_with fail
        refine (Ty.out _ p1 45 hR1 (by decide) h45).mono ?_
        rintro e w2 ⟨rfl, hR2, hb2⟩
        obtain ⟨c0, c1, -, -, -⟩ := hR2.cells
        go_wp2_with fail
        refine (D2.out _ hR2).mono ?_
        rintro e w3 ⟨rfl, hb3⟩
        exact ⟨rfl, rfl, ((HA.out.trans hb1).trans hb2).trans hb3⟩
      | ok b p2 =>
        have D2 := Lib.hid (fun w' hR => h2 ▸ S1.out w' (p1 + 1) hR hp2)
        have hbb := (single_ok (fun _ => inner_lt) (by_lt s) h2).1
        clear h2
        simp only
        by_cases hba : b < a
        · rw [if_pos hba]
          have d1 : decide (b < a) = true := decide_eq_true hba
          have d2 : decide ((b : Int) < (a : Int)) = true := decide_eq_true (by omega)
          unfold sInner at *
          go_enter Tryd.func83, Tryd.ntmps83
          go_wp2_with fail
          refine (D1.out _ HR.out).mono ?_
          rintro e w1 ⟨rfl, hR1, hb1⟩
          unfold u8V
          go_wp2_with fail
          refine (Ty.out _ p1 45 hR1 (by decide) h45).mono ?_
          rintro e w2 ⟨rfl, hR2, hb2⟩
          obtain ⟨c0, c1, -, -, -⟩ := hR2.cells
          go_wp2_with fail
          refine (D2.out _ hR2).mono ?_
          rintro e w3 ⟨rfl, hR3, hb3⟩
          unfold u8V
          go_wp2_with fail
          exact ⟨rfl, rfl, ((HA.out.trans hb1).trans hb2).trans hb3⟩
        · rw [if_neg hba]
          have d1 : decide (b < a) = false := decide_eq_false hba
          have d2 : decide ((b : Int) < (a : Int)) = false := decide_eq_false (by omega)
          unfold sInner at *
          go_enter Tryd.func83, Tryd.ntmps83
          go_wp2_with fail
          refine (D1.out _ HR.out).mono ?_
          rintro e w1 ⟨rfl, hR1, hb1⟩
          unfold u8V
          go_wp2_with fail
          refine (Ty.out _ p1 45 hR1 (by decide) h45).mono ?_
          rintro e w2 ⟨rfl, hR2, hb2⟩
          obtain ⟨c0, c1, -, -, -⟩ := hR2.cells
          go_wp2_with fail
          refine (D2.out _ hR2).mono ?_
          rintro e w3 ⟨rfl, hR3, hb3⟩
          unfold u8V
          go_wp2_with fail
          refine (range_one _ a b ha hbb).mono ?_
          rintro e w4 ⟨rfl, hb4⟩
          have HW4 := Lib.hid (((((HW0.out.but hb1 hbB).but hb2 hbB).but hb3 hbB).below hb4))
          have HB4 := Lib.hid ((((HA.out.trans hb1).trans hb2).trans hb3).belowR hb4)
          have HR4 := Lib.hid (hR3.below hb4)
          obtain ⟨e0, e1, e2, e3⟩ := HW4.out.cells
          obtain ⟨f0, f1, f2, f3⟩ := HW4.out.frozen
          clear hb1 hb2 hb3 hb4 hR1 hR2 hR3 c0 c1
          unfold setV
          go_wp2_with fail
          have hput := HW4.out.put (rangeN a b)
          refine bodyPost_ret (v := setV (rangeN a b)) (results_cell_row (p := 2) Tryd.results83 _ _ w.heap.size 52 _ (0, 0) _ rfl hput Tryd.underlying52 rfl (by kernel_rfl)) rfl ⟨rfl, ?_, ?_⟩
          · exact (((HR4.out.other hbB).other hbB).other hbB).other hbB
          · exact (((HB4.out.own (Nat.le_refl _) _ _).own (Nat.le_refl _) _ _).own (Nat.le_refl _) _ _).own (Nat.le_refl _) _ _
    · rw [if_neg h45]
      unfold sInner at *
      go_enter Tryd.func83, Tryd.ntmps83
      go_wp2_with fail
      refine (D1.out _ HR.out).mono ?_
      rintro e w1 ⟨rfl, hR1, hb1⟩
      unfold u8V
      go_wp2_with fail
      refine (Tn.out _ p1 45 hR1 (by omega) h45).mono ?_
      rintro e w2 ⟨rfl, hR2, hb2⟩
      go_wp2_with fail
      refine (of_one _ a ha).mono ?_
      rintro e w4 ⟨rfl, hb4⟩
      have hb4 : Below (w2.alloc (.cells #[.int .u8 a] 5)).heap.size (w2.alloc (.cells #[.int .u8 a] 5)) w4 := by simpa using hb4
      have HW4 := Lib.hid ((((HW0.out.but hb1 hbB).but hb2 hbB).alloc (.cells #[.int .u8 a] 5)).below hb4)
      have HB4 := Lib.hid ((((HA.out.trans hb1).trans hb2).allocR (.cells #[.int .u8 a] 5)).belowR hb4)
      have HR4 := Lib.hid ((hR2.alloc (.cells #[.int .u8 a] 5)).below hb4)
      obtain ⟨e0, e1, e2, e3⟩ := HW4.out.cells
      obtain ⟨f0, f1, f2, f3⟩ := HW4.out.frozen
      clear hb1 hb2 hb4 hR1 hR2
      unfold setV
      go_wp2_with fail
      have hput := HW4.out.put (2 ^ a)
      refine bodyPost_ret (v := setV (2 ^ a)) (results_cell_row (p := 2) Tryd.results83 _ _ w.heap.size 52 _ (0, 0) _ rfl hput Tryd.underlying52 rfl (by kernel_rfl)) rfl ⟨rfl, ?_, ?_⟩
      · exact (((HR4.out.other hbB).other hbB).other hbB).other hbB
      · exact (((HB4.out.own (Nat.le_refl _) _ _).own (Nat.le_refl _) _ _).own (Nat.le_refl _) _ _).own (Nat.le_refl _) _ _
end Go.Proofs.YtcgllipcnmlkbaaDoor
