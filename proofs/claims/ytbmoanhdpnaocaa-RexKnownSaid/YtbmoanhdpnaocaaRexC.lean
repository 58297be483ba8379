/- escape and single. -/
import Derived.Test.YtbmoanhdpnaocaaRexB
namespace Go.Proofs.Ytbmoanhdpnaocaa
open Go.RowKit Sets Tr Rx
theorem Row.drewN {w : World} {B : Nat} {s : ByteArray} {p o : Nat} {nv pv : Value} (h : Row w B s p o nv pv) (n : Nat) : Row (w.drewN n) B s p o nv pv := h
theorem by_extract (s : ByteArray) (p : Nat) : by' (s.extract p s.size) = (by' s).drop p := by
  unfold by'
  rw [Lib.extract_data, List.take_of_length_le (by rw [List.length_drop, Array.length_toList]; exact Nat.le_refl _), List.map_drop]
theorem size_rest (s : ByteArray) (p : Nat) : (s.extract p s.size).size = s.size - p := by
  rw [← by_len, by_extract, List.length_drop, by_len]
theorem index_rest (s : ByteArray) (p k : Nat) (h : p + k < s.size) (w : World) : (Instr.index 9 (.string (s.extract p s.size)) (.int .i64 (k : Nat))).run Try.prog w = .ok (.int .u8 (pk (by' s) (p + k) : Nat)) w := by
  rw [index_by (s.extract p s.size) k k rfl (by rw [size_rest]; omega), by_extract]
  unfold pk
  rw [List.getD_eq_getElem?_getD, List.getD_eq_getElem?_getD, List.getElem?_drop]
theorem shl_bits : ∀ x : Nat, x < 16 → ∀ y : Nat, y < 16 → bits .or .u8 ((x : Int) * 16) (y : Int) = ((x * 16 + y : Nat) : Int) := by decide +kernel
theorem escape_bad {l m : List Nat} {p : Nat} (h1 : m.contains (pk l (p + 1)) = false) (h2 : pk l (p + 1) = 120 → hx l p = none) : escape l m p = .bad p := by
  unfold escape
  rw [if_neg (by rw [h1]; exact Bool.false_ne_true)]
  split
  · rename_i h; rw [h2 h]
  · rfl
set_option maxHeartbeats 3200000 in
theorem escape_any (B : Nat) (s : ByteArray) (p o : Nat) (nv pv : Value) (ms : ByteArray) (m : List Nat) (w : World) (h : Row w B s p o nv pv) (hp : p < s.size) (hs : s.size ≤ 200) (hm : HasB ms m) (hmo : MOk m) :
    Calls Try.prog 44 #[.pointer (some ⟨B, 0, none⟩), .string ms] w (LP B s o nv pv w u8V (escape (by' s) m p)) := by
  obtain ⟨c0, c1, -, -, -⟩ := h.cells
  have f1 := h.frozen 1
  have hB := h.lt
  have HR := Lib.hid h
  clear h
  have hsz := size_rest s p
  have hle : p ≤ s.size := by omega
  have hd0 : decide (p ≤ s.size) = true := decide_eq_true hle
  by_cases h1 : s.size - p ≤ 1
  · have hr : escape (by' s) m p = .bad p := by
      have he := pk_end (l := by' s) (p := p + 1) (by rw [by_len]; omega)
      refine escape_bad ?_ ?_
      · rw [he, Bool.eq_false_iff]; intro hh; have := hmo _ hh; omega
      · rw [he]; intro hh; omega
    rw [hr]
    have g1 : decide ((1 : Int) < ((s.size - p : Nat) : Int)) = false := decide_eq_false (by omega)
    have g2 : decide ((3 : Int) < ((s.size - p : Nat) : Int)) = false := decide_eq_false (by omega)
    clear hr h1 hm hmo
    go_enter Try.func44, Try.ntmps44
    go_wp2_with fail
    go_quiet (fail)
    go_wp2_with fail
    exact ⟨rfl, rfl, (But.refl _ _).drewN _⟩
  · have g1 : decide ((1 : Int) < ((s.size - p : Nat) : Int)) = true := decide_eq_true (by omega)
    have i1 : ∀ w, (Instr.index 9 (.string (s.extract p s.size)) (.int .i64 1)).run Try.prog w = .ok (.int .u8 (pk (by' s) (p + 1) : Nat)) w := index_rest s p 1 (by omega)
    have hk := pk_ne (l := by' s) (p := p + 1) (by rw [by_len]; omega) (by_lt s)
    have hi := hm _ hk
    have HI := fun w => index_bytes ms (pk (by' s) (p + 1)) w
    generalize Lib.indexByte ms.data.toList (((pk (by' s) (p + 1) : Nat) : Int)).toNat.toUInt8 = q at hi HI
    have HI := Lib.hid HI
    cases hc : m.contains (pk (by' s) (p + 1)) with
    | true =>
      have hr : escape (by' s) m p = .ok (pk (by' s) (p + 1)) (p + 2) := if_pos hc
      rw [hr]
      rw [hc] at hi
      clear hr hm hmo hc
      generalize pk (by' s) (p + 1) = k at *
      go_enter Try.func44, Try.ntmps44
      go_wp2_with fail
      go_quiet (fail)
      go_wp2_with (go_at_call 31; refine (HI.out _).mono ?_; rintro e w' ⟨rfl, rfl⟩)
      go_ret
      exact ⟨rfl, HR.out.put (p + 2), (But.set0 _ _ _ _).drewN _⟩
    | false =>
      rw [hc] at hi
      by_cases h3 : s.size - p ≤ 3
      · have hr : escape (by' s) m p = .bad p := by
          refine escape_bad hc (fun _ => ?_)
          cases hh : hx (by' s) p with
          | none => rfl
          | some x => have := (hx_some hh).2; rw [by_len] at this; omega
        rw [hr]
        have g2 : decide ((3 : Int) < ((s.size - p : Nat) : Int)) = false := decide_eq_false (by omega)
        clear hr hm hmo hc
        generalize pk (by' s) (p + 1) = k at *
        go_enter Try.func44, Try.ntmps44
        go_wp2_with fail
        go_quiet (fail)
        go_wp2_with (go_at_call 31; refine (HI.out _).mono ?_; rintro e w' ⟨rfl, rfl⟩)
        exact ⟨rfl, rfl, (But.refl _ _).drewN _⟩
      · have g2 : decide ((3 : Int) < ((s.size - p : Nat) : Int)) = true := decide_eq_true (by omega)
        by_cases hx0 : pk (by' s) (p + 1) = 120
        · have i2 : ∀ w, (Instr.index 9 (.string (s.extract p s.size)) (.int .i64 2)).run Try.prog w = .ok (.int .u8 (pk (by' s) (p + 2) : Nat)) w := index_rest s p 2 (by omega)
          have i3 : ∀ w, (Instr.index 9 (.string (s.extract p s.size)) (.int .i64 3)).run Try.prog w = .ok (.int .u8 (pk (by' s) (p + 3) : Nat)) w := index_rest s p 3 (by omega)
          have k2 := pk_ne (l := by' s) (p := p + 2) (by rw [by_len]; omega) (by_lt s)
          have k3 := pk_ne (l := by' s) (p := p + 3) (by rw [by_len]; omega) (by_lt s)
          have V2 := fun w => value_any _ w k2
          have V3 := fun w => value_any _ w k3
          have hesc : escape (by' s) m p = (match hx (by' s) p with | some x => .ok x (p + 4) | none => .bad p) := by
            unfold escape
            rw [if_neg (by rw [hc]; exact Bool.false_ne_true), if_pos hx0]
            cases hx (by' s) p <;> rfl
          rw [hesc]
          unfold hx
          rw [hx0] at i1 HI
          clear hesc hm hmo hc hx0 hk
          generalize pk (by' s) (p + 2) = b2 at *
          generalize pk (by' s) (p + 3) = b3 at *
          cases v2 : Pct.val b2 with
          | none =>
            rw [v2] at V2
            simp only [valV] at V2 ⊢
            cases v3 : Pct.val b3 with
            | none =>
              rw [v3] at V3
              simp only [valV] at V3 ⊢
              have V2 := Lib.hid V2
              have V3 := Lib.hid V3
              clear v2 v3
              go_enter Try.func44, Try.ntmps44
              go_wp2_with fail
              go_quiet (fail)
              go_wp2_with (go_at_call 31; refine (HI.out _).mono ?_; rintro e w' ⟨rfl, rfl⟩)
              refine (V2.out _).mono ?_; rintro e w' ⟨rfl, rfl⟩
              go_wp2_with fail
              refine (V3.out _).mono ?_; rintro e w' ⟨rfl, rfl⟩
              go_wp2_with fail
              exact ⟨rfl, rfl, (But.refl _ _).drewN _⟩
            | some y =>
              rw [v3] at V3
              simp only [valV] at V3 ⊢
              have V2 := Lib.hid V2
              have V3 := Lib.hid V3
              clear v2 v3
              go_enter Try.func44, Try.ntmps44
              go_wp2_with fail
              go_quiet (fail)
              go_wp2_with (go_at_call 31; refine (HI.out _).mono ?_; rintro e w' ⟨rfl, rfl⟩)
              refine (V2.out _).mono ?_; rintro e w' ⟨rfl, rfl⟩
              go_wp2_with fail
              refine (V3.out _).mono ?_; rintro e w' ⟨rfl, rfl⟩
              go_wp2_with fail
              exact ⟨rfl, rfl, (But.refl _ _).drewN _⟩
          | some x =>
            rw [v2] at V2
            simp only [valV] at V2 ⊢
            cases v3 : Pct.val b3 with
            | none =>
              rw [v3] at V3
              simp only [valV] at V3 ⊢
              have V2 := Lib.hid V2
              have V3 := Lib.hid V3
              clear v2 v3
              go_enter Try.func44, Try.ntmps44
              go_wp2_with fail
              go_quiet (fail)
              go_wp2_with (go_at_call 31; refine (HI.out _).mono ?_; rintro e w' ⟨rfl, rfl⟩)
              refine (V2.out _).mono ?_; rintro e w' ⟨rfl, rfl⟩
              go_wp2_with fail
              refine (V3.out _).mono ?_; rintro e w' ⟨rfl, rfl⟩
              go_wp2_with fail
              exact ⟨rfl, rfl, (But.refl _ _).drewN _⟩
            | some y =>
              rw [v3] at V3
              simp only [valV] at V3 ⊢
              have hx16 := Pct.val_lt v2
              have hy16 := Pct.val_lt v3
              have hs4 := Lib.hid (shl_bits x hx16 y hy16)
              have V2 := Lib.hid V2
              have V3 := Lib.hid V3
              clear v2 v3
              go_enter Try.func44, Try.ntmps44
              go_wp2_with fail
              go_quiet (fail)
              go_wp2_with (go_at_call 31; refine (HI.out _).mono ?_; rintro e w' ⟨rfl, rfl⟩)
              refine (V2.out _).mono ?_; rintro e w' ⟨rfl, rfl⟩
              go_wp2_with fail
              refine (V3.out _).mono ?_; rintro e w' ⟨rfl, rfl⟩
              go_wp2_with fail
              go_ret
              refine ⟨?_, HR.out.put (p + 4), (But.set0 _ _ _ _).drewN _⟩
              refine congrArg (fun t => Ending.returned (Value.int .u8 t)) ?_
              exact hs4.out
        · have hr : escape (by' s) m p = .bad p := escape_bad hc (fun h => absurd h hx0)
          rw [hr]
          have g3 : ((pk (by' s) (p + 1) : Int) == 120) = false := by rw [beq_eq_false_iff_ne]; omega
          clear hr hm hmo hc hx0
          generalize pk (by' s) (p + 1) = k at *
          go_enter Try.func44, Try.ntmps44
          go_wp2_with fail
          go_quiet (fail)
          go_wp2_with (go_at_call 31; refine (HI.out _).mono ?_; rintro e w' ⟨rfl, rfl⟩)
          exact ⟨rfl, rfl, (But.refl _ _).drewN _⟩
set_option maxHeartbeats 1600000 in
theorem single_any (B : Nat) (s : ByteArray) (p o : Nat) (nv pv : Value) (ms : ByteArray) (m : List Nat) (w : World) (h : Row w B s p o nv pv) (hp : p ≤ s.size) (hs : s.size ≤ 200) (hm : HasB ms m) (hmo : MOk m) :
    Calls Try.prog 38 #[.pointer (some ⟨B, 0, none⟩), .string ms] w (LP B s o nv pv w u8V (single (by' s) m p)) := by
  obtain ⟨c0, c1, -, -, -⟩ := h.cells
  have f1 := h.frozen 1
  have hB := h.lt
  have HR := Lib.hid h
  clear h
  by_cases e : p = s.size
  · have he : ((p : Int) == (s.size : Int)) = true := by simp; omega
    have hr : single (by' s) m p = .bad p := if_pos (pk_end (by rw [by_len]; omega))
    rw [hr]
    clear hr e hm hmo
    go_enter Try.func38, Try.ntmps38
    go_wp2_with fail
    go_quiet (fail)
    go_wp2_with fail
    exact ⟨rfl, rfl, (But.refl _ _).drewN _⟩
  · have he : ((p : Int) == (s.size : Int)) = false := by rw [beq_eq_false_iff_ne]; omega
    have ix := index_by s p p rfl (by omega)
    have hlt : p < s.size := by omega
    have hk := pk_ne (l := by' s) (p := p) (by rw [by_len]; exact hlt) (by_lt s)
    have hr0 : single (by' s) m p = if pk (by' s) p = 92 then escape (by' s) m p else if m.contains (pk (by' s) p) then .bad p else .ok (pk (by' s) p) (p + 1) := if_neg (by omega)
    rw [hr0]
    clear hr0 e
    by_cases h92 : pk (by' s) p = 92
    · rw [if_pos h92]
      rw [h92] at ix
      have HE := Lib.hid (fun w' (hR : Row w' B s p o nv pv) => escape_any B s p o nv pv ms m w' hR hlt hs hm hmo)
      clear h92 hm hmo hk
      generalize escape (by' s) m p = r at *
      go_enter Try.func38, Try.ntmps38
      go_wp2_with fail
      go_quiet (fail)
      go_wp2_with fail
      go_quiet (fail)
      go_wp2_with fail
      refine (HE.out _ (Row.drewN HR.out _)).mono ?_
      intro e w' hL
      cases r with
      | bad q =>
        obtain ⟨rfl, hb⟩ := hL
        exact ⟨rfl, rfl, ((But.refl _ _).drewN _).trans hb⟩
      | ok x q =>
        obtain ⟨rfl, hR, hb⟩ := hL
        unfold u8V
        go_wp2_with fail
        go_ret
        exact ⟨rfl, hR, ((But.refl _ _).drewN _).trans hb⟩
    · rw [if_neg h92]
      have hi := hm _ hk
      have HI := fun w => index_bytes ms (pk (by' s) p) w
      generalize Lib.indexByte ms.data.toList (((pk (by' s) p : Nat) : Int)).toNat.toUInt8 = q at hi HI
      have HI := Lib.hid HI
      have g3 : ((pk (by' s) p : Int) == 92) = false := by rw [beq_eq_false_iff_ne]; omega
      clear h92 hm hmo
      generalize pk (by' s) p = k at *
      cases hc : m.contains k with
      | true =>
        rw [hc] at hi
        clear hc
        go_enter Try.func38, Try.ntmps38
        go_wp2_with fail
        go_quiet (fail)
        go_wp2_with fail
        go_quiet (fail)
        go_wp2_with (go_at_call 31; refine (HI.out _).mono ?_; rintro e w' ⟨rfl, rfl⟩)
        exact ⟨rfl, rfl, (But.refl _ _).drewN _⟩
      | false =>
        rw [hc] at hi
        clear hc
        go_enter Try.func38, Try.ntmps38
        go_wp2_with fail
        go_quiet (fail)
        go_wp2_with fail
        go_quiet (fail)
        go_wp2_with (go_at_call 31; refine (HI.out _).mono ?_; rintro e w' ⟨rfl, rfl⟩)
        go_ret
        exact ⟨rfl, HR.out.put (p + 1), (But.set0 _ _ _ _).drewN _⟩
end Go.Proofs.Ytbmoanhdpnaocaa
