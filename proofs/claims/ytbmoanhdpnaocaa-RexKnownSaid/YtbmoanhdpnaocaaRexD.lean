/- counts, times. -/
import Derived.Test.YtbmoanhdpnaocaaRexC
namespace Go.Proofs.Ytbmoanhdpnaocaa
open Go.RowKit Sets Tr Rx
def cntV (x : Nat × Nat) : Value := .tuple #[.int .i64 x.1, .int .i64 x.2]
def timV : Option (Int × Int) → Value
  | some (a, b) => .tuple #[.int .i64 a, .int .i64 b, .bool true]
  | none => .tuple #[.int .i64 0, .int .i64 0, .bool false]
/-- the row of a reader whose text is s -/
structure Rd (w : World) (B : Nat) (s : ByteArray) (p o : Nat) (nv pv : Value) : Prop where
  row : Row w B s p o nv pv
  le : p ≤ s.size
set_option maxHeartbeats 1600000 in
theorem counts_any (B : Nat) (s : ByteArray) (p o : Nat) (nv pv : Value) (w : World) (h : Row w B s p o nv pv) (hp : p ≤ s.size) (hs : s.size ≤ 200) :
    Calls Try.prog 39 #[.pointer (some ⟨B, 0, none⟩)] w (LP B s o nv pv w cntV (counts (by' s) p)) := by
  have hB := h.lt
  have HR := Lib.hid h
  have D := fun w' p (hR : Row w' B s p o nv pv) (hp : p ≤ s.size) => digit_any B s p o nv pv w' hR hp hs
  have Ty := fun w' p (c : Nat) (hR : Row w' B s p o nv pv) => take_yes B s p o nv pv c w' hR hs
  have Tn := fun w' p (c : Nat) (hR : Row w' B s p o nv pv) => take_no B s p o nv pv c w' hR
  have Ny := fun w' p (c : Nat) (hR : Row w' B s p o nv pv) => need_yes B s p o nv pv c w' hR hs
  have Nn := fun w' p (c : Nat) (hR : Row w' B s p o nv pv) => need_no B s p o nv pv c w' hR
  have D := Lib.hid D
  have Ty := Lib.hid Ty
  have Tn := Lib.hid Tn
  have Ny := Lib.hid Ny
  have Nn := Lib.hid Nn
  clear h
  have D1 := D.out w p HR.out hp
  unfold counts
  cases h1 : digit (by' s) p with
  | bad q =>
    rw [h1] at D1
    have D1 := Lib.hid D1
    clear h1
    go_enter Try.func39, Try.ntmps39
    go_wp2_with fail
    refine D1.out.mono ?_
    rintro e w' ⟨rfl, hb⟩
    exact ⟨rfl, rfl, hb⟩
  | ok a p1 =>
    rw [h1] at D1
    have D1 := Lib.hid D1
    have hl1 := (digit_ok h1).2.2
    rw [by_len] at hl1
    clear h1
    simp only
    by_cases h44 : pk (by' s) p1 = 44
    · rw [if_pos h44]
      have hp2 : p1 + 1 ≤ s.size := by rw [← by_len]; exact pk_lt (by omega)
      cases h2 : digit (by' s) (p1 + 1) with
      | bad q =>
        have D2 := Lib.hid (fun w' hR => h2 ▸ D.out w' (p1 + 1) hR hp2)
        clear h2
        go_enter Try.func39, Try.ntmps39
        go_wp2_with fail
        refine D1.out.mono ?_
        rintro e w' ⟨rfl, hR1, hb1⟩
        unfold intV
        go_wp2_with fail
        refine (Ty.out _ p1 44 hR1 (by decide) h44).mono ?_
        rintro e w' ⟨rfl, hR2, hb2⟩
        go_wp2_with fail
        refine (D2.out _ hR2).mono ?_
        rintro e w' ⟨rfl, hb3⟩
        exact ⟨rfl, rfl, (hb1.trans hb2).trans hb3⟩
      | ok b p2 =>
        have D2 := Lib.hid (fun w' hR => h2 ▸ D.out w' (p1 + 1) hR hp2)
        have hl3 := (digit_ok h2).2.2
        have hp3 : 1 ≤ p2 := by have := (digit_ok h2).2.1; omega
        rw [by_len] at hl3
        clear h2
        simp only
        by_cases hba : b < a
        · rw [if_pos hba]
          have d1 : decide (b < a) = true := decide_eq_true hba
          have d2 : decide ((b : Int) < (a : Int)) = true := decide_eq_true (by omega)
          have hpp : ((p2 : Int) - 1) = ((p2 - 1 : Nat) : Int) := by omega
          have HPP := Lib.hid hpp
          clear hpp
          go_enter Try.func39, Try.ntmps39
          go_wp2_with fail
          refine D1.out.mono ?_
          rintro e w' ⟨rfl, hR1, hb1⟩
          unfold intV
          go_wp2_with fail
          refine (Ty.out _ p1 44 hR1 (by decide) h44).mono ?_
          rintro e w' ⟨rfl, hR2, hb2⟩
          go_wp2_with fail
          refine (D2.out _ hR2).mono ?_
          rintro e w' ⟨rfl, hR3, hb3⟩
          obtain ⟨c0, c1, -, -, -⟩ := hR3.cells
          unfold intV
          go_wp2_with fail
          refine ⟨rfl, ?_, (hb1.trans hb2).trans hb3⟩
          first | rfl | (rw [HPP.out]; rfl) | (simp only [HPP.out]; rfl) | trace_state
        · rw [if_neg hba]
          have d1 : decide (b < a) = false := decide_eq_false hba
          have d2 : decide ((b : Int) < (a : Int)) = false := decide_eq_false (by omega)
          by_cases h125 : pk (by' s) p2 = 125
          · have hn : need (by' s) 125 p2 (a, b) = .ok (a, b) (p2 + 1) := if_pos h125
            rw [hn]
            clear hn
            go_enter Try.func39, Try.ntmps39
            go_wp2_with fail
            refine D1.out.mono ?_
            rintro e w' ⟨rfl, hR1, hb1⟩
            unfold intV
            go_wp2_with fail
            refine (Ty.out _ p1 44 hR1 (by decide) h44).mono ?_
            rintro e w' ⟨rfl, hR2, hb2⟩
            go_wp2_with fail
            refine (D2.out _ hR2).mono ?_
            rintro e w' ⟨rfl, hR3, hb3⟩
            unfold intV
            go_wp2_with fail
            refine (Ny.out _ p2 125 hR3 (by decide) h125).mono ?_
            rintro e w' ⟨rfl, hR4, hb4⟩
            go_wp2_with fail
            go_ret2
            exact ⟨rfl, hR4, ((hb1.trans hb2).trans hb3).trans hb4⟩
          · have hn : need (by' s) 125 p2 (a, b) = .bad p2 := if_neg h125
            rw [hn]
            clear hn
            go_enter Try.func39, Try.ntmps39
            go_wp2_with fail
            refine D1.out.mono ?_
            rintro e w' ⟨rfl, hR1, hb1⟩
            unfold intV
            go_wp2_with fail
            refine (Ty.out _ p1 44 hR1 (by decide) h44).mono ?_
            rintro e w' ⟨rfl, hR2, hb2⟩
            go_wp2_with fail
            refine (D2.out _ hR2).mono ?_
            rintro e w' ⟨rfl, hR3, hb3⟩
            unfold intV
            go_wp2_with fail
            refine (Nn.out _ p2 125 hR3 (by omega) h125).mono ?_
            rintro e w' ⟨rfl, hb4⟩
            exact ⟨rfl, rfl, ((hb1.trans hb2).trans hb3).trans hb4⟩
    · rw [if_neg h44]
      by_cases h125 : pk (by' s) p1 = 125
      · have hn : need (by' s) 125 p1 (a, a) = .ok (a, a) (p1 + 1) := if_pos h125
        rw [hn]
        clear hn
        go_enter Try.func39, Try.ntmps39
        go_wp2_with fail
        refine D1.out.mono ?_
        rintro e w' ⟨rfl, hR1, hb1⟩
        unfold intV
        go_wp2_with fail
        refine (Tn.out _ p1 44 hR1 (by omega) h44).mono ?_
        rintro e w' ⟨rfl, hR2, hb2⟩
        go_wp2_with fail
        refine (Ny.out _ p1 125 hR2 (by decide) h125).mono ?_
        rintro e w' ⟨rfl, hR3, hb3⟩
        go_wp2_with fail
        go_ret2
        exact ⟨rfl, hR3, (hb1.trans hb2).trans hb3⟩
      · have hn : need (by' s) 125 p1 (a, a) = .bad p1 := if_neg h125
        rw [hn]
        clear hn
        go_enter Try.func39, Try.ntmps39
        go_wp2_with fail
        refine D1.out.mono ?_
        rintro e w' ⟨rfl, hR1, hb1⟩
        unfold intV
        go_wp2_with fail
        refine (Tn.out _ p1 44 hR1 (by omega) h44).mono ?_
        rintro e w' ⟨rfl, hR2, hb2⟩
        go_wp2_with fail
        refine (Nn.out _ p1 125 hR2 (by omega) h125).mono ?_
        rintro e w' ⟨rfl, hb3⟩
        exact ⟨rfl, rfl, (hb1.trans hb2).trans hb3⟩
set_option maxHeartbeats 1600000 in
theorem times_any (B : Nat) (s : ByteArray) (p o : Nat) (nv pv : Value) (w : World) (h : Row w B s p o nv pv) (hp : p ≤ s.size) (hs : s.size ≤ 200) :
    Calls Try.prog 33 #[.pointer (some ⟨B, 0, none⟩)] w (LP B s o nv pv w timV (times (by' s) p)) := by
  have hB := h.lt
  have HR := Lib.hid h
  have Ty := Lib.hid (fun w' (c : Nat) (hR : Row w' B s p o nv pv) => take_yes B s p o nv pv c w' hR hs)
  have Tn := Lib.hid (fun w' (c : Nat) (hR : Row w' B s p o nv pv) => take_no B s p o nv pv c w' hR hp)
  clear h
  unfold times
  by_cases h1 : pk (by' s) p = 42
  · rw [if_pos h1]
    go_enter Try.func33, Try.ntmps33
    go_wp2_with fail
    refine (Ty.out _ 42 HR.out (by decide) h1).mono ?_
    rintro e w' ⟨rfl, hR1, hb1⟩
    go_wp2_with fail
    go_ret3
    exact ⟨rfl, hR1, hb1⟩
  rw [if_neg h1]
  by_cases h2 : pk (by' s) p = 43
  · rw [if_pos h2]
    go_enter Try.func33, Try.ntmps33
    go_wp2_with fail
    refine (Tn.out _ 42 HR.out h1).mono ?_
    rintro e w' ⟨rfl, hR1, hb1⟩
    go_wp2_with fail
    refine (Ty.out _ 43 hR1 (by decide) h2).mono ?_
    rintro e w' ⟨rfl, hR2, hb2⟩
    go_wp2_with fail
    go_ret3
    exact ⟨rfl, hR2, hb1.trans hb2⟩
  rw [if_neg h2]
  by_cases h3 : pk (by' s) p = 63
  · rw [if_pos h3]
    go_enter Try.func33, Try.ntmps33
    go_wp2_with fail
    refine (Tn.out _ 42 HR.out h1).mono ?_
    rintro e w' ⟨rfl, hR1, hb1⟩
    go_wp2_with fail
    refine (Tn.out _ 43 hR1 h2).mono ?_
    rintro e w' ⟨rfl, hR2, hb2⟩
    go_wp2_with fail
    refine (Ty.out _ 63 hR2 (by decide) h3).mono ?_
    rintro e w' ⟨rfl, hR3, hb3⟩
    go_wp2_with fail
    go_ret3
    exact ⟨rfl, hR3, (hb1.trans hb2).trans hb3⟩
  rw [if_neg h3]
  by_cases h4 : pk (by' s) p = 123
  · rw [if_pos h4]
    have hp2 : p + 1 ≤ s.size := by rw [← by_len]; exact pk_lt (by omega)
    have HC := Lib.hid (fun w' (hR : Row w' B s (p + 1) o nv pv) => counts_any B s (p + 1) o nv pv w' hR hp2 hs)
    generalize counts (by' s) (p + 1) = r at *
    cases r with
    | bad q =>
      go_enter Try.func33, Try.ntmps33
      go_wp2_with fail
      refine (Tn.out _ 42 HR.out h1).mono ?_
      rintro e w' ⟨rfl, hR1, hb1⟩
      go_wp2_with fail
      refine (Tn.out _ 43 hR1 h2).mono ?_
      rintro e w' ⟨rfl, hR2, hb2⟩
      go_wp2_with fail
      refine (Tn.out _ 63 hR2 h3).mono ?_
      rintro e w' ⟨rfl, hR3, hb3⟩
      go_wp2_with fail
      refine (Ty.out _ 123 hR3 (by decide) h4).mono ?_
      rintro e w' ⟨rfl, hR4, hb4⟩
      go_wp2_with fail
      refine (HC.out _ hR4).mono ?_
      rintro e w' ⟨rfl, hb5⟩
      exact ⟨rfl, rfl, (((hb1.trans hb2).trans hb3).trans hb4).trans hb5⟩
    | ok ab q =>
      obtain ⟨a, b⟩ := ab
      go_enter Try.func33, Try.ntmps33
      go_wp2_with fail
      refine (Tn.out _ 42 HR.out h1).mono ?_
      rintro e w' ⟨rfl, hR1, hb1⟩
      go_wp2_with fail
      refine (Tn.out _ 43 hR1 h2).mono ?_
      rintro e w' ⟨rfl, hR2, hb2⟩
      go_wp2_with fail
      refine (Tn.out _ 63 hR2 h3).mono ?_
      rintro e w' ⟨rfl, hR3, hb3⟩
      go_wp2_with fail
      refine (Ty.out _ 123 hR3 (by decide) h4).mono ?_
      rintro e w' ⟨rfl, hR4, hb4⟩
      go_wp2_with fail
      refine (HC.out _ hR4).mono ?_
      rintro e w' ⟨rfl, hR5, hb5⟩
      unfold cntV
      go_wp2_with fail
      go_ret3
      exact ⟨rfl, hR5, (((hb1.trans hb2).trans hb3).trans hb4).trans hb5⟩
  · rw [if_neg h4]
    go_enter Try.func33, Try.ntmps33
    go_wp2_with fail
    refine (Tn.out _ 42 HR.out h1).mono ?_
    rintro e w' ⟨rfl, hR1, hb1⟩
    go_wp2_with fail
    refine (Tn.out _ 43 hR1 h2).mono ?_
    rintro e w' ⟨rfl, hR2, hb2⟩
    go_wp2_with fail
    refine (Tn.out _ 63 hR2 h3).mono ?_
    rintro e w' ⟨rfl, hR3, hb3⟩
    go_wp2_with fail
    refine (Tn.out _ 123 hR3 h4).mono ?_
    rintro e w' ⟨rfl, hR4, hb4⟩
    go_wp2_with fail
    go_ret3
    exact ⟨rfl, hR4, ((hb1.trans hb2).trans hb3).trans hb4⟩
end Go.Proofs.Ytbmoanhdpnaocaa
