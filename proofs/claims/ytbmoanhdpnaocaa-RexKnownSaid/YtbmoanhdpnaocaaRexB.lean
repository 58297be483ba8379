/- digit, need, escape, single, branchEnds. -/
import Derived.Test.YtbmoanhdpnaocaaRexA
import Derived.Test.YtbmoanhdpnaocaaTreB
import Derived.Test.YtbmoanhdpnaocaaTxt
namespace Go.Proofs.Ytbmoanhdpnaocaa
open Go.RowKit Sets Tr Rx
/-- what the reader panics with -/
def pnc (long : Bool) (p : Nat) : Value := if long then .iface 43 (.int .i64 p) else .iface 42 (.int .i64 p)
def LP {α : Type} (B : Nat) (s : ByteArray) (o : Nat) (nv pv : Value) (w : World) (enc : α → Value) (r : L α) (e : Ending) (w' : World) : Prop :=
  match r with
  | .ok x q => e = .returned (enc x) ∧ Row w' B s q o nv pv ∧ But B w w'
  | .bad q => e = .panicked [{ v := pnc false q, recovered := false }] ∧ But B w w'
def u8V (x : Nat) : Value := .int .u8 x
def intV (x : Nat) : Value := .int .i64 x
set_option maxHeartbeats 1600000 in
theorem digit_any (B : Nat) (s : ByteArray) (p o : Nat) (nv pv : Value) (w : World) (h : Row w B s p o nv pv) (hp : p ≤ s.size) (hs : s.size ≤ 200) :
    Calls Try.prog 45 #[.pointer (some ⟨B, 0, none⟩)] w (LP B s o nv pv w intV (digit (by' s) p)) := by
  obtain ⟨c0, c1, -, -, -⟩ := h.cells
  have f1 := h.frozen 1
  have hB := h.lt
  have HR := Lib.hid h
  clear h
  by_cases e : p = s.size
  · have he : ((p : Int) == (s.size : Int)) = true := by simp; omega
    have hr : digit (by' s) p = .bad p := by
      unfold digit
      rw [pk_end (by rw [by_len]; omega), if_neg (by omega)]
    rw [hr]
    clear hr e
    go_enter Try.func45, Try.ntmps45
    go_wp2_with fail
    go_quiet (fail)
    go_wp2_with fail
    exact ⟨rfl, rfl, (But.refl _ _).drewN _⟩
  · have he : ((p : Int) == (s.size : Int)) = false := by rw [beq_eq_false_iff_ne]; omega
    have ix := index_by s p p rfl (by omega)
    have hlt : p < s.size := by omega
    clear e
    by_cases hk : 48 ≤ pk (by' s) p ∧ pk (by' s) p ≤ 57
    · have hr : digit (by' s) p = .ok (pk (by' s) p - 48) (p + 1) := by
        unfold digit
        rw [if_pos hk]
      rw [hr]
      clear hr
      have ix2 := index_by s p ((p : Int) + 1 - 1) (by omega) (by omega)
      generalize pk (by' s) p = k at *
      obtain ⟨h1, h2⟩ := hk
      have d1 : decide ((k : Int) < 48) = false := decide_eq_false (by omega)
      have d2 : decide ((57 : Int) < k) = false := decide_eq_false (by omega)
      have hw : IntKind.u8.wrap ((k : Int) - 48) = ((k - 48 : Nat) : Int) := by
        unfold IntKind.wrap; simp [IntKind.signed, IntKind.bits]; omega
      go_enter Try.func45, Try.ntmps45
      go_wp2_with fail
      go_quiet (fail)
      go_wp2_with fail
      go_quiet (fail)
      go_wp2_with fail
      go_ret
      refine ⟨?_, HR.out.drew.put (p + 1), ((But.set0 _ _ _ _).drewN _).drewN _⟩
      show Ending.returned _ = Ending.returned (.int .i64 ((k - 48 : Nat) : Int))
      first | rfl | (rw [hw]) | (congr 2; omega)
    · have hr : digit (by' s) p = .bad p := by
        unfold digit
        rw [if_neg hk]
      rw [hr]
      clear hr
      generalize pk (by' s) p = k at *
      by_cases h1 : k < 48
      · have d1 : decide ((k : Int) < 48) = true := decide_eq_true (by omega)
        clear hk h1
        go_enter Try.func45, Try.ntmps45
        go_wp2_with fail
        go_quiet (fail)
        go_wp2_with fail
        exact ⟨rfl, rfl, (But.refl _ _).drewN _⟩
      · have d1 : decide ((k : Int) < 48) = false := decide_eq_false (by omega)
        have d2 : decide ((57 : Int) < k) = true := decide_eq_true (by omega)
        clear hk h1
        go_enter Try.func45, Try.ntmps45
        go_wp2_with fail
        go_quiet (fail)
        go_wp2_with fail
        exact ⟨rfl, rfl, (But.refl _ _).drewN _⟩
theorem need_yes (B : Nat) (s : ByteArray) (p o : Nat) (nv pv : Value) (c : Nat) (w : World) (h : Row w B s p o nv pv) (hs : s.size ≤ 200) (hc : c < 256) (hk : pk (by' s) p = c) :
    Calls Try.prog 41 #[.pointer (some ⟨B, 0, none⟩), .int .u8 (c : Int)] w fun e w' => e = .returned (.tuple #[]) ∧ Row w' B s (p + 1) o nv pv ∧ But B w w' := by
  have HT := Lib.hid (take_yes B s p o nv pv c w h hs hc hk)
  clear h hk
  go_enter Try.func41, Try.ntmps41
  go_wp2_with fail
  refine HT.out.mono ?_
  rintro e w' ⟨rfl, hR, hB⟩
  go_wp2_with fail
  go_end0
  exact ⟨rfl, hR, hB⟩
theorem need_no (B : Nat) (s : ByteArray) (p o : Nat) (nv pv : Value) (c : Nat) (w : World) (h : Row w B s p o nv pv) (hp : p ≤ s.size) (hk : pk (by' s) p ≠ c) :
    Calls Try.prog 41 #[.pointer (some ⟨B, 0, none⟩), .int .u8 (c : Int)] w fun e w' => e = .panicked [{ v := pnc false p, recovered := false }] ∧ But B w w' := by
  have HT := Lib.hid (take_no B s p o nv pv c w h hp hk)
  clear h hk
  go_enter Try.func41, Try.ntmps41
  go_wp2_with fail
  refine HT.out.mono ?_
  rintro e w' ⟨rfl, hR, hB⟩
  obtain ⟨c0, c1, -, -, -⟩ := hR.cells
  go_wp2_with fail
  exact ⟨rfl, rfl, hB⟩
/-- no piece of a branch follows -/
def sEnds : ByteArray := ⟨#[124, 38, 41]⟩
theorem hasEnds : HasB sEnds [124, 38, 41] := by
  intro c hc
  rw [Int.toNat_natCast]
  revert c
  decide +kernel
theorem ends_in {l : List Nat} {p : Nat} (h : p < l.length) (hl : ∀ x ∈ l, x < 256) : ends l p = [124, 38, 41].contains (pk l p) := by
  have := pk_ne h hl
  have h1 : (pk l p == 256) = false := by rw [beq_eq_false_iff_ne]; omega
  unfold ends
  rw [h1]
  simp only [Bool.false_or, List.contains_cons, List.contains_nil, Bool.or_false, Bool.or_assoc]
set_option maxHeartbeats 1600000 in
theorem ends_any (B : Nat) (s : ByteArray) (p o : Nat) (nv pv : Value) (w : World) (h : Row w B s p o nv pv) (hp : p ≤ s.size) :
    Calls Try.prog 27 #[.pointer (some ⟨B, 0, none⟩)] w fun e w' => e = .returned (.bool (ends (by' s) p)) ∧ Row w' B s p o nv pv ∧ But B w w' := by
  obtain ⟨c0, c1, -, -, -⟩ := h.cells
  have hB := h.lt
  have HR := Lib.hid h
  clear h
  by_cases e : p = s.size
  · have he : ((p : Int) == (s.size : Int)) = true := by simp; omega
    have hr : ends (by' s) p = true := by
      unfold ends
      rw [pk_end (by rw [by_len]; omega)]; rfl
    rw [hr]
    clear hr e
    go_enter Try.func27, Try.ntmps27
    go_wp2_with fail
    go_quiet (fail)
    go_wp2_with fail
    go_ret
    exact ⟨rfl, HR.out, (But.refl _ _).drewN _⟩
  · have he : ((p : Int) == (s.size : Int)) = false := by rw [beq_eq_false_iff_ne]; omega
    have ix := index_by s p p rfl (by omega)
    have hlt : p < s.size := by omega
    have hk := pk_ne (l := by' s) (p := p) (by rw [by_len]; exact hlt) (by_lt s)
    have hr := ends_in (l := by' s) (p := p) (by rw [by_len]; exact hlt) (by_lt s)
    rw [hr]
    clear e hr
    generalize pk (by' s) p = k at *
    have hi := hasEnds k hk
    have HI := fun w => index_bytes sEnds k w
    generalize Lib.indexByte sEnds.data.toList ((k : Int)).toNat.toUInt8 = q at hi HI
    unfold sEnds at HI
    have HI := Lib.hid HI
    rw [← hi]
    generalize hd : decide (0 ≤ q) = d at *
    clear hi hk
    go_enter Try.func27, Try.ntmps27
    go_wp2_with fail
    go_quiet ((go_at_call 31; exact Calls.quiet_of_same ((HI.out _).mono fun _ _ h => ⟨h.1, h.2.symm⟩)))
    go_wp2_with fail
    go_ret
    exact ⟨rfl, HR.out, (But.refl _ _).drewN _⟩
end Go.Proofs.Ytbmoanhdpnaocaa
