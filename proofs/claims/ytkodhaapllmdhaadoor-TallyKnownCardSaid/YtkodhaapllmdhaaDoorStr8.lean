/- FormatFloat and Text at 0.1; awake's text. -/
import Derived.Test.YtkodhaapllmdhaaDoorStr7
import Derived.Lib.ConvBytes
import Derived.Laws.IdiomStrings
import Derived.Laws.MakeOwn
namespace Go.Proofs.YtkodhaapllmdhaaDoor
open Go.RowKit Rk
theorem infoC : (Tryd.prog.info? 5).map (fun i => (i.zero, i.size, i.bytes)) = some (some (.int .u8 0), 1, 1) := by kernel_rfl
/-- a new row of bytes, none of them used yet -/
theorem made_bytes (w : World) :
    ∃ w1, (Instr.makeSlice 57 (.int .i64 0) (.int .i64 24)).run Tryd.prog w = .ok (.slice (some ⟨w.heap.size, 0, none⟩) 0 24) w1 ∧
      RowB w1 w.heap.size 24 (fun _ => 0) ∧ Below w.heap.size w w1 := by
  obtain ⟨i, hi, hii⟩ := Option.map_eq_some_iff.1 infoC
  simp only [Prod.mk.injEq] at hii
  obtain ⟨i1, i2, i3⟩ := hii
  have hr := run_make (P := Tryd.prog) w 57 5 i (.int .u8 0) Tryd.underlying57 hi i1 .i64 .i64 0 24 (by decide) (by decide) (by rw [i3]; decide) (by decide)
  refine ⟨_, hr, fun j hj => ?_, (Below.refl _ w).alloc (Nat.le_refl _) _⟩
  rw [i2]
  refine ⟨?_, World.frozen?_alloc_new w _ _ _⟩
  rw [World.cell?_alloc_new]
  simp [madeCells, hj, Value.cells, Nat.mod_one]
/-- what a slice of bytes says -/
theorem said_row {w : World} {g N : Nat} {f : Nat → Nat} (h : RowB w g N f) (n cap : Nat) (hn : n ≤ N) (l : List UInt8) (hl : l.length = n) (hf : ∀ j, j < n → f j = (l.getD j 0).toNat) :
    (convert 57 9 (.slice (some ⟨g, 0, none⟩) n cap)).run Tryd.prog w = .ok (.string ⟨l.toArray⟩) w := by
  subst hl
  refine run_convert_bytes_back (P := Tryd.prog) w 57 9 5 ⟨g, 0, none⟩ cap l Tryd.underlying57 Tryd.underlying5 Tryd.underlying9 (fun j hj => ?_)
  rw [Addr.add_lit, Nat.zero_add, (h j (by omega)).1, hf j hj, List.getD_eq_getElem?_getD, List.getElem?_eq_getElem hj]
  rfl
set_option maxHeartbeats 1600000 in
theorem format_tenth (w : World) (hT : Tabs w) :
    Calls Tryd.prog 39 #[.float .f64 4591870180066957722, .int .u8 103, .int .i64 (-1), .int .i64 64] w fun e w' => e = .returned (.string { data := #[48, 46, 49] }) ∧ Below w.heap.size w w' := by
  obtain ⟨w1, hm, hR, hB⟩ := made_bytes w
  have mx : max (3 : Int) 24 = 24 := by decide
  have HF := ftoa_tenth w.heap.size w1 (hT.below hB) _ hR
  have HF' := Lib.hid HF
  have HB := Lib.hid hB
  clear HF hR hB hT
  go_enter Tryd.func39, Tryd.ntmps39
  go_wp2_with fail
  refine HF'.out.mono ?_
  rintro r w2 ⟨rfl, hR2, hB2⟩
  have hs := said_row hR2 3 24 (by decide) [48, 46, 49] rfl (by decide)
  have HB2 := Lib.hid (HB.out.trans hB2)
  clear hR2 hB2 HB HF'
  go_wp2_with fail
  go_ret
  exact ⟨rfl, HB2.out⟩
theorem strconv_tenth (w : World) (hT : Tabs w) :
    Calls Tryd.prog 32 #[.float .f64 4591870180066957722, .int .u8 103, .int .i64 (-1), .int .i64 64] w fun e w' => e = .returned (.string { data := #[48, 46, 49] }) ∧ Below w.heap.size w w' := by
  have HF := Lib.hid (format_tenth w hT)
  clear hT
  go_enter Tryd.func32, Tryd.ntmps32
  go_wp2_with fail
  refine HF.out.mono ?_
  rintro r w2 ⟨rfl, hB⟩
  go_wp2_with fail
  go_ret
  exact ⟨rfl, hB⟩
theorem neg_bits (b : Nat) (hb : b < 2 ^ 64) : Op.negFloat .f64 b = (if b / 2 ^ 63 = 1 then b - 2 ^ 63 else b + 2 ^ 63) := by
  have e : FloatKind.f64.format.exponentBits + FloatKind.f64.format.fractionBits = 63 := by decide +kernel
  unfold Op.negFloat
  rw [e]
  have h1 : (b ^^^ 2 ^ 63) / 2 ^ 63 = (b / 2 ^ 63) ^^^ 1 := by rw [Nat.xor_div_two_pow]
  have h2 : (b ^^^ 2 ^ 63) % 2 ^ 63 = b % 2 ^ 63 := by rw [Nat.xor_mod_two_pow, Nat.mod_self, Nat.xor_zero]
  generalize b ^^^ 2 ^ 63 = c at *
  have hq : b / 2 ^ 63 = 0 ∨ b / 2 ^ 63 = 1 := by omega
  rcases hq with hq | hq
  · rw [hq] at h1 ⊢
    rw [show (0 : Nat) ^^^ 1 = 1 from rfl] at h1
    rw [if_neg (by decide)]; omega
  · rw [hq] at h1 ⊢
    rw [show (1 : Nat) ^^^ 1 = 0 from rfl] at h1
    rw [if_pos rfl]; omega
theorem isinf_neg (b : Nat) (r : Bool) (hb : b < 2 ^ 64) (hr : decide (b = 18442240474082181120) = r) (w : World) :
    Calls Tryd.prog 11 #[.float .f64 b, .int .i64 (-1)] w fun e w' => e = .returned (.bool r) ∧ w = w' := by
  have hn : ∀ w, (Op.unary .neg (.float .f64 b)).run Tryd.prog w = .ok (.float .f64 (if b / 2 ^ 63 = 1 then b - 2 ^ 63 else b + 2 ^ 63)) w := fun w => by
    rw [← neg_bits b hb]; rfl
  have hc : (if b / 2 ^ 63 = 1 then b - 2 ^ 63 else b + 2 ^ 63) < 2 ^ 64 := by split <;> omega
  have hg := gt_max (if b / 2 ^ 63 = 1 then b - 2 ^ 63 else b + 2 ^ 63) hc
  rw [← Bool.decide_and, show decide ((if b / 2 ^ 63 = 1 then b - 2 ^ 63 else b + 2 ^ 63) / 2 ^ 63 = 0 ∧ (if b / 2 ^ 63 = 1 then b - 2 ^ 63 else b + 2 ^ 63) % 2 ^ 63 = 2047 * 2 ^ 52) = decide (b = 18442240474082181120) from decide_eq_decide.2 (by split <;> omega), hr] at hg
  generalize (if b / 2 ^ 63 = 1 then b - 2 ^ 63 else b + 2 ^ 63) = c at *
  clear hr hb hc
  go_enter Tryd.func11, Tryd.ntmps11
  go_wp2_with fail
  go_ret
  exact ⟨rfl, rfl⟩
set_option maxHeartbeats 1600000 in
theorem text_tenth (w : World) (hT : Tabs w) :
    Calls Tryd.prog 16 #[.float .f64 4591870180066957722] w fun e w' => e = .returned (.string { data := #[48, 46, 49] }) ∧ Below w.heap.size w w' := by
  have HF := Lib.hid (strconv_tenth w hT)
  clear hT
  go_enter Tryd.func16, Tryd.ntmps16
  go_wp2_with fail
  refine (isnan_any 4591870180066957722 (by decide) _).mono ?_
  rw [show nanB 4591870180066957722 = false by decide +kernel]
  rintro r w' ⟨rfl, rfl⟩
  go_wp2_with fail
  refine (isinf_pos 4591870180066957722 (by decide) _).mono ?_
  rw [show decide ((4591870180066957722 : Nat) = 2047 * 2 ^ 52) = false by decide +kernel]
  rintro r w' ⟨rfl, rfl⟩
  go_wp2_with fail
  refine (isinf_neg 4591870180066957722 false (by decide) (by decide +kernel) _).mono ?_
  rintro r w' ⟨rfl, rfl⟩
  go_wp2_with fail
  refine HF.out.mono ?_
  rintro r w2 ⟨rfl, hB⟩
  go_wp2_with fail
  go_ret
  exact ⟨rfl, hB⟩
end Go.Proofs.YtkodhaapllmdhaaDoor
