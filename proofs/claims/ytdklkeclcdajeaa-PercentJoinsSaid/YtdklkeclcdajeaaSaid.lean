/- said: what the escape at a place says. -/
import Derived.Test.YtdklkeclcdajeaaTxt
namespace Go.Proofs.Ytdklkeclcdajeaa
open Go.RowKit Pct
set_option maxHeartbeats 400000 in
theorem hex_any (c : Nat) (w : World) (h : c < 256) :
    Calls Try.prog 18 #[.int .u8 (c : Int)] w fun e w' => e = .returned (.bool (val c).isSome) ∧ w = w' := by
  have HV := value_any c w h
  go_enter Try.func18, Try.ntmps18
  cases hv : val c with
  | none =>
    rw [hv] at HV
    simp only [valV] at HV
    go_wp2_with (go_at_call 9; refine HV.mono ?_; rintro e w' ⟨rfl, rfl⟩)
    go_ret
    exact ⟨rfl, rfl⟩
  | some x =>
    rw [hv] at HV
    simp only [valV] at HV
    go_wp2_with (go_at_call 9; refine HV.mono ?_; rintro e w' ⟨rfl, rfl⟩)
    go_ret
    exact ⟨rfl, rfl⟩
/-- The byte at a place of a string, as the walk reads it. -/
theorem index_tx (s : ByteArray) (k : Nat) (i : Int) (hi : i = k) (h : k < s.size) (w : World) : (Instr.index 9 (.string s) (.int .i64 i)).run Try.prog w = .ok (.int .u8 (((tx s).getD k 0).toNat : Int)) w := by
  subst hi
  rw [run_index_string w _ _ _ _ Try.underlying9, dif_pos ⟨by omega, by omega⟩]
  simp only [Int.toNat_natCast, get_tx s k h]
theorem drop_tx (s : ByteArray) (k : Nat) (h : k < s.size) : (tx s).drop k = (tx s).getD k 0 :: (tx s).drop (k + 1) := by
  have h' : k < (tx s).length := by rw [← size_tx]; exact h
  rw [List.getD_eq_getElem?_getD, List.getElem?_eq_getElem h', Option.getD_some, List.drop_eq_getElem_cons h']
theorem u8_ne {c : UInt8} (h : c ≠ 37) : ((c.toNat : Int) != 37) = true := by
  rw [bne_iff_ne]; intro e; apply h; apply UInt8.toNat_inj.1; rw [show (37 : UInt8).toNat = 37 from rfl]; omega
theorem said_bits : ∀ x : Nat, x < 16 → ∀ y : Nat, y < 16 → bits .or .u8 ((x : Int) * 16) (y : Int) = (((16 * x + y : Nat)) : Int) := by decide +kernel
set_option maxHeartbeats 800000 in
theorem said_any (s : ByteArray) (k : Nat) (w : World) (hk : k < s.size) (hs : s.size ≤ 1000000000) :
    Calls Try.prog 26 #[.string s, .int .i64 (k : Int)] w fun e w' => e = .returned (valV (esc ((tx s).drop k))) ∧ w = w' := by
  have i0 := index_tx s k k rfl hk
  by_cases h37 : (tx s).getD k 0 = 37
  · by_cases h3 : k + 2 < s.size
    · have i1 := index_tx s (k + 1) (k + 1) (by omega) (by omega)
      have i2 := index_tx s (k + 2) (k + 2) (by omega) h3
      have e : (tx s).drop k = 37 :: (tx s).getD (k + 1) 0 :: (tx s).getD (k + 2) 0 :: (tx s).drop (k + 3) := by
        rw [drop_tx s k hk, h37, drop_tx s (k + 1) (by omega), drop_tx s (k + 2) h3]
      rw [e]
      rw [h37] at i0
      generalize (tx s).getD (k + 1) 0 = a at *
      generalize (tx s).getD (k + 2) 0 = b at *
      clear e h37
      have d3 : decide ((s.size : Int) - (k : Int) < 3) = false := decide_eq_false (by omega)
      have VA := value_any a.toNat w (u8_lt a)
      have VB := value_any b.toNat w (u8_lt b)
      rw [esc_cons, if_pos rfl]
      cases hx : val a.toNat with
      | none =>
        rw [hx] at VA
        simp only [valV] at VA
        cases hy : val b.toNat with
        | none =>
          rw [hy] at VB
          simp only [valV] at VB ⊢
          clear hx hy
          go_enter Try.func26, Try.ntmps26
          go_wp2_with fail
          refine VA.mono ?_; rintro e w' ⟨rfl, rfl⟩
          go_wp2_with fail
          refine VB.mono ?_; rintro e w' ⟨rfl, rfl⟩
          go_wp2_with fail
          go_ret2
          exact ⟨rfl, rfl⟩
        | some y =>
          rw [hy] at VB
          simp only [valV] at VB ⊢
          clear hx hy
          go_enter Try.func26, Try.ntmps26
          go_wp2_with fail
          refine VA.mono ?_; rintro e w' ⟨rfl, rfl⟩
          go_wp2_with fail
          refine VB.mono ?_; rintro e w' ⟨rfl, rfl⟩
          go_wp2_with fail
          go_ret2
          exact ⟨rfl, rfl⟩
      | some x =>
        rw [hx] at VA
        simp only [valV] at VA
        have hx16 := val_lt hx
        cases hy : val b.toNat with
        | none =>
          rw [hy] at VB
          simp only [valV] at VB ⊢
          clear hx hy
          go_enter Try.func26, Try.ntmps26
          go_wp2_with fail
          refine VA.mono ?_; rintro e w' ⟨rfl, rfl⟩
          go_wp2_with fail
          refine VB.mono ?_; rintro e w' ⟨rfl, rfl⟩
          go_wp2_with fail
          go_ret2
          exact ⟨rfl, rfl⟩
        | some y =>
          have hy16 := val_lt hy
          rw [hy] at VB
          simp only [valV] at VB ⊢
          clear hx hy
          go_enter Try.func26, Try.ntmps26
          go_wp2_with fail
          refine VA.mono ?_; rintro e w' ⟨rfl, rfl⟩
          go_wp2_with fail
          refine VB.mono ?_; rintro e w' ⟨rfl, rfl⟩
          go_wp2_with fail
          go_ret2
          have := said_bits x hx16 y hy16
          refine ⟨ret_tup2 ?_, rfl⟩
          exact this
    · have d3 : decide ((s.size : Int) - (k : Int) < 3) = true := decide_eq_true (by omega)
      have e : esc ((tx s).drop k) = none := by
        rw [drop_tx s k hk]
        by_cases h1 : k + 1 < s.size
        · rw [drop_tx s (k + 1) h1, List.drop_of_length_le (by rw [← size_tx]; omega)]; rfl
        · rw [List.drop_of_length_le (by rw [← size_tx]; omega)]; rfl
      rw [h37] at i0
      rw [e]
      simp only [valV]
      clear e h37
      go_enter Try.func26, Try.ntmps26
      go_wp2_with fail
      go_ret2
      exact ⟨rfl, rfl⟩
  · have e : esc ((tx s).drop k) = none := by rw [drop_tx s k hk, esc_ne h37]
    rw [e]
    simp only [valV]
    have n37 := u8_ne h37
    clear e h37
    generalize (tx s).getD k 0 = a at *
    go_enter Try.func26, Try.ntmps26
    go_wp2_with fail
    go_ret2
    exact ⟨rfl, rfl⟩
end Go.Proofs.Ytdklkeclcdajeaa
