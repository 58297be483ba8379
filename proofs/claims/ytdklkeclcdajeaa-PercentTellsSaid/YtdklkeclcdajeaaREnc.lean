/- The check's own Encode and Upper. -/
import Derived.Test.YtdklkeclcdajeaaRDec
import Derived.Test.YtdklkeclcdajeaaEnc
import Derived.Test.YtdklkeclcdajeaaArr
namespace Go.Proofs.Ytdklkeclcdajeaa
open Go.RowKit Pct Sets
theorem hex_tx : ∀ n : Fin 16, tx (hexS.extract n.1 (n.1 + 1)) = [dig n.1] := by decide
theorem slice_hex (n : Nat) (i j : Int) (hi : i = n) (hj : j = n + 1) (h : n < 16) (w : World) :
    (Instr.slice 9 (.string { data := #[48, 49, 50, 51, 52, 53, 54, 55, 56, 57, 65, 66, 67, 68, 69, 70] }) (some (.int .i64 i)) (some (.int .i64 j)) none).run Try.prog w = .ok (.string (str [dig n])) w := by
  have hs : hexS.size = 16 := rfl
  have := run_slice_string (P := Try.prog) w 9 hexS .i64 .i64 i j Try.underlying9 (by omega) (by omega) (by rw [hs]; omega)
  subst hi hj
  rw [show ((n : Int) + 1).toNat = n + 1 from by omega, Int.toNat_natCast] at this
  rw [← hex_tx ⟨n, h⟩, str_tx]
  exact this
theorem slice_one (s : ByteArray) (k : Nat) (h : k < s.size) (w : World) : (Instr.slice 9 (.string s) (some (.int .i64 (k : Int))) (some (.int .i64 ((k : Int) + 1))) none).run Try.prog w = .ok (.string (s.extract k (k + 1))) w := by
  have := run_slice_string (P := Try.prog) w 9 s .i64 .i64 (k : Int) ((k : Int) + 1) Try.underlying9 (by omega) (by omega) (by omega)
  rw [this, show ((k : Int) + 1).toNat = k + 1 from by omega, Int.toNat_natCast]
set_option maxHeartbeats 1600000 in
set_option maxRecDepth 100000 in
theorem refenc_any (s : ByteArray) (S : Nat) (w : World) (hs : s.size ≤ 1000000) :
    Calls Try.prog 22 #[.string s, .agg (arr S.testBit)] w fun e w' => e = .returned (.string (str (enc S (tx s)))) ∧ Below w.heap.size w w' := by
  obtain ⟨A, hA⟩ : ∃ A, A = w.heap.size := ⟨_, rfl⟩
  have hc0 : ∀ c, c < 256 → (w.alloc (.cells (arr S.testBit) 38)).cell? ⟨A, c, none⟩ = some (.bool (S.testBit c)) := fun c hc => by rw [hA]; exact (World.cell?_alloc_mark w _ _ (0, 0) c).trans (arr_get _ c hc)
  have hb0 : Below A w (w.alloc (.cells (arr S.testBit) 38)) := (Below.refl _ _).alloc (by omega) _
  have hlt0 : A < (w.alloc (.cells (arr S.testBit) 38)).heap.size := by simp; omega
  go_enter Try.func22, Try.ntmps22
  go_wp2_with fail
  rw [← hA]
  have HA := Lib.hid hA
  have HC0 := Lib.hid hc0
  clear hA hc0
  generalize w.alloc (.cells (arr S.testBit) 38) = w1 at *
  go_loopw [5, 6] (fun o i wr => ∃ (k : Nat) (q : ByteArray), k ≤ s.size ∧ i = .int .i64 k ∧ o = .string q ∧ q.size ≤ 3 * k ∧ Below w1.heap.size w1 wr ∧ Hid (enc S (tx s) = tx q ++ enc S ((tx s).drop k))) (fun _ i _ => (s.size - intOf i).toNat)
  case atStart => exact ⟨0, str [], by omega, rfl, rfl, by rw [size_str]; simp, Below.refl _ _, Lib.hid (by rw [List.drop_zero, tx_str]; simp)⟩
  case round =>
    obtain ⟨k, q, hk, rfl, rfl, hql, hb, HJ⟩ := hrel
    by_cases hlt : k < s.size
    · have hd : decide ((k : Int) < (s.size : Int)) = true := decide_eq_true (by omega)
      have ix := index_tx s k k rfl hlt
      have h1 := extract_one s k hlt
      have h1s := size_one s k hlt
      have hsl := slice_one s k hlt
      have HJ2 := Lib.hid (HJ.out.trans (by rw [enc_at S s k hlt, ← List.append_assoc]))
      have H1 := Lib.hid h1
      clear h1 HJ
      generalize (tx s).getD k 0 = c at *
      generalize s.extract k (k + 1) = z at *
      have hc := u8_lt c
      have hck := (hb.cell (p := ⟨A, c.toNat, none⟩) hlt0).trans (HC0.out _ hc)
      have hct : decide ((c.toNat : Int) < 256) = true := decide_eq_true (by omega)
      have hct2 : decide (c.toNat < 256) = true := decide_eq_true (by omega)
      cases hk2 : S.testBit c.toNat with
      | true =>
        rw [hk2] at hck
        by_cases h37 : c = 37
        · have b37 : ((c.toNat : Int) != 37) = false := by rw [h37]; rfl
          have HE := Lib.hid (encB_esc S c (.inl h37))
          clear hk2 h37
          have sl1 := slice_hex (c.toNat / 16) ((c.toNat : Int) / 16) ((c.toNat : Int) / 16 + 1) (by omega) (by omega) (by omega)
          have sl2 := slice_hex (c.toNat % 16) ((c.toNat : Int) % 16) ((c.toNat : Int) % 16 + 1) (by omega) (by omega) (by omega)
          have hp : (str [37]).size = 1 := rfl
          have z1 := size_str1 (dig (c.toNat / 16))
          have z2 := size_str1 (dig (c.toNat % 16))
          have HJ3 : Hid (enc S (tx s) = tx (((q ++ str [37]) ++ str [dig (c.toNat / 16)]) ++ str [dig (c.toNat % 16)]) ++ enc S ((tx s).drop (k + 1))) := Lib.hid (by rw [tx_append, tx_append, tx_append, tx_str, tx_str, tx_str, HJ2.out, HE.out]; simp [escL])
          have n1 := no_over q (str [37]) (by omega)
          have n2 := no_over (q ++ str [37]) (str [dig (c.toNat / 16)]) (by rw [ByteArray.size_append]; omega)
          have n3 := no_over ((q ++ str [37]) ++ str [dig (c.toNat / 16)]) (str [dig (c.toNat % 16)]) (by rw [ByteArray.size_append, ByteArray.size_append]; omega)
          have hqz : (((q ++ str [37]) ++ str [dig (c.toNat / 16)]) ++ str [dig (c.toNat % 16)]).size ≤ 3 * (k + 1) := by rw [ByteArray.size_append, ByteArray.size_append, ByteArray.size_append]; omega
          have HQ := Lib.hid hqz
          clear hqz HJ2 HE
          generalize dig (c.toNat / 16) = e1 at *
          generalize dig (c.toNat % 16) = e2 at *
          unfold str at *
          go_wp2_with fail
          go_quiet (fail)
          go_wp2_with fail
          go_roundw
          case rel => exact ⟨k + 1, _, by omega, by go_num, rfl, HQ.out, below_drewN hb _, HJ3⟩
          case measure => simp [intOf]; omega
        · have b37 := u8_ne h37
          have HJ3 : Hid (enc S (tx s) = tx (q ++ z) ++ enc S ((tx s).drop (k + 1))) := Lib.hid (by rw [tx_append, H1.out, ← encB_keep S c h37 hk2]; exact HJ2.out)
          have hqz : (q ++ z).size ≤ 3 * (k + 1) := by rw [ByteArray.size_append]; omega
          have HQ := Lib.hid hqz
          clear h37 hqz HJ2 hk2
          go_wp2_with fail
          go_roundw
          case rel => exact ⟨k + 1, q ++ z, by omega, by go_num, rfl, HQ.out, hb, HJ3⟩
          case measure => simp [intOf]; omega
      | false =>
        rw [hk2] at hck
        have HE := Lib.hid (encB_esc S c (.inr hk2))
        clear hk2
        have sl1 := slice_hex (c.toNat / 16) ((c.toNat : Int) / 16) ((c.toNat : Int) / 16 + 1) (by omega) (by omega) (by omega)
        have sl2 := slice_hex (c.toNat % 16) ((c.toNat : Int) % 16) ((c.toNat : Int) % 16 + 1) (by omega) (by omega) (by omega)
        have hp : (str [37]).size = 1 := rfl
        have z1 := size_str1 (dig (c.toNat / 16))
        have z2 := size_str1 (dig (c.toNat % 16))
        have HJ3 : Hid (enc S (tx s) = tx (((q ++ str [37]) ++ str [dig (c.toNat / 16)]) ++ str [dig (c.toNat % 16)]) ++ enc S ((tx s).drop (k + 1))) := Lib.hid (by rw [tx_append, tx_append, tx_append, tx_str, tx_str, tx_str, HJ2.out, HE.out]; simp [escL])
        have n1 := no_over q (str [37]) (by omega)
        have n2 := no_over (q ++ str [37]) (str [dig (c.toNat / 16)]) (by rw [ByteArray.size_append]; omega)
        have n3 := no_over ((q ++ str [37]) ++ str [dig (c.toNat / 16)]) (str [dig (c.toNat % 16)]) (by rw [ByteArray.size_append, ByteArray.size_append]; omega)
        have hqz : (((q ++ str [37]) ++ str [dig (c.toNat / 16)]) ++ str [dig (c.toNat % 16)]).size ≤ 3 * (k + 1) := by rw [ByteArray.size_append, ByteArray.size_append, ByteArray.size_append]; omega
        have HQ := Lib.hid hqz
        clear hqz HJ2 HE
        generalize dig (c.toNat / 16) = e1 at *
        generalize dig (c.toNat % 16) = e2 at *
        unfold str at *
        go_wp2_with fail
        go_quiet (fail)
        go_wp2_with fail
        go_roundw
        case rel => exact ⟨k + 1, _, by omega, by go_num, rfl, HQ.out, below_drewN hb _, HJ3⟩
        case measure => simp [intOf]; omega
    · have : k = s.size := by omega
      subst this
      have HV := Lib.hid (HJ.out.trans (by rw [List.drop_of_length_le (by rw [← size_tx]; exact Nat.le_refl _)]; simp [enc] : _ = tx q))
      go_wp2_with fail
      go_ret
      rw [HV.out, str_tx]
      obtain rfl := HA.out
      exact ⟨rfl, hb0.trans (hb.mono (by omega))⟩
set_option maxHeartbeats 1600000 in
set_option maxRecDepth 100000 in
theorem refupper_any (s : ByteArray) (w : World) (hs : s.size ≤ 1000000) :
    Calls Try.prog 25 #[.string s] w fun e w' => e = .returned (.string (str (up (tx s) 0))) ∧ Below w.heap.size w w' := by
  go_enter Try.func25, Try.ntmps25
  go_wp2_with fail
  go_loopw [3, 4] (fun o i wr => ∃ (k : Nat) (q : ByteArray), k ≤ s.size ∧ i = .int .i64 k ∧ o = .string q ∧ q.size ≤ k ∧ Below w.heap.size w wr ∧ Hid (up (tx s) 0 = tx q ++ up ((tx s).drop k) 0)) (fun _ i _ => (s.size - intOf i).toNat)
  case atStart => exact ⟨0, str [], by omega, rfl, rfl, by rw [size_str]; simp, Below.refl _ _, Lib.hid (by rw [List.drop_zero, tx_str]; simp)⟩
  case round =>
    obtain ⟨k, q, hk, rfl, rfl, hql, hb, HJ⟩ := hrel
    by_cases hlt : k < s.size
    · have hd : decide ((k : Int) < (s.size : Int)) = true := decide_eq_true (by omega)
      have hat := at_any s k wr hk (by omega)
      cases he : esc ((tx s).drop k) with
      | none =>
        rw [he] at hat
        simp only [Option.isSome_none] at hat
        have h1 := extract_one s k hlt
        have h1s := size_one s k hlt
        have hsl := slice_one s k hlt
        have HJ2 := Lib.hid (HJ.out.trans (by rw [up_none_at s k hlt he, tx_append, h1]; simp : _ = tx (q ++ s.extract k (k + 1)) ++ up ((tx s).drop (k + 1)) 0))
        clear h1 HJ he
        generalize s.extract k (k + 1) = z at *
        have hqz : (q ++ z).size ≤ k + 1 := by rw [ByteArray.size_append]; omega
        have HQ := Lib.hid hqz
        clear hqz
        go_wp2_with fail
        refine hat.mono ?_; rintro e w' ⟨rfl, rfl⟩
        go_wp2_with fail
        go_roundw
        case rel => exact ⟨k + 1, q ++ z, by omega, by go_num, rfl, HQ.out, hb, HJ2⟩
        case measure => simp [intOf]; omega
      | some v =>
        obtain ⟨h3, x, y, hx, hy, rfl, hx1, hy1⟩ := esc_parts s k v he
        have HJ2 := Lib.hid (HJ.out.trans (by rw [up_esc_at s k _ he, show (16 * x + y) / 16 = x from by omega, show (16 * x + y) % 16 = y from by omega, tx_append, tx_append, tx_append, tx_str, tx_str, tx_str]; simp : _ = tx (((q ++ str [37]) ++ str [dig x]) ++ str [dig y]) ++ up ((tx s).drop (k + 3)) 0))
        have i1 := index_tx s (k + 1) (k + 1) (by omega) (by omega)
        have i2 := index_tx s (k + 2) (k + 2) (by omega) h3
        have VA := fun w => refval_any ((tx s).getD (k + 1) 0).toNat w (u8_lt _)
        have VB := fun w => refval_any ((tx s).getD (k + 2) 0).toNat w (u8_lt _)
        rw [valI_some hx] at VA
        rw [valI_some hy] at VB
        rw [he] at hat
        simp only [Option.isSome_some] at hat
        have sl1 := slice_hex x (x : Int) ((x : Int) + 1) (by omega) (by omega) hx1
        have sl2 := slice_hex y (y : Int) ((y : Int) + 1) (by omega) (by omega) hy1
        have hp : (str [37]).size = 1 := rfl
        have z1 := size_str1 (dig x)
        have z2 := size_str1 (dig y)
        have n1 := no_over q (str [37]) (by omega)
        have n2 := no_over (q ++ str [37]) (str [dig x]) (by rw [ByteArray.size_append]; omega)
        have n3 := no_over ((q ++ str [37]) ++ str [dig x]) (str [dig y]) (by rw [ByteArray.size_append, ByteArray.size_append]; omega)
        have hqz : (((q ++ str [37]) ++ str [dig x]) ++ str [dig y]).size ≤ k + 3 := by rw [ByteArray.size_append, ByteArray.size_append, ByteArray.size_append]; omega
        have HQ := Lib.hid hqz
        clear hqz he hx hy HJ
        generalize dig x = e1 at *
        generalize dig y = e2 at *
        generalize (tx s).getD (k + 1) 0 = a at *
        generalize (tx s).getD (k + 2) 0 = b at *
        unfold str at *
        go_wp2_with fail
        refine hat.mono ?_; rintro e w' ⟨rfl, rfl⟩
        go_wp2_with fail
        refine (VA _).mono ?_; rintro e w' ⟨rfl, rfl⟩
        go_wp2_with fail
        refine (VB _).mono ?_; rintro e w' ⟨rfl, rfl⟩
        go_wp2_with fail
        go_quiet (fail)
        go_wp2_with fail
        go_roundw
        case rel => exact ⟨k + 3, _, by omega, by go_num, rfl, HQ.out, below_drewN hb _, HJ2⟩
        case measure => simp [intOf]; omega
    · have : k = s.size := by omega
      subst this
      have HV := Lib.hid (HJ.out.trans (by rw [List.drop_of_length_le (by rw [← size_tx]; exact Nat.le_refl _)]; simp [up] : _ = tx q))
      go_wp2_with fail
      go_ret
      rw [HV.out, str_tx]
      exact ⟨rfl, hb⟩
end Go.Proofs.Ytdklkeclcdajeaa
