/- Encode. -/
import Derived.Test.YtdklkeclcdajeaaWrit
import Derived.Test.YtdklkeclcdajeaaSetA
import Derived.Test.YtdklkeclcdajeaaBld
import Derived.Deep.LoopGhost
namespace Go.Proofs.Ytdklkeclcdajeaa
open Go.RowKit Pct Sets
theorem enc_at (S : Nat) (s : ByteArray) (k : Nat) (h : k < s.size) : enc S ((tx s).drop k) = encB S ((tx s).getD k 0) ++ enc S ((tx s).drop (k + 1)) := by
  rw [drop_tx s k h, enc_cons]
def escL (c : UInt8) : List UInt8 := [37, dig (c.toNat / 16), dig (c.toNat % 16)]
theorem encB_keep (S : Nat) (c : UInt8) (h : c ≠ 37) (hb : S.testBit c.toNat = true) : encB S c = [c] := by rw [encB, if_pos ⟨h, hb⟩]
theorem encB_esc (S : Nat) (c : UInt8) (h : c = 37 ∨ S.testBit c.toNat = false) : encB S c = escL c := by
  rw [encB, if_neg]; rfl
  rintro ⟨h1, h2⟩
  rcases h with h | h
  · exact h1 h
  · rw [h] at h2; cases h2
theorem escL_cells (c : UInt8) (w : World) : ∀ j u, (Lib.byteCells (escL c))[j]? = some u →
    (w.alloc (.cells #[.int .u8 37, .int .u8 ((dig (c.toNat / 16)).toNat : Int), .int .u8 ((dig (c.toNat % 16)).toNat : Int)] 54)).cell? ((⟨w.heap.size, 0, none⟩ : Addr).add j) = some u := by
  intro j u h
  unfold escL Lib.byteCells at h
  match j with
  | 0 => simpa [Addr.add] using h
  | 1 => simpa [Addr.add] using h
  | 2 => simpa [Addr.add] using h
  | j + 3 => simp at h
set_option maxHeartbeats 1600000 in
set_option maxRecDepth 100000 in
theorem encode_any (s : ByteArray) (S : Nat) (w : World) (hs : s.size ≤ 1000000000) :
    Calls Try.prog 12 #[.string s, .agg #[.int .u64 (wd S 0), .int .u64 (wd S 1), .int .u64 (wd S 2), .int .u64 (wd S 3)]] w fun e w' => e = .returned (.string (str (enc S (tx s)))) ∧ Below w.heap.size w w' := by
  obtain ⟨A, hA⟩ : ∃ A, A = w.heap.size := ⟨_, rfl⟩
  obtain ⟨B, hB⟩ : ∃ B, B = w.heap.size + 1 := ⟨_, rfl⟩
  have hS0 := SetAt.new w S 30
  have hb00 : Below A w (w.alloc (.cells #[.int .u64 (wd S 0), .int .u64 (wd S 1), .int .u64 (wd S 2), .int .u64 (wd S 3)] 30)) := (Below.refl _ _).alloc (by omega) _
  have hN0 := bld_new (w.alloc (.cells #[.int .u64 (wd S 0), .int .u64 (wd S 1), .int .u64 (wd S 2), .int .u64 (wd S 3)] 30))
  have hsz : (w.alloc (.cells #[.int .u64 (wd S 0), .int .u64 (wd S 1), .int .u64 (wd S 2), .int .u64 (wd S 3)] 30)).heap.size = B := by simp; omega
  rw [hsz] at hN0
  rw [← hA] at hS0
  go_enter Try.func12, Try.ntmps12
  go_wp2
  rw [← hB, ← hA]
  have hS1 : SetAt ((w.alloc (.cells #[.int .u64 (wd S 0), .int .u64 (wd S 1), .int .u64 (wd S 2), .int .u64 (wd S 3)] 30)).alloc (.cells #[.pointer none, .slice none 0 0] 48)) A S := hS0.kept ((Below.refl _ _).alloc (Nat.le_refl _) _) hS0.lt
  have hb1 : Below A w ((w.alloc (.cells #[.int .u64 (wd S 0), .int .u64 (wd S 1), .int .u64 (wd S 2), .int .u64 (wd S 3)] 30)).alloc (.cells #[.pointer none, .slice none 0 0] 48)) := hb00.alloc (by omega) _
  have hB1 : B ≤ ((w.alloc (.cells #[.int .u64 (wd S 0), .int .u64 (wd S 1), .int .u64 (wd S 2), .int .u64 (wd S 3)] 30)).alloc (.cells #[.pointer none, .slice none 0 0] 48)).heap.size := by simp; omega
  generalize (w.alloc (.cells #[.int .u64 (wd S 0), .int .u64 (wd S 1), .int .u64 (wd S 2), .int .u64 (wd S 3)] 30)).alloc (.cells #[.pointer none, .slice none 0 0] 48) = w1 at *
  have hAB : A < B := by omega
  have HA := Lib.hid hA
  clear hB hA hsz hb00 hS0
  go_loopw [11] (fun i wr => ∃ (k : Nat) (acc : List UInt8), k ≤ s.size ∧ i = .int .i64 k ∧ acc.length ≤ 3 * k ∧ Bld B B acc wr ∧ SetAt wr A S ∧ Below A w wr ∧ B ≤ wr.heap.size ∧ Hid (enc S (tx s) = acc ++ enc S ((tx s).drop k))) (fun i _ => (s.size - intOf i).toNat)
  case atStart => exact ⟨0, [], by omega, rfl, by simp, hN0, hS1, hb1, hB1, Lib.hid (by simp)⟩
  case round =>
    obtain ⟨k, acc, hk, rfl, hal, hbl, hS, hb, hBr, HJ⟩ := hrel
    by_cases hlt : k < s.size
    · have hd : decide ((k : Int) < (s.size : Int)) = true := decide_eq_true (by omega)
      have ix := index_tx s k k rfl hlt
      have HJ2 := Lib.hid (HJ.out.trans (by rw [enc_at S s k hlt, ← List.append_assoc]))
      have hel := (encB_len S ((tx s).getD k 0)).2
      generalize (tx s).getD k 0 = c at *
      by_cases h37 : c = 37
      · have b37 : ((c.toNat : Int) != 37) = false := by rw [h37]; rfl
        have HJ2 := Lib.hid (by rw [← encB_esc S c (.inl h37)]; exact HJ2.out : enc S (tx s) = acc ++ escL c ++ enc S ((tx s).drop (k + 1)))
        clear h37 hel HJ
        go_wp2_with fail
        refine (written_any c.toNat _ (u8_lt c)).mono ?_
        rintro e w2 ⟨rfl, hb2⟩
        unfold escV
        have hbl2 := hbl.kept hb2
        have hS2 := hS.stay hb2
        have hbB2 := hb.trans (hb2.mono (by omega))
        have hBr2 := Nat.le_trans hBr hb2.size
        have hlt2 := hbl2.lt
        have hbl3 := hbl2.alloc (.cells #[.int .u8 37, .int .u8 ((dig (c.toNat / 16)).toNat : Int), .int .u8 ((dig (c.toNat % 16)).toNat : Int)] 54)
        have hS3 := hS2.stay ((Below.refl _ w2).alloc (Nat.le_refl _) (.cells #[.int .u8 37, .int .u8 ((dig (c.toNat / 16)).toNat : Int), .int .u8 ((dig (c.toNat % 16)).toNat : Int)] 54))
        have hbB3 := hbB2.alloc (by omega) (.cells #[.int .u8 37, .int .u8 ((dig (c.toNat / 16)).toNat : Int), .int .u8 ((dig (c.toNat % 16)).toNat : Int)] 54)
        have hm := escL_cells c w2
        clear hb2 hbl hS hb hBr
        have hel : (escL c).length = 3 := rfl
        have HM := Lib.hid hm
        clear hm
        generalize (dig (c.toNat / 16)).toNat = d1 at *
        generalize (dig (c.toNat % 16)).toNat = d2 at *
        have HEL := Lib.hid hel
        clear hel
        go_wp2_with fail
        refine (bld_write B B acc (escL c) ⟨w2.heap.size, 0, none⟩ 3 _ hbl3 HM.out (by show w2.heap.size ≠ B; omega) (by rw [HEL.out]; omega) (by simp; omega)).mono ?_
        rintro e w4 ⟨rfl, hbl4, hb4⟩
        have hS4 := hS3.kept hb4 hAB
        have hbB4 := hbB3.trans (hb4.mono (by omega))
        have hBr4 : B ≤ w4.heap.size := Nat.le_of_lt hbl4.lt
        have hln : (acc ++ escL c).length ≤ 3 * (k + 1) := by rw [List.length_append, HEL.out]; omega
        clear hb4 hbl3 hS3 hbB3 hbl2 hS2 hbB2
        go_wp2_with fail
        go_roundw
        case rel => exact ⟨k + 1, acc ++ escL c, by omega, by go_num, hln, hbl4, hS4, hbB4, hBr4, HJ2⟩
        case measure => simp [intOf]; omega
      · have b37 := u8_ne h37
        have s0 := hS.c0; have s1 := hS.c1; have s2 := hS.c2; have s3 := hS.c3
        have hc := u8_lt c
        have hhas := has_any S (c.toNat : Int) wr (by omega) (by omega)
        rw [Int.toNat_natCast] at hhas
        cases hk2 : S.testBit c.toNat with
        | true =>
          have HJ2 := Lib.hid (by rw [← encB_keep S c h37 hk2]; exact HJ2.out : enc S (tx s) = acc ++ [c] ++ enc S ((tx s).drop (k + 1)))
          rw [hk2] at hhas
          clear h37 hel HJ hk2
          go_wp2_with fail
          refine hhas.mono ?_
          rintro e w2 ⟨rfl, hb2⟩
          have hbl2 := hbl.kept hb2
          have hS2 := hS.stay hb2
          have hbB2 := hb.trans (hb2.mono (by omega))
          have hBr2 := Nat.le_trans hBr hb2.size
          clear hb2 hbl hS hb hBr s0 s1 s2 s3 hhas
          go_wp2_with fail
          refine (bld_byte B B acc _ c _ hbl2 rfl (by omega) hBr2).mono ?_
          rintro e w4 ⟨rfl, hbl4, hb4⟩
          have hS4 := hS2.kept hb4 hAB
          have hbB4 := hbB2.trans (hb4.mono (by omega))
          have hBr4 : B ≤ w4.heap.size := Nat.le_of_lt hbl4.lt
          clear hb4
          go_wp2_with fail
          go_roundw
          case rel => exact ⟨k + 1, acc ++ [c], by omega, by go_num, by simp; omega, hbl4, hS4, hbB4, hBr4, HJ2⟩
          case measure => simp [intOf]; omega
        | false =>
          have HJ2 := Lib.hid (by rw [← encB_esc S c (.inr hk2)]; exact HJ2.out : enc S (tx s) = acc ++ escL c ++ enc S ((tx s).drop (k + 1)))
          rw [hk2] at hhas
          clear h37 hel HJ hk2
          go_wp2_with fail
          refine hhas.mono ?_
          rintro e wh ⟨rfl, hbh⟩
          replace hbl := hbl.kept hbh
          replace hS := hS.stay hbh
          replace hb := hb.trans (hbh.mono (by omega))
          replace hBr := Nat.le_trans hBr hbh.size
          clear hbh s0 s1 s2 s3 hhas
          go_wp2_with fail
          refine (written_any c.toNat _ (u8_lt c)).mono ?_
          rintro e w2 ⟨rfl, hb2⟩
          unfold escV
          have hbl2 := hbl.kept hb2
          have hS2 := hS.stay hb2
          have hbB2 := hb.trans (hb2.mono (by omega))
          have hBr2 := Nat.le_trans hBr hb2.size
          have hlt2 := hbl2.lt
          have hbl3 := hbl2.alloc (.cells #[.int .u8 37, .int .u8 ((dig (c.toNat / 16)).toNat : Int), .int .u8 ((dig (c.toNat % 16)).toNat : Int)] 54)
          have hS3 := hS2.stay ((Below.refl _ w2).alloc (Nat.le_refl _) (.cells #[.int .u8 37, .int .u8 ((dig (c.toNat / 16)).toNat : Int), .int .u8 ((dig (c.toNat % 16)).toNat : Int)] 54))
          have hbB3 := hbB2.alloc (by omega) (.cells #[.int .u8 37, .int .u8 ((dig (c.toNat / 16)).toNat : Int), .int .u8 ((dig (c.toNat % 16)).toNat : Int)] 54)
          have hm := escL_cells c w2
          clear hb2 hbl hS hb hBr
          have hel : (escL c).length = 3 := rfl
          have HM := Lib.hid hm
          clear hm
          generalize (dig (c.toNat / 16)).toNat = d1 at *
          generalize (dig (c.toNat % 16)).toNat = d2 at *
          have HEL := Lib.hid hel
          clear hel
          go_wp2_with fail
          refine (bld_write B B acc (escL c) ⟨w2.heap.size, 0, none⟩ 3 _ hbl3 HM.out (by show w2.heap.size ≠ B; omega) (by rw [HEL.out]; omega) (by simp; omega)).mono ?_
          rintro e w4 ⟨rfl, hbl4, hb4⟩
          have hS4 := hS3.kept hb4 hAB
          have hbB4 := hbB3.trans (hb4.mono (by omega))
          have hBr4 : B ≤ w4.heap.size := Nat.le_of_lt hbl4.lt
          have hln : (acc ++ escL c).length ≤ 3 * (k + 1) := by rw [List.length_append, HEL.out]; omega
          clear hb4 hbl3 hS3 hbB3 hbl2 hS2 hbB2
          go_wp2_with fail
          go_roundw
          case rel => exact ⟨k + 1, acc ++ escL c, by omega, by go_num, hln, hbl4, hS4, hbB4, hBr4, HJ2⟩
          case measure => simp [intOf]; omega
    · have : k = s.size := by omega
      subst this
      have HV := Lib.hid (HJ.out.trans (by rw [List.drop_of_length_le (by rw [← size_tx]; exact Nat.le_refl _)]; simp [enc] : _ = acc))
      go_wp2_with fail
      refine (bld_string B B acc _ hbl hBr).mono ?_
      rintro e w2 ⟨rfl, hb2⟩
      replace hb := hb.trans (hb2.mono (by omega))
      go_wp2_with fail
      go_ret
      rw [HV.out]
      obtain rfl := HA.out
      exact ⟨rfl, hb⟩
end Go.Proofs.Ytdklkeclcdajeaa
