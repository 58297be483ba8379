/- Decode. -/
import Derived.Test.YtdklkeclcdajeaaSaid
import Derived.Test.YtdklkeclcdajeaaBld
import Derived.Deep.LoopGhost
namespace Go.Proofs.Ytdklkeclcdajeaa
open Go.RowKit Pct
def decV : Option (List UInt8) → Value
  | some l => .tuple #[.string (str l), .bool true]
  | none => .tuple #[.string (str []), .bool false]
theorem map_app (o : Option (List UInt8)) (a : List UInt8) (b : UInt8) : (o.map (b :: ·)).map (a ++ ·) = o.map ((a ++ [b]) ++ ·) := by
  cases o <;> simp
theorem dec_in (s : ByteArray) (k b : Nat) (h : k < s.size) (hb : k < b) : dec ((tx s).drop k) (b - k) = dec ((tx s).drop (k + 1)) (b - (k + 1)) := by
  rw [drop_tx s k h, show b - k = (b - (k + 1)) + 1 from by omega, dec]
theorem dec_at (s : ByteArray) (k b v : Nat) (h : k < s.size) (hb : ¬ k < b) (he : esc ((tx s).drop k) = some v) :
    dec ((tx s).drop k) (b - k) = (dec ((tx s).drop (k + 1)) (k + 3 - (k + 1))).map (UInt8.ofNat v :: ·) := by
  rw [show b - k = 0 from by omega, show k + 3 - (k + 1) = 2 from by omega]
  rw [drop_tx s k h] at he ⊢
  rw [dec, he]
theorem dec_no (s : ByteArray) (k b : Nat) (h : k < s.size) (hb : ¬ k < b) (h37 : (tx s).getD k 0 = 37) (he : esc ((tx s).drop k) = none) : dec ((tx s).drop k) (b - k) = none := by
  rw [show b - k = 0 from by omega]
  rw [drop_tx s k h, h37] at he ⊢
  exact dec_bad _ he
theorem dec_one (s : ByteArray) (k b : Nat) (h : k < s.size) (hb : ¬ k < b) (h37 : (tx s).getD k 0 ≠ 37) :
    dec ((tx s).drop k) (b - k) = (dec ((tx s).drop (k + 1)) (b - (k + 1))).map ((tx s).getD k 0 :: ·) := by
  rw [show b - k = 0 from by omega, show b - (k + 1) = 0 from by omega, drop_tx s k h]
  exact dec_plain _ h37
set_option maxHeartbeats 1600000 in
set_option maxRecDepth 100000 in
theorem decode_any (s : ByteArray) (w : World) (hs : s.size ≤ 1000000000) :
    Calls Try.prog 10 #[.string s] w fun e w' => e = .returned (decV (dec (tx s) 0)) ∧ Below w.heap.size w w' := by
  obtain ⟨B, hB⟩ : ∃ B, B = w.heap.size := ⟨_, rfl⟩
  have hN : Bld B B [] (w.alloc (.cells #[.pointer none, .slice none 0 0] 48)) := by rw [hB]; exact bld_new w
  have hb0 : Below B w (w.alloc (.cells #[.pointer none, .slice none 0 0] 48)) := (Below.refl _ _).alloc (by omega) _
  have hB0 : B ≤ (w.alloc (.cells #[.pointer none, .slice none 0 0] 48)).heap.size := by simp; omega
  go_enter Try.func10, Try.ntmps10
  go_wp2
  rw [← hB]
  generalize w.alloc (.cells #[.pointer none, .slice none 0 0] 48) = w1 at *
  have HB := Lib.hid hB
  clear hB
  go_loopw [5, 11] (fun q i wr => ∃ (k b : Nat) (acc : List UInt8), k ≤ s.size ∧ b ≤ 2000000000 ∧ q = .int .i64 b ∧ i = .int .i64 k ∧ acc.length ≤ k ∧ Bld B B acc wr ∧ Below B w wr ∧ B ≤ wr.heap.size ∧ Hid (dec (tx s) 0 = (dec ((tx s).drop k) (b - k)).map (acc ++ ·))) (fun _ i _ => (s.size - intOf i).toNat)
  case atStart => exact ⟨0, 0, [], by omega, by omega, rfl, rfl, by simp, hN, hb0, hB0, Lib.hid (by simp)⟩
  case round =>
    obtain ⟨k, b, acc, hk, hbb, rfl, rfl, hal, hbl, hb, hBr, HJ⟩ := hrel
    by_cases hlt : k < s.size
    · have hd : decide ((k : Int) < (s.size : Int)) = true := decide_eq_true (by omega)
      have ix := index_tx s k k rfl hlt
      by_cases hin : k < b
      · have hd2 : decide ((k : Int) < (b : Int)) = true := decide_eq_true (by omega)
        have HJ2 := Lib.hid (HJ.out.trans (by rw [dec_in s k b hlt hin]))
        clear ix
        go_wp2_with fail
        go_roundw
        case rel => exact ⟨k + 1, b, acc, by omega, hbb, rfl, by go_num, by omega, hbl, hb, hBr, HJ2⟩
        case measure => simp [intOf]; omega
      · have hd2 : decide ((k : Int) < (b : Int)) = false := decide_eq_false (by omega)
        by_cases h37 : (tx s).getD k 0 = 37
        · rw [h37] at ix
          have hsd := fun w => said_any s k w hlt hs
          cases he : esc ((tx s).drop k) with
          | none =>
            have HV := Lib.hid (HJ.out.trans (by rw [dec_no s k b hlt hin h37 he]; rfl : _ = none))
            rw [he] at hsd
            simp only [valV] at hsd
            clear h37 he
            go_wp2_with fail
            refine (hsd _).mono ?_; rintro e w' ⟨rfl, rfl⟩
            go_wp2_with fail
            go_ret2
            rw [HV.out]
            obtain rfl := HB.out
            exact ⟨rfl, hb⟩
          | some v =>
            have HV := Lib.hid (HJ.out.trans (by rw [dec_at s k b v hlt hin he, map_app] : _ = (dec ((tx s).drop (k + 1)) (k + 3 - (k + 1))).map ((acc ++ [UInt8.ofNat v]) ++ ·)))
            have hv := esc_lt he
            have hvn : (v : Int) = ((UInt8.ofNat v).toNat : Int) := by rw [UInt8.toNat_ofNat']; omega
            rw [he] at hsd
            simp only [valV] at hsd
            have HN := Lib.hid hvn
            clear h37 he hvn
            go_wp2_with fail
            refine (hsd _).mono ?_; rintro e w' ⟨rfl, rfl⟩
            go_wp2_with fail
            refine (bld_byte B B acc _ (UInt8.ofNat v) _ hbl HN.out (by omega) hBr).mono ?_
            rintro e w2 ⟨rfl, hbl2, hb2⟩
            have hBr2 := Nat.le_trans hBr hb2.size
            replace hb := hb.trans hb2
            clear hsd hb2
            go_wp2_with fail
            go_roundw
            case rel => exact ⟨k + 1, k + 3, acc ++ [UInt8.ofNat v], by omega, by omega, by go_num, by go_num, by simp; omega, hbl2, hb, hBr2, HV⟩
            case measure => simp [intOf]; omega
        · have b37 : ((((tx s).getD k 0).toNat : Int) == 37) = false := by have := u8_ne h37; rw [bne_iff_ne] at this; rw [beq_eq_false_iff_ne]; exact this
          have HV := Lib.hid (HJ.out.trans (by rw [dec_one s k b hlt hin h37, map_app]))
          clear h37
          generalize (tx s).getD k 0 = c at *
          go_wp2_with fail
          refine (bld_byte B B acc _ c _ hbl rfl (by omega) hBr).mono ?_
          rintro e w2 ⟨rfl, hbl2, hb2⟩
          have hBr2 := Nat.le_trans hBr hb2.size
          replace hb := hb.trans hb2
          clear hb2
          go_wp2_with fail
          go_roundw
          case rel => exact ⟨k + 1, b, acc ++ [c], by omega, by omega, by go_num, by go_num, by simp; omega, hbl2, hb, hBr2, HV⟩
          case measure => simp [intOf]; omega
    · have : k = s.size := by omega
      subst this
      have HV := Lib.hid (HJ.out.trans (by rw [List.drop_of_length_le (by rw [← size_tx]; exact Nat.le_refl _), dec]; simp : _ = some acc))
      go_wp2_with fail
      refine (bld_string B B acc _ hbl hBr).mono ?_
      rintro e w2 ⟨rfl, hb2⟩
      replace hb := hb.trans hb2
      go_wp2_with fail
      go_ret2
      rw [HV.out]
      obtain rfl := HB.out
      exact ⟨rfl, hb⟩
end Go.Proofs.Ytdklkeclcdajeaa
