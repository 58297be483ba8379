/- The check's own Decode. -/
import Derived.Test.YtdklkeclcdajeaaVal
import Derived.Test.YtdklkeclcdajeaaDec
import Derived.Test.YtdklkeclcdajeaaUpp
import Derived.Test.YtdklkeclcdajeaaMix
import Derived.Laws.Concat
import Derived.Laws.DeepStrings4
namespace Go.Proofs.Ytdklkeclcdajeaa
open Go.RowKit Pct
theorem extract_one (s : ByteArray) (k : Nat) (h : k < s.size) : tx (s.extract k (k + 1)) = [(tx s).getD k 0] := by
  rw [tx_extract, drop_tx s k h, show k + 1 - k = 1 from by omega]; rfl
theorem size_one (s : ByteArray) (k : Nat) (h : k < s.size) : (s.extract k (k + 1)).size = 1 := by rw [size_tx, extract_one s k h]; rfl
theorem dec_none_valid (l : List UInt8) (h : valid l = false) : dec l 0 = none := by
  have := dec_valid l
  rw [h] at this
  cases hd : dec l 0 with
  | none => rfl
  | some q => rw [hd] at this; cases this
/-- What the escape at a place says, by its two digits. -/
theorem esc_parts (s : ByteArray) (k v : Nat) (he : esc ((tx s).drop k) = some v) : k + 2 < s.size ∧ ∃ x y, val ((tx s).getD (k + 1) 0).toNat = some x ∧ val ((tx s).getD (k + 2) 0).toNat = some y ∧ v = 16 * x + y ∧ x < 16 ∧ y < 16 := by
  obtain ⟨a, c, r, x, y, hl, hx, hy, rfl, h1, h2⟩ := esc_some he
  have hlen : ((tx s).drop k).length = r.length + 3 := by rw [hl]; simp
  rw [List.length_drop, ← size_tx] at hlen
  have e1 : (tx s).getD (k + 1) 0 = a := by
    have : ((tx s).drop k).getD 1 0 = a := by rw [hl]; rfl
    rw [← this, List.getD_eq_getElem?_getD, List.getD_eq_getElem?_getD, List.getElem?_drop]
  have e2 : (tx s).getD (k + 2) 0 = c := by
    have : ((tx s).drop k).getD 2 0 = c := by rw [hl]; rfl
    rw [← this, List.getD_eq_getElem?_getD, List.getD_eq_getElem?_getD, List.getElem?_drop]
  rw [e1, e2]
  exact ⟨by omega, x, y, hx, hy, rfl, h1, h2⟩
theorem conv_one (w : World) (g : Nat) (n : Int) (c : UInt8) (hn : n = c.toNat) (h : w.cell? ⟨g, 0, none⟩ = some (.int .u8 n)) :
    (convert 46 9 (.slice (some ⟨g, 0, none⟩) 1 1)).run Try.prog w = .ok (.string (str [c])) w := by
  refine run_convert_bytes_back (P := Try.prog) w 46 9 5 ⟨g, 0, none⟩ 1 [c] Try.underlying46 Try.underlying5 Try.underlying9 (fun j hj => ?_)
  have : j = 0 := by simpa using hj
  subst this
  rw [Addr.add_lit, Nat.zero_add, h, hn]; rfl
theorem no_over (a b : ByteArray) (h : a.size + b.size ≤ 9223372036854775807) : ¬ 9223372036854775807 < a.size + b.size := by omega
theorem size_str1 (c : UInt8) : (str [c]).size = 1 := rfl
set_option maxHeartbeats 1600000 in
set_option maxRecDepth 100000 in
theorem refdec_any (s : ByteArray) (w : World) (hs : s.size ≤ 1000000) :
    Calls Try.prog 20 #[.string s] w fun e w' => e = .returned (decV (dec (tx s) 0)) ∧ Below w.heap.size w w' := by
  have hva := refvalid_any s w (by omega)
  cases hv : valid (tx s) with
  | false =>
    have HD := Lib.hid (dec_none_valid _ hv)
    rw [hv] at hva
    go_enter Try.func20, Try.ntmps20
    go_wp2_with fail
    refine hva.mono ?_; rintro e w' ⟨rfl, rfl⟩
    go_wp2_with fail
    go_ret2
    rw [HD.out]
    exact ⟨rfl, Below.refl _ _⟩
  | true =>
    have HV := Lib.hid hv
    rw [hv] at hva
    clear hv
    go_enter Try.func20, Try.ntmps20
    go_wp2_with fail
    refine hva.mono ?_; rintro e w' ⟨rfl, rfl⟩
    clear hva
    go_wp2_with fail
    go_loopw [4, 5] (fun o i wr => ∃ (k : Nat) (q : ByteArray), k ≤ s.size ∧ i = .int .i64 k ∧ o = .string q ∧ q.size ≤ k ∧ Below w.heap.size w wr ∧ Hid (valid ((tx s).drop k) = true) ∧ Hid (dec (tx s) 0 = (dec ((tx s).drop k) 0).map (tx q ++ ·))) (fun _ i _ => (s.size - intOf i).toNat)
    case atStart => exact ⟨0, str [], by omega, rfl, rfl, by rw [size_str]; simp, Below.refl _ _, by rw [List.drop_zero]; exact HV, Lib.hid (by rw [List.drop_zero, tx_str]; simp)⟩
    case round =>
      obtain ⟨k, q, hk, rfl, rfl, hql, hb, HVK, HJ⟩ := hrel
      have hle := hb.size
      by_cases hlt : k < s.size
      · have hd : decide ((k : Int) < (s.size : Int)) = true := decide_eq_true (by omega)
        have hat := at_any s k wr hk (by omega)
        cases he : esc ((tx s).drop k) with
        | none =>
          have h37 : (tx s).getD k 0 ≠ 37 := fun h => by
            have := valid_bad s k hlt h he
            rw [HVK.out] at this; cases this
          have h1 := extract_one s k hlt
          have h1s := size_one s k hlt
          have HV2 := Lib.hid ((valid_plain s k hlt h37).symm.trans HVK.out)
          have HJ2 := Lib.hid (HJ.out.trans (by rw [drop_tx s k hlt, dec_plain _ h37, map_app, ← h1, ← tx_append] : _ = (dec ((tx s).drop (k + 1)) 0).map (tx (q ++ s.extract k (k + 1)) ++ ·)))
          rw [he] at hat
          simp only [Option.isSome_none] at hat
          have hsl : ∀ w, (Instr.slice 9 (.string s) (some (.int .i64 (k : Int))) (some (.int .i64 ((k : Int) + 1))) none).run Try.prog w = .ok (.string (s.extract k (k + 1))) w := by
            intro w
            have := run_slice_string (P := Try.prog) w 9 s .i64 .i64 (k : Int) ((k : Int) + 1) Try.underlying9 (by omega) (by omega) (by omega)
            rw [this, show ((k : Int) + 1).toNat = k + 1 from by omega, Int.toNat_natCast]
          clear he h37 h1
          generalize s.extract k (k + 1) = z at *
          have hqz : (q ++ z).size ≤ k + 1 := by rw [ByteArray.size_append]; omega
          have HQ := Lib.hid hqz
          clear hqz
          go_wp2_with fail
          refine hat.mono ?_; rintro e w' ⟨rfl, rfl⟩
          go_wp2_with fail
          go_roundw
          case rel => exact ⟨k + 1, q ++ z, by omega, by go_num, rfl, HQ.out, hb, HV2, HJ2⟩
          case measure => simp [intOf]; omega
        | some v =>
          obtain ⟨h3, x, y, hx, hy, rfl, hx1, hy1⟩ := esc_parts s k v he
          have hnv := Nat.lt_of_lt_of_le h3 (Nat.le_refl _)
          have HV2 : Hid (valid ((tx s).drop (k + 3)) = true) := Lib.hid (by
            obtain ⟨h4, hin⟩ := esc_in s k _ he
            rw [← valid_plain s (k + 2) h3 (hin _ (by omega) (by omega)), ← valid_plain s (k + 1) (by omega) (hin _ (by omega) (by omega)), ← valid_esc s k hlt _ he]
            exact HVK.out)
          have HJ2 := Lib.hid (HJ.out.trans (by rw [dec_esc he, List.drop_drop, map_app] : _ = (dec ((tx s).drop (k + 3)) 0).map ((tx q ++ [UInt8.ofNat (16 * x + y)]) ++ ·)))
          have i1 := index_tx s (k + 1) (k + 1) (by omega) (by omega)
          have i2 := index_tx s (k + 2) (k + 2) (by omega) h3
          have VA := fun w => refval_any ((tx s).getD (k + 1) 0).toNat w (u8_lt _)
          have VB := fun w => refval_any ((tx s).getD (k + 2) 0).toNat w (u8_lt _)
          rw [valI_some hx] at VA
          rw [valI_some hy] at VB
          have hc : (16 * (x : Int) + (y : Int)) = ((UInt8.ofNat (16 * x + y)).toNat : Int) := by rw [UInt8.toNat_ofNat']; omega
          have HC := Lib.hid hc
          rw [he] at hat
          simp only [Option.isSome_some] at hat
          clear he hx hy HVK HJ hc
          generalize UInt8.ofNat (16 * x + y) = c at *
          generalize (tx s).getD (k + 1) 0 = a at *
          generalize (tx s).getD (k + 2) 0 = b at *
          go_wp2_with fail
          refine hat.mono ?_; rintro e w' ⟨rfl, rfl⟩
          clear hat
          go_wp2_with fail
          refine region_mix [(false, 0), (false, 1), (false, 2), (false, 3), (false, 4), (false, 7), (false, 8), (false, 9), (false, 10), (true, 5), (false, 6), (true, 11), (false, 12), (false, 13), (true, 14), (false, 15), (false, 16)] (fun w' => Below wr.heap.size wr w') (by kernel_rfl) (by kernel_rfl) ((Below.refl _ _).drew) ?_
          simp only [planOps, List.map_cons, List.map_nil, List.getD_cons_zero, List.getD_cons_succ, List.length_cons, List.length_nil, List.drop_succ_cons, List.drop_zero]
          refine mix_seg (seg := [_, _, _, _, _, _, _, _, _]) rfl ((Below.refl _ _).drew) ?_
          intro ι hι F hF
          repeat (first | (go_big_quiet_step (fail)))
          refine wpQuiet_nil ?_
          clear  hF hι F
          refine mix_eff (fun K hK => ?_)
          go_wp2_with (go_at_call 17; refine (VA _).mono ?_; rintro e w5 ⟨rfl, rfl⟩)
          refine mix_on hK ((Below.refl _ _).drew) ?_
          clear hK K
          refine mix_seg (seg := [_]) rfl ((Below.refl _ _).drew) ?_
          intro ι hι F hF
          repeat (first | (go_big_quiet_step (fail)))
          refine wpQuiet_nil ?_
          clear  hF hι F
          refine mix_eff (fun K hK => ?_)
          go_wp2_with (go_at_call 17; refine (VB _).mono ?_; rintro e w6 ⟨rfl, rfl⟩)
          refine mix_on hK ((Below.refl _ _).drew) ?_
          clear hK K
          refine mix_seg (seg := [_, _]) rfl ((Below.refl _ _).drew) ?_
          intro ι hι F hF
          repeat (first | (go_big_quiet_step (fail)))
          refine wpQuiet_nil ?_
          clear  hF hι F
          refine mix_eff (fun K hK => ?_)
          go_wp2
          have hb7 : Below wr.heap.size wr (wr.alloc (.cells #[.int .u8 (16 * (x : Int) + (y : Int))] 5)).drew := ((Below.refl _ _).alloc (Nat.le_refl _) _).drew
          have hW : (wr.alloc (.cells #[.int .u8 (16 * (x : Int) + (y : Int))] 5)).drew.cell? ⟨wr.heap.size, 0, none⟩ = some (.int .u8 (16 * (x : Int) + (y : Int))) := by simp
          have HW := Lib.hid hW
          clear hW
          generalize (wr.alloc (.cells #[.int .u8 (16 * (x : Int) + (y : Int))] 5)).drew = w7 at *
          refine mix_on' (fun w' => Below w7.heap.size w7 w') hK (fun x hx => (hb7).trans (hx.mono (hb7).size)) (Below.refl _ _) ?_
          clear hK K
          refine mix_seg (seg := [_, _]) (rest := []) rfl (Below.refl w7.heap.size w7) ?_
          intro ι hι F hF
          have cv := fun n => conv_one (F n) _ _ c HC.out (((hF n).cell (World.block_lt_of_cell? _ _ HW.out)).trans HW.out)
          have ad := fun n => run_string_add_sum (P := Try.prog) (F n) q (str [c]) (by rw [size_str1]; omega)
          have no := fun n => no_over q (str [c]) (by rw [size_str1]; omega)
          repeat (first | (go_big_quiet_step (fail)))
          refine wpQuiet_nil ?_
          clear cv ad no hF hι F
          show wpList _ _ _ _ _ _
          have hb8 := hb.trans (hb7.mono hle)
          have hqz : (q ++ str [c]).size ≤ k + 3 := by rw [ByteArray.size_append, size_str1]; omega
          have HQ := Lib.hid hqz
          have HJ3 : Hid (dec (tx s) 0 = (dec ((tx s).drop (k + 3)) 0).map (tx (q ++ str [c]) ++ ·)) := Lib.hid (by rw [tx_append, tx_str]; exact HJ2.out)
          clear hb7 HW hqz HJ2 i1 i2 VA VB HC
          generalize q ++ str [c] = q2 at *
          go_wp2
          refine NoPanic.normal ?_
          go_wp2_with fail
          go_roundw
          case rel => exact ⟨k + 3, q2, by omega, by go_num, rfl, HQ.out, hb8, HV2, HJ3⟩
          case measure => simp [intOf]; omega
      · have : k = s.size := by omega
        subst this
        have HV2 := Lib.hid (HJ.out.trans (by rw [List.drop_of_length_le (by rw [← size_tx]; exact Nat.le_refl _), dec]; simp : _ = some (tx q)))
        go_wp2_with fail
        go_ret2
        rw [HV2.out, decV, str_tx]
        exact ⟨rfl, hb⟩
end Go.Proofs.Ytdklkeclcdajeaa
