/- Text at 1e+300 (written by tools/gentext.py). -/
import Derived.Test.YtkodhaapllmdhaaDoorStr8
import Derived.Test.YtkodhaapllmdhaaDoorEfg
namespace Go.Proofs.YtkodhaapllmdhaaDoor
open Go.RowKit Rk
theorem short_big (w : World) (hT : Tabs w) :
    Calls Tryd.prog 67 #[.int .u64 13772540099066388480, .int .i64 933] w fun r w' => r = .returned (.tuple #[.int .u64 1000000000000000, .int .i64 285]) ∧ Below w.heap.size w w' :=
  short_norm 13772540099066388480 0 64 8 39999999999999999 40000000000000005 40000000000000003 10000000000000000 10000000000000001 933 (-284) (-944) w hT (by decide) (by decide) (by decide) (by decide) (by decide) (by decide) (by decide) (by decide) (by decide) (by decide) (by decide)
    (by decide +kernel) (by decide +kernel) (by decide +kernel) (by decide) (by decide) (by decide) (by decide) (by decide) (by decide)
theorem digs_big (w : World) (hT : Tabs w) :
    Calls Tryd.prog 61 #[.int .u64 1000000000000000] w fun e w' => e = .returned (.int .i64 16) ∧ w = w' :=
  numdigits_is 1000000000000000 50 15 16 w hT (by decide) (by decide +kernel) (by decide) (by decide) (by decide +kernel)
set_option maxHeartbeats 3200000 in
set_option maxRecDepth 100000 in
theorem ftoa_big (h : Nat) (w : World) (hT : Tabs w) (f : Nat → Nat) (hR : RowB w h 24 f) :
    Calls Tryd.prog 43 #[.slice (some ⟨h, 0, none⟩) 0 24, .float .f64 9094988921128908188, .int .u8 103, .int .i64 (-1)] w fun e w' => e = .returned (.slice (some ⟨h, 0, none⟩) 6 24) ∧ RowB w' h 24 (upd (upd (upd (upd (upd (upd f 0 49) 1 101) 2 43) 3 51) 4 48) 5 48) ∧ Below h w w' := by
  have hb : ∀ w, (callFunc 55 #[.float .f64 9094988921128908188]).run Tryd.prog w = .ok (.value (.int .u64 9094988921128908188)) w := fun w => sbits_of 9094988921128908188 w
  have a1 : bits .and .i64 2019 2047 = 2019 := by decide +kernel
  have a2 : bits .and .u64 9094988921128908188 4503599627370495 = 2221273467876764 := by decide +kernel
  have a3 : bits .or .u64 2221273467876764 4503599627370496 = 6724873095247260 := by decide +kernel
  go_enter Tryd.func43, Tryd.ntmps43
  go_wp2_with fail
  refine region_fam (by kernel_rfl) (by kernel_rfl) ?_
  intro ι hι F' hF hX
  repeat (go_big_quiet_step (fail))
  refine wpQuiet_nil ?_
  rintro _ ⟨n, rfl⟩
  have HB := hF n
  generalize F' n = W2 at *
  clear hF hX n F' hι
  have hT2 := hT.below HB
  have hR2 := hR.below HB
  have hg := World.block_lt_of_cell? _ _ (hR 0 (by decide)).1
  simp only at hg
  have hB2 : Below h w W2 := HB.mono (Nat.le_of_lt hg)
  have hg2 : h < W2.heap.size := Nat.lt_of_lt_of_le hg HB.size
  clear HB hT hR hg
  have HT2 := Lib.hid hT2
  have HR2 := Lib.hid hR2
  have HB2 := Lib.hid hB2
  clear hT2 hR2 hB2
  go_wp2_with fail
  refine (len64_is 6724873095247260 (by decide) _).mono ?_
  rw [show Lib.bitLen 6724873095247260 = 53 by decide +kernel]
  rintro r w' ⟨rfl, rfl⟩
  go_wp2_with fail
  have hrb := row_new W2 32 76
  rw [show (List.replicate 32 (Value.int .u8 0)).toArray = #[.int .u8 0, .int .u8 0, .int .u8 0, .int .u8 0, .int .u8 0, .int .u8 0, .int .u8 0, .int .u8 0, .int .u8 0, .int .u8 0, .int .u8 0, .int .u8 0, .int .u8 0, .int .u8 0, .int .u8 0, .int .u8 0, .int .u8 0, .int .u8 0, .int .u8 0, .int .u8 0, .int .u8 0, .int .u8 0, .int .u8 0, .int .u8 0, .int .u8 0, .int .u8 0, .int .u8 0, .int .u8 0, .int .u8 0, .int .u8 0, .int .u8 0, .int .u8 0] by rfl] at hrb
  have hba : Below W2.heap.size W2 (W2.alloc (.cells #[.int .u8 0, .int .u8 0, .int .u8 0, .int .u8 0, .int .u8 0, .int .u8 0, .int .u8 0, .int .u8 0, .int .u8 0, .int .u8 0, .int .u8 0, .int .u8 0, .int .u8 0, .int .u8 0, .int .u8 0, .int .u8 0, .int .u8 0, .int .u8 0, .int .u8 0, .int .u8 0, .int .u8 0, .int .u8 0, .int .u8 0, .int .u8 0, .int .u8 0, .int .u8 0, .int .u8 0, .int .u8 0, .int .u8 0, .int .u8 0, .int .u8 0, .int .u8 0] 76)) := (Below.refl _ W2).alloc (Nat.le_refl _) _
  generalize W2.alloc (.cells #[.int .u8 0, .int .u8 0, .int .u8 0, .int .u8 0, .int .u8 0, .int .u8 0, .int .u8 0, .int .u8 0, .int .u8 0, .int .u8 0, .int .u8 0, .int .u8 0, .int .u8 0, .int .u8 0, .int .u8 0, .int .u8 0, .int .u8 0, .int .u8 0, .int .u8 0, .int .u8 0, .int .u8 0, .int .u8 0, .int .u8 0, .int .u8 0, .int .u8 0, .int .u8 0, .int .u8 0, .int .u8 0, .int .u8 0, .int .u8 0, .int .u8 0, .int .u8 0] 76) = W3 at *
  have hT3 := HT2.out.below hba
  have hR3 := HR2.out.below hba
  have hB3 : Below h w W3 := HB2.out.trans (hba.mono (Nat.le_of_lt hg2))
  have hs3 : W2.heap.size < W3.heap.size := World.block_lt_of_cell? _ _ (hrb 0 (by decide)).1
  clear HT2 HR2 HB2 hba
  generalize W2.heap.size = g at *
  clear W2
  refine (short_big W3 hT3).mono ?_
  rintro r W4 ⟨rfl, hb4⟩
  have hT4 := hT3.below hb4
  have hR4 := hR3.below hb4
  have hG4 := hrb.below hb4
  have hB4 : Below h w W4 := hB3.trans (hb4.mono (by omega))
  clear hT3 hR3 hrb hB3 hb4 hs3 W3
  have HT4 := Lib.hid hT4
  have HR4 := Lib.hid hR4
  have HG4 := Lib.hid hG4
  have HB4 := Lib.hid hB4
  clear hT4 hR4 hG4 hB4
  go_wp2_with fail
  refine region_mix [(false, 0), (false, 1), (false, 2), (false, 3), (true, 4), (true, 5), (false, 6), (false, 7), (false, 8), (false, 9)] (fun _ => True) (by kernel_rfl) (by kernel_rfl) trivial ?_
  simp only [planOps, List.map_cons, List.map_nil, List.getD_cons_zero, List.getD_cons_succ, List.length_cons, List.length_nil, List.drop_succ_cons, List.drop_zero]
  refine mix_seg (seg := [_, _, _, _]) rfl trivial ?_
  intro ι hι F hF
  repeat (first | (go_big_quiet_step (fail)))
  refine wpQuiet_nil ?_
  clear hF hι F
  have hT4 := HT4.out.below ((Below.refl _ W4).drew)
  have hR4 := HR4.out.below ((Below.refl _ W4).drew)
  have hG4 := HG4.out.below ((Below.refl _ W4).drew)
  have hB4 := HB4.out.drew
  generalize W4.drew = W4d at *
  refine mix_eff (fun K hK => ?_)
  go_wp2_with fail
  refine (digs_big W4d hT4).mono ?_
  rintro r w' ⟨rfl, rfl⟩
  go_wp2_with fail
  refine mix_on hK trivial ?_
  clear hK K
  refine mix_eff (fun K hK => ?_)
  go_wp2_with fail
  refine (setdigits_any g 32 16 32 1000000000000000 15 285 (fun _ => 0) W4d hG4 (by decide) (by decide) (by decide) (by decide) (by decide) (by decide) (by decide) (by decide) (by decide +kernel) (by decide)).mono ?_
  rintro r W5 ⟨rfl, hG5, hb5⟩
  go_wp2_with fail
  refine mix_on hK trivial ?_
  clear hK K
  refine mix_seg (seg := [_, _, _, _]) (rest := []) rfl trivial ?_
  intro ι hι F hF
  repeat (first | (go_big_quiet_step (fail)))
  refine wpQuiet_nil ?_
  clear hF hι F
  show wpList _ _ _ _ _ _
  go_wp2_with fail
  refine NoPanic.normal ?_
  have hd5 := (hG5 0 (by decide)).1
  rw [show ((fun j => if j < 16 then dg 1000000000000000 (16 - 1 - j) else (fun _ => 0) j) 0) = 49 by decide +kernel] at hd5
  have hR5 := hR4.keep hb5 hg2
  have hB5 : Below h w W5 := hB4.trans (hb5.mono (Nat.le_of_lt hg2))
  clear HT4 HR4 HG4 HB4 hT4 hR4 hG4 hB4 hG5 hb5 W4d
  have HD := Lib.hid hd5
  have HR5 := Lib.hid hR5
  have HB5 := Lib.hid hB5
  clear hd5 hR5 hB5
  go_wp2_with fail
  refine (efg_big g h W5 HD.out f HR5.out (by omega)).mono ?_
  rintro r W6 ⟨rfl, hR6, hb6⟩
  have HR6 := Lib.hid hR6
  have HB6 := Lib.hid (HB5.out.trans hb6)
  clear hR6 hb6
  go_wp2_with fail
  go_ret
  exact ⟨rfl, HR6.out, HB6.out⟩

set_option maxHeartbeats 1600000 in
set_option maxRecDepth 100000 in
theorem format_big (w : World) (hT : Tabs w) :
    Calls Tryd.prog 39 #[.float .f64 9094988921128908188, .int .u8 103, .int .i64 (-1), .int .i64 64] w fun e w' => e = .returned (.string { data := #[49, 101, 43, 51, 48, 48] }) ∧ Below w.heap.size w w' := by
  obtain ⟨w1, hm, hR, hB⟩ := made_bytes w
  have mx : max (3 : Int) 24 = 24 := by decide
  have HF := ftoa_big w.heap.size w1 (hT.below hB) _ hR
  have HF' := Lib.hid HF
  have HB := Lib.hid hB
  clear HF hR hB hT
  go_enter Tryd.func39, Tryd.ntmps39
  go_wp2_with fail
  refine HF'.out.mono ?_
  rintro r w2 ⟨rfl, hR2, hB2⟩
  have hs := said_row hR2 6 24 (by decide) [49, 101, 43, 51, 48, 48] rfl (by decide)
  have HB2 := Lib.hid (HB.out.trans hB2)
  clear hR2 hB2 HB HF'
  go_wp2_with fail
  go_ret
  exact ⟨rfl, HB2.out⟩
theorem strconv_big (w : World) (hT : Tabs w) :
    Calls Tryd.prog 32 #[.float .f64 9094988921128908188, .int .u8 103, .int .i64 (-1), .int .i64 64] w fun e w' => e = .returned (.string { data := #[49, 101, 43, 51, 48, 48] }) ∧ Below w.heap.size w w' := by
  have HF := Lib.hid (format_big w hT)
  clear hT
  go_enter Tryd.func32, Tryd.ntmps32
  go_wp2_with fail
  refine HF.out.mono ?_
  rintro r w2 ⟨rfl, hB⟩
  go_wp2_with fail
  go_ret
  exact ⟨rfl, hB⟩
set_option maxHeartbeats 1600000 in
set_option maxRecDepth 100000 in
theorem text_big (w : World) (hT : Tabs w) :
    Calls Tryd.prog 16 #[.float .f64 9094988921128908188] w fun e w' => e = .returned (.string { data := #[49, 101, 43, 51, 48, 48] }) ∧ Below w.heap.size w w' := by
  have HF := Lib.hid (strconv_big w hT)
  clear hT
  go_enter Tryd.func16, Tryd.ntmps16
  go_wp2_with fail
  refine (isnan_any 9094988921128908188 (by decide) _).mono ?_
  rw [show nanB 9094988921128908188 = false by decide +kernel]
  rintro r w' ⟨rfl, rfl⟩
  go_wp2_with fail
  refine (isinf_pos 9094988921128908188 (by decide) _).mono ?_
  rw [show decide ((9094988921128908188 : Nat) = 2047 * 2 ^ 52) = false by decide +kernel]
  rintro r w' ⟨rfl, rfl⟩
  go_wp2_with fail
  refine (isinf_neg 9094988921128908188 false (by decide) (by decide +kernel) _).mono ?_
  rintro r w' ⟨rfl, rfl⟩
  go_wp2_with fail
  refine HF.out.mono ?_
  rintro r w2 ⟨rfl, hB⟩
  go_wp2_with fail
  go_ret
  exact ⟨rfl, hB⟩

end Go.Proofs.YtkodhaapllmdhaaDoor
