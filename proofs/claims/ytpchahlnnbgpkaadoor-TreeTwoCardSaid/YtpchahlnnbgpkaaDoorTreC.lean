/- tree.addByte. -/
import Derived.Test.YtpchahlnnbgpkaaDoorTreB
namespace Go.Proofs.YtpchahlnnbgpkaaDoor
open Go.RowKit Sets Tr
theorem esc_hex (m : List Nat) (c : Nat) (h1 : m.contains c = false) (h2 : c < 33 ∨ 126 < c) : esc m c = [92, 120, hex (c / 16), hex (c % 16)] := by
  unfold esc; rw [h1, if_neg (by decide), if_pos h2]
theorem esc_mark (m : List Nat) (c : Nat) (h1 : m.contains c = true) : esc m c = [92, c] := by
  unfold esc; rw [h1, if_pos rfl]
theorem esc_self (m : List Nat) (c : Nat) (h1 : m.contains c = false) (h2 : ¬ (c < 33 ∨ 126 < c)) : esc m c = [c] := by
  unfold esc; rw [h1, if_neg (by decide), if_neg h2]
set_option maxHeartbeats 3200000 in
set_option maxRecDepth 100000 in
theorem addByte_any (B : Nat) (v : Value) (D : List Nat) (c : Nat) (s : ByteArray) (m : List Nat) (w : World) (hc : c < 256) (hs : HasB s m) (hO : Out B w v D) (hD : D.length ≤ 1000000000) (hB : B ≤ w.heap.size) :
    Calls Tryd.prog 42 #[v, .int .u8 c, .string s] w (OutAp B w v (D ++ esc m c)) := by
  have hi := hs c hc
  have HI := fun w => index_bytes s c w
  generalize Lib.indexByte s.data.toList ((c : Int)).toNat.toUInt8 = k at hi HI
  have HI := Lib.hid HI
  have HO := Lib.hid hO
  clear hO hs
  go_enter Tryd.func42, Tryd.ntmps42
  cases hm : m.contains c
  · rw [hm] at hi
    by_cases h2 : c < 33 ∨ 126 < c
    · have HE := Lib.hid (esc_hex m c hm h2)
      clear hm
      have hx1 := fun w => index_hex (c / 16) (by omega) w
      have hx2 := fun w => index_hex (c % 16) (by omega) w
      rw [show ((c / 16 : Nat) : Int) = (c : Int) / 16 from by omega] at hx1
      rw [show ((c % 16 : Nat) : Int) = (c : Int) % 16 from by omega] at hx2
      have HX1 := Lib.hid hx1
      have HX2 := Lib.hid hx2
      clear hx1 hx2
      rcases h2 with h2 | h2
      all_goals
        go_wp2_with (go_at_call 52; refine (HI.out _).mono ?_; rintro e w' ⟨rfl, rfl⟩)
        refine region_mix [(false, 0), (false, 1), (false, 2), (false, 3), (false, 4), (false, 5), (false, 6), (true, 7), (true, 8)] (fun _ => True) (by kernel_rfl) (by kernel_rfl) trivial ?_
        simp only [planOps, List.map_cons, List.map_nil, List.getD_cons_zero, List.getD_cons_succ, List.length_cons, List.length_nil, List.drop_succ_cons, List.drop_zero]
        refine mix_seg (seg := [_, _, _, _, _, _, _]) rfl trivial ?_
        intro ι hι F hF
        have f1 := HX1.out
        have f2 := HX2.out
        repeat (go_big_quiet_step (fail))
        refine wpQuiet_nil ?_
        clear f1 f2 hF hι F
        refine mix_eff (fun K hK => ?_)
        go_wp2
        refine mix_on hK trivial ?_
        clear hK K
        refine mix_eff (fun K hK => ?_)
        go_wp2_with (refine wpList_out rfl _ _ rfl B v D [92, 120, hex (c / 16), hex (c % 16)] _ rfl rfl (HO.out.below ((Below.refl w.heap.size w).drew)) rfl (by simp; omega) hB ?_; intro v2 w2 hO2 hB2 hA2; have HO2 := Lib.hid hO2; have HA2 := Lib.hid hA2; clear hO2 hA2)
        refine mix_on hK trivial ?_
        clear hK K
        show wpList _ _ _ _ _ _
        go_wp2
        refine NoPanic.normal ?_
        go_wp2
        go_ret
        refine ⟨_, rfl, ?_, ((Below.refl B w).drew).trans hB2, (Ap.of_below v ((Below.refl w.heap.size w).drew)).trans HA2.out⟩
        rw [HE.out]
        exact HO2.out
    · have HE := Lib.hid (esc_self m c hm h2)
      clear hm
      have d1 : decide ((c : Int) < 33) = false := decide_eq_false (by omega)
      have d2 : decide ((126 : Int) < c) = false := decide_eq_false (by omega)
      clear h2
      go_wp2_with (first
        | (go_at_call 52; refine (HI.out _).mono ?_; rintro e w' ⟨rfl, rfl⟩)
        | (refine wpList_out rfl _ _ rfl B v D [c] _ rfl rfl HO.out rfl (by simp; omega) hB ?_; intro v2 w2 hO2 hB2 hA2; have HO2 := Lib.hid hO2; have HA2 := Lib.hid hA2; clear hO2 hA2))
      go_ret
      refine ⟨_, rfl, ?_, hB2, HA2.out⟩
      rw [HE.out]
      exact HO2.out
  · rw [hm] at hi
    have HE := Lib.hid (esc_mark m c hm)
    clear hm
    go_wp2_with (first
      | (go_at_call 52; refine (HI.out _).mono ?_; rintro e w' ⟨rfl, rfl⟩)
      | (refine wpList_out rfl _ _ rfl B v D [92, c] _ rfl rfl HO.out rfl (by simp; omega) hB ?_; intro v2 w2 hO2 hB2 hA2; have HO2 := Lib.hid hO2; have HA2 := Lib.hid hA2; clear hO2 hA2))
    go_ret
    refine ⟨_, rfl, ?_, hB2, HA2.out⟩
    rw [HE.out]
    exact HO2.out
end Go.Proofs.YtpchahlnnbgpkaaDoor
