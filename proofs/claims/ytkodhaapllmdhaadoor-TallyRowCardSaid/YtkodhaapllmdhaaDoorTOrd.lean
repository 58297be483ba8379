/- TallyOrder. -/
import Derived.Test.YtkodhaapllmdhaaDoorTTot
import Derived.Test.YtkodhaapllmdhaaDoorRSrt
namespace Go.Proofs.YtkodhaapllmdhaaDoor
open Go.RowKit Rk Go.Sort
theorem floats_srt {l : List Nat} {w : World} {B : Nat} (hH : Holds enc w B 0 (srtD (l.map toD)).toArray) (hn : l.length ≤ 1000) : FloatsAt w (.slice (some ⟨B, 0, none⟩) l.length l.length) (srt l) := by
  have := floats_of_holds (cap := l.length) hH (srt l) (by rw [srt_length]; exact hn) (fun j hj => ?_) (fun x hx => (srt_mem hx).1)
  · rw [srt_length] at this; exact this
  · rw [srt_length] at hj
    refine ⟨by rw [srtD_size]; exact hj, ?_⟩
    rw [getElem!_pos _ j (by rw [srtD_size]; exact hj)]
    unfold srt
    have hl : j < (srtD (l.map toD)).length := by rw [(srtD_perm _).length_eq, List.length_map]; exact hj
    simp [List.getD_eq_getElem?_getD, hl]
theorem srt_rank_eq {l m : List Nat} (hl : ∀ x ∈ l, x < 2 ^ 64) (hS : (m.map rk).Pairwise (· ≤ ·)) (hP : (m.map rk).Perm (l.map rk)) : (srt l).map rk = m.map rk :=
  ranks_unique (srt_sorted l) hS ((srt_ranks l hl).trans hP.symm)
theorem rk_getD_eq {l m : List Nat} (h : l.map rk = m.map rk) (j : Nat) : rk (l.getD j 0) = rk (m.getD j 0) := by
  have hlen : l.length = m.length := by have := congrArg List.length h; simpa using this
  by_cases hj : j < l.length
  · rw [← getD_map_rk l j hj, ← getD_map_rk m j (by omega), h]
  · rw [List.getD_eq_getElem?_getD, List.getElem?_eq_none (by omega), List.getD_eq_getElem?_getD, List.getElem?_eq_none (by omega)]
set_option maxHeartbeats 3200000 in
set_option maxRecDepth 100000 in
theorem order_any (a b : Nat) (v : Value) (l : List Nat) (w : World) (ha : a < 2 ^ 64) (hb : b < 2 ^ 64) (hq : FloatsAt w v l) (hT : Tabs w) :
    Calls Tryd.prog 4 #[.float .f64 a, .float .f64 b, v] w fun e w' => e = .returned (.bool true) ∧ Below w.heap.size w w' := by
  have HT := Lib.hid hT
  have HQ := Lib.hid hq
  have hml := hq.2.1
  obtain ⟨s, c, rfl⟩ : ∃ s c, v = .slice s l.length c := by obtain ⟨-, -, s, c, rfl, -⟩ := hq; exact ⟨s, c, rfl⟩
  have hc1 := Lib.hid (fun w => compare_any a b ha hb w)
  have hc2 := Lib.hid (fun w => ref_compare a b ha hb w)
  clear ha hb hq hT
  generalize cf a b = x at *
  go_enter Tryd.func4, Tryd.ntmps4
  by_cases hlen : 200 < l.length
  · have hd : decide ((200 : Int) < (l.length : Int)) = true := decide_eq_true (by omega)
    go_wp2_with fail
    refine (awake_any _ HT.out).mono ?_
    rintro e w' ⟨rfl, hB⟩
    go_wp2_with fail
    go_ret
    exact ⟨rfl, hB⟩
  · have hd : decide ((200 : Int) < (l.length : Int)) = false := decide_eq_false (by omega)
    have hn : l.length ≤ 200 := by omega
    go_wp2_with (first
      | (go_at_call 13; refine (hc1.out _).mono ?_; rintro e w' ⟨rfl, rfl⟩)
      | (go_at_call 19; refine (hc2.out _).mono ?_; rintro e w' ⟨rfl, rfl⟩)
      | (go_at_call 20; refine (sort_any _ l _ HQ.out (by omega)).mono ?_; rintro e w1 ⟨B, rfl, hB1, hB2, hH, hBl⟩
         have hF1 := Lib.hid (floats_srt hH (by omega))
         have HQ1 := Lib.hid (HQ.out.below hBl)
         have HB1 := Lib.hid hBl
         clear hH hBl)
      | (go_at_call 21; refine (refsort_any _ l _ HQ1.out (by omega)).mono ?_; rintro e w2 ⟨u, m, rfl, hO, hm, hS, hP, hB⟩
         obtain ⟨u2, c2, rfl, hc⟩ := hO.some
         have hrk := Lib.hid (srt_rank_eq HQ.out.1 hS hP)
         have hF2 := Lib.hid (hF1.out.below hB)
         have hO2 := Lib.hid hO.1
         have HB2 := Lib.hid (HB1.out.trans (hB.mono HB1.out.size))
         clear hS hP hB hO))
    go_loopw [9] (fun i wr => ∃ k : Nat, i = .int .i64 k ∧ k ≤ l.length ∧ Hid (Below w2.heap.size w2 wr)) (fun i _ => (l.length - intOf i).toNat)
    case atStart => exact ⟨0, rfl, Nat.zero_le _, Lib.hid (Below.refl _ _)⟩
    case round =>
      obtain ⟨k, rfl, hk, hB3⟩ := hrel
      generalize hwr : wr = w3 at *
      clear hwr wr
      have hs3 := hB3.out.size
      by_cases hlt : k < l.length
      · have hdk : decide (k < l.length) = true := decide_eq_true hlt
        obtain ⟨y, Y⟩ : ∃ y, Hid ((srt l).getD k 0 = y) := ⟨_, rfl⟩
        obtain ⟨z, Z⟩ : ∃ z, Hid (m.getD k 0 = z) := ⟨_, rfl⟩
        have hyz : decide (rk y = rk z) = true := decide_eq_true (by rw [← Y.out, ← Z.out]; exact rk_getD_eq hrk.out k)
        have hy : y < 2 ^ 64 := by rw [← Y.out]; exact getD_lt hF2.out.1 k
        have hz : z < 2 ^ 64 := by rw [← Z.out]; exact getD_lt hO2.out.1 k
        have HA := Lib.hid (fun w => alike_is y z true hy hz hyz w)
        obtain ⟨hBw, hcy⟩ : B < w2.heap.size ∧ w2.cell? ⟨B, k, none⟩ = some (.float .f64 y) := by
          obtain ⟨-, -, a', c', e, h3⟩ := hF2.out
          injection e with e1 e2 e3
          subst e1
          obtain ⟨q, o, e, hc⟩ := h3 k (by rw [srt_length]; exact hlt)
          injection e with e
          injection e with e4 e5
          subst e4 e5
          rw [Nat.zero_add, Y.out] at hc
          exact ⟨World.block_lt_of_cell? _ _ hc, hc⟩
        obtain ⟨q, o, rfl, hqw, hcz⟩ : ∃ q o, u2 = some ⟨q, o, none⟩ ∧ q < w2.heap.size ∧ w2.cell? ⟨q, o + k, none⟩ = some (.float .f64 z) := by
          obtain ⟨-, -, a', c', e, h3⟩ := hO2.out
          cases e
          obtain ⟨q, o, e, hc⟩ := h3 k (by omega)
          rw [Z.out] at hc
          exact ⟨q, o, e, World.block_lt_of_cell? _ _ hc, hc⟩
        clear hy hz hyz
        go_wp2_with fail
        refine region_fam (by kernel_rfl) (by kernel_rfl) ?_
        intro ι hι F' hF hX
        have q0 := fun n => ((hB3.out.trans ((hF n).mono hs3)).cell (p := ⟨B, k, none⟩) hBw).trans hcy
        have q1 := fun n => ((hB3.out.trans ((hF n).mono hs3)).cell (p := ⟨q, o + k, none⟩) hqw).trans hcz
        repeat (go_big_quiet_step (first
          | (go_at_call 15; exact fam_call hF hX ((HA.out _).mono fun _ _ ⟨he, hw⟩ => ⟨he, hw ▸ Below.refl _ _⟩))))
        refine wpQuiet_nil ?_
        rintro _ ⟨n, rfl⟩
        have HBn := hF n
        clear q0 q1
        generalize F' n = w4 at *
        clear hF hX n F' hι
        have HB4 := Lib.hid (hB3.out.trans (HBn.mono hs3))
        clear HBn hB3
        go_wp2_with fail
        go_roundw
        case rel => exact ⟨k + 1, by go_num, hlt, HB4⟩
        case measure => simp [intOf]; omega
      · have hkl : k = l.length := by omega
        subst hkl
        have hdk : decide (l.length < l.length) = false := decide_eq_false hlt
        have hB5 := HB2.out.trans (hB3.out.mono HB2.out.size)
        go_wp2_with fail
        refine (awake_any _ (HT.out.below hB5)).mono ?_
        rintro e w' ⟨rfl, hB⟩
        go_wp2_with fail
        go_ret
        exact ⟨rfl, hB5.trans (hB.mono hB5.size)⟩
end Go.Proofs.YtkodhaapllmdhaaDoor
