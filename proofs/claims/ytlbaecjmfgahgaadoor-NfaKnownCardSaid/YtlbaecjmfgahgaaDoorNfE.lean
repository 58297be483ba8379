/- slices.Repeat of one number; numbered. -/
import Derived.Test.YtlbaecjmfgahgaaDoorNfB
import Derived.Test.YtlbaecjmfgahgaaDoorNf5
import Derived.Laws.CopyOwn
namespace Go.Proofs.YtlbaecjmfgahgaaDoor
open Go.RowKit Sets Nf
namespace Nf
set_option maxHeartbeats 3200000 in
set_option maxRecDepth 100000 in
theorem mul64_one (n : Nat) (hn : n ≤ 1000) (w : World) :
    Calls Tryd.prog 53 #[.int .u64 1, .int .u64 (n : Int)] w fun e w' => e = .returned (.tuple #[.int .u64 0, .int .u64 (n : Int)]) ∧ w = w' := by
  have h1 : bits .and .u64 (n : Int) 4294967295 = (n : Int) := by
    rw [show (4294967295 : Int) = ((2 ^ 32 - 1 : Nat) : Int) from rfl]
    have := band_c n (2 ^ 32 - 1) (by omega) (by decide) _ _ rfl rfl
    rw [this, Nat.and_two_pow_sub_one_eq_mod, Nat.mod_eq_of_lt (by omega)]
  have h2 : (n : Int) / 4294967296 = 0 := by omega
  go_enter Tryd.func53, Tryd.ntmps53
  have h3 : bits .and .u64 1 4294967295 = 1 := by decide +kernel
  have h4 : bits .and .u64 0 4294967295 = 0 := by decide +kernel
  have h5 : IntKind.u64.wrap (n : Int) = (n : Int) := by rw [IntKind.wrap_u64]; omega
  have h6 : IntKind.u64.wrap 0 = 0 := by decide
  have h7 : (1 : Int) * (n : Int) = (n : Int) := by omega
  have h8 : (0 : Int) / 4294967296 = 0 := by decide
  go_wp2_with fail
  refine bodyPost_ret (v := .tuple #[.int .u64 0, .int .u64 (n : Int)]) (by simp [results, Tryd.results53, go_sem]) rfl ⟨rfl, rfl⟩
set_option maxHeartbeats 3200000 in
set_option maxRecDepth 100000 in
theorem mul_one (n : Nat) (hn : n ≤ 1000) (w : World) :
    Calls Tryd.prog 51 #[.int .u64 1, .int .u64 (n : Int)] w fun e w' => e = .returned (.tuple #[.int .u64 0, .int .u64 (n : Int)]) ∧ w = w' := by
  go_enter Tryd.func51, Tryd.ntmps51
  go_wp2_with (go_at_call 53; refine (mul64_one n hn _).mono ?_; rintro e w2 ⟨rfl, rfl⟩)
  refine bodyPost_ret (v := .tuple #[.int .u64 0, .int .u64 (n : Int)]) (by simp [results, Tryd.results51, go_sem]) rfl ⟨rfl, rfl⟩
/-- k times the number, then zeros -/
def rpL (n k : Nat) : List Value := List.replicate k (Value.int .i64 (-1)) ++ List.replicate (n - k) (Value.int .i64 0)
theorem rpL_len (n k : Nat) (h : k ≤ n) : (rpL n k).length = n := by unfold rpL; simp; omega
theorem rpL_get (n k j : Nat) (h : j < k) : (rpL n k)[j]? = some (.int .i64 (-1)) := by
  unfold rpL
  rw [List.getElem?_append_left (by simpa using h), List.getElem?_replicate, if_pos h]
theorem rpL_put (n k c : Nat) (h : k + c ≤ n) : (rpL n k).take k ++ (List.replicate c (Value.int .i64 (-1)) ++ (rpL n k).drop (k + c)) = rpL n (k + c) := by
  unfold rpL
  rw [List.take_append_of_le_length (by simp), List.take_of_length_le (by simp), List.drop_append, List.drop_of_length_le (by simp), List.nil_append, List.length_replicate, List.drop_replicate, ← List.append_assoc, List.replicate_append_replicate, show n - k - (k + c - k) = n - (k + c) from by omega]
theorem made_rp (n : Nat) : madeCells #[Value.int .i64 0] n = (rpL n 0).toArray := by
  apply Array.ext'
  rw [toList_madeCells_one]
  simp [rpL]
theorem sizeInt : (Tryd.prog.info? 3).map (·.size) = some 1 := by kernel_rfl
theorem rep_one (c : Nat) : ∀ v ∈ List.replicate c (Value.int .i64 (-1)), v.oneCell' = true := fun v hv => by rw [(List.mem_replicate.1 hv).2]; rfl
set_option maxHeartbeats 6400000 in
set_option maxRecDepth 100000 in
theorem repeat_any (b n : Nat) (w : World) (hb : w.cell? ⟨b, 0, none⟩ = some (.int .i64 (-1))) (hn : n ≤ 1000) :
    Calls Tryd.prog 43 #[.slice (some ⟨b, 0, none⟩) 1 1, .int .i64 (n : Int)] w fun e w' => ∃ g, e = .returned (.slice (some ⟨g, 0, none⟩) n n) ∧ w.heap.size ≤ g ∧ w'.heap[g]? = some (.cells (rpL n n).toArray 3 (0, 0)) ∧ Below w.heap.size w w' := by
  have HN := Lib.hid hn
  have h5 : IntKind.u64.wrap (n : Int) = (n : Int) := by rw [IntKind.wrap_u64]; omega
  have h6 : IntKind.u64.wrap 1 = 1 := by decide
  have h7 : wrap64 (n : Int) = (n : Int) := by unfold wrap64; omega
  have hd1 : decide ((n : Int) < 0) = false := decide_eq_false (by omega)
  have hd2 : decide ((9223372036854775807 : Int) < (n : Int)) = false := decide_eq_false (by omega)
  obtain ⟨i0, hi0, hz0⟩ := Option.map_eq_some_iff.1 infoInt
  simp only [Prod.mk.injEq] at hz0
  have HI0 := Lib.hid hi0
  have HZ0 := Lib.hid hz0
  clear hi0 hz0
  go_enter Tryd.func43, Tryd.ntmps43
  go_upto_region 7 with (first
    | (go_at_call 51; refine (mul_one n HN.out _).mono ?_; rintro e w2 ⟨rfl, rfl⟩)
    | (refine wpList_make_row _ rfl (.tmp 29) (.tmp 29) 23 rfl 3 i0 (.int .i64 0) Tryd.underlying23 HI0.out HZ0.out.1 HZ0.out.2.1 rfl .i64 .i64 n rfl rfl (by rw [HZ0.out.2.2]; have := HN.out; omega) (by have := HN.out; omega) ?_))
  have HR0 : Hid ((w.alloc (.cells (madeCells #[.int .i64 0] n) 3)).heap[w.heap.size]? = some (.cells (rpL n 0).toArray 3 (0, 0))) := Lib.hid (by rw [← made_rp]; exact heap_alloc_new w _)
  have HB0 := Lib.hid ((Below.refl w.heap.size w).alloc (Nat.le_refl _) (.cells (madeCells #[.int .i64 0] n) 3))
  have hbl := World.block_lt_of_cell? _ _ hb
  have hb1 := (HB0.out.cell hbl).trans hb
  generalize w.alloc (.cells (madeCells #[.int .i64 0] n) 3) = w1 at *
  obtain ⟨g, hg⟩ : ∃ g, Hid (w.heap.size = g) := ⟨_, Lib.hid rfl⟩
  rw [hg.out] at HR0 ⊢
  by_cases h0 : n = 0
  · subst h0
    go_wp2_with (refine wpList_copy_nothing rfl (.tmp 31) (.tmp 32) 23 23 rfl 3 Tryd.underlying23 sizeInt (some ⟨g, 0, none⟩) (some ⟨b, 0, none⟩) 0 0 1 1 rfl rfl rfl ?_)
    go_loopw [8] (fun i wr => i = .int .i64 0 ∧ wr = w1) (fun _ _ => 0)
    case atStart => exact ⟨rfl, rfl⟩
    case round =>
      obtain ⟨rfl, rfl⟩ := hrel
      go_wp2_with fail
      go_ret
      exact ⟨g, rfl, Nat.le_of_eq hg.out, HR0.out, HB0.out⟩
  · have HP : Hid (1 ≤ n) := Lib.hid (by omega)
    clear h0 hb
    go_wp2_with (refine wpList_copy_own rfl (.tmp 31) (.tmp 32) 23 23 rfl 3 Tryd.underlying23 sizeInt g 0 n n ⟨b, 0, none⟩ 1 1 rfl rfl (rpL n 0).toArray 3 HR0.out [.int .i64 (-1)] (by have := HP.out; show 1 = min 1 n; omega) (by intro j v hj; match j with | 0 => (simp at hj; subst hj; exact hb1) | j + 1 => (simp at hj)) (by have := HP.out; rw [List.size_toArray, rpL_len _ _ (Nat.zero_le _)]; exact this) (rep_one 1) ?_)
    have e1 : (Value.int .i64 (-1) :: (rpL n 0).tail).toArray = (rpL n 1).toArray := by
      have h := rpL_put n 0 1 (by have := HP.out; omega)
      simp only [List.take_zero, List.nil_append, Nat.zero_add, List.replicate_one, List.singleton_append, List.drop_one] at h
      rw [h]
    rw [e1]
    have HR1 : Hid ((w1.setRow g (rpL n 1).toArray).heap[g]? = some (.cells (rpL n 1).toArray 3 (0, 0))) := Lib.hid (setRow_heap w1 g _ _ _ _ HR0.out)
    have HB1 : Hid (Below g w (w1.setRow g (rpL n 1).toArray)) := Lib.hid (below_setRow (hg.out ▸ HB0.out) (Nat.le_refl _) _)
    clear e1 hb1 hbl HB0 HR0
    generalize w1.setRow g (rpL n 1).toArray = w2 at *
    clear hn h5 h7 hd1 hd2 HI0 HZ0 h6
    go_loopw [8] (fun i wr => ∃ k : Nat, i = .int .i64 k ∧ Hid (1 ≤ k) ∧ k ≤ n ∧ Hid (wr.heap[g]? = some (.cells (rpL n k).toArray 3 (0, 0))) ∧ Hid (Below g w wr)) (fun i _ => ((n : Int) - intOf i).toNat)
    case atStart => exact ⟨1, rfl, Lib.hid (Nat.le_refl _), HP.out, HR1, HB1⟩
    case round =>
      obtain ⟨k, rfl, h1, hk, HR, HB⟩ := hrel
      generalize hwr : wr = w3 at *
      clear hwr wr HR1 HB1 w2
      by_cases hlt : k < n
      · have hdd : decide ((k : Int) < (n : Int)) = true := decide_eq_true (by omega)
        have hd2 : decide (k < n) = true := decide_eq_true hlt
        have hkn : (k : Int) ≤ (n : Int) := by omega
        have h0k : (0 : Int) ≤ (k : Int) := by omega
        have hnk : ((n : Int) - (k : Int)).toNat = n - k := by omega
        have HJ := Lib.hid hlt
        obtain ⟨c, hc⟩ : ∃ c, Hid (c = Nat.min k (n - k)) := ⟨_, Lib.hid rfl⟩
        have HC1 : Hid (1 ≤ c ∧ k + c ≤ n ∧ c ≤ k) := Lib.hid (by rw [hc.out]; have := h1.out; have h2 : Nat.min k (n - k) = min k (n - k) := rfl; omega)
        have HW : Hid (wrap64 ((k : Int) + (c : Int)) = ((k + c : Nat) : Int)) := Lib.hid (by have h2 := HC1.out; have h3 := HN.out; unfold wrap64; omega)
        clear hlt
        go_upto_region 9 with fail
        refine region_mix [(false, 0), (false, 1), (false, 2), (false, 3), (false, 4), (false, 5), (false, 6), (true, 7), (false, 8)] (fun w' => True) (by kernel_rfl) (by kernel_rfl) trivial ?_
        simp only [planOps, List.map_cons, List.map_nil, List.getD_cons_zero, List.getD_cons_succ, List.length_cons, List.length_nil, List.drop_succ_cons, List.drop_zero]
        refine mix_seg (seg := [_, _, _, _, _, _, _]) rfl trivial ?_
        intro ι hι F hF
        iterate 7 (go_big_quiet_step (fail))
        refine wpQuiet_nil ?_
        clear hF hι F
        rw [if_neg (show ¬ n = k from by have := HJ.out; omega)]
        refine mix_eff (fun K hK => ?_)
        refine wpList_copy_own rfl (.tmp 41) (.tmp 44) 23 23 rfl 3 Tryd.underlying23 sizeInt g k (n - k) (n - k) ⟨g, 0, none⟩ k n rfl rfl (rpL n k).toArray 3 HR.out (List.replicate c (Value.int .i64 (-1))) (by rw [List.length_replicate]; exact hc.out) (by
          intro j v hj
          have hjc : j < c := by have := (List.getElem?_eq_some_iff.1 hj).1; rwa [List.length_replicate] at this
          rw [List.getElem?_replicate, if_pos hjc] at hj
          rw [Addr.add_lit, Nat.zero_add]
          show w3.cell? _ = _
          rw [cell_of_row w3 g j _ _ _ HR.out, List.getElem?_toArray, rpL_get n k j (by have := HC1.out; omega)]
          exact hj) (by have := HC1.out; rw [List.size_toArray, rpL_len _ _ hk, List.length_replicate]; exact this.2.1) (rep_one c) ?_
        have e2 : ((rpL n k).toArray.toList.take k ++ (List.replicate c (Value.int .i64 (-1)) ++ (rpL n k).toArray.toList.drop (k + (List.replicate c (Value.int .i64 (-1))).length))).toArray = (rpL n (k + c)).toArray := by
          rw [List.length_replicate]
          show ((rpL n k).take k ++ (List.replicate c (Value.int .i64 (-1)) ++ (rpL n k).drop (k + c))).toArray = _
          rw [rpL_put n k c HC1.out.2.1]
        rw [e2]
        clear e2
        rw [show goInt (List.replicate c (Value.int .i64 (-1))).length = .int .i64 (c : Int) from by rw [List.length_replicate]; rfl]
        refine wpList_nil ?_
        refine mix_on hK trivial ?_
        clear hK K
        refine mix_seg (seg := [_]) (rest := []) rfl trivial ?_
        intro ι hι F hF
        simp only [Act.put, List.setIfInBounds_toArray, List.set_cons_zero, List.set_cons_succ]
        go_big_quiet_step (fail)
        refine wpQuiet_nil ?_
        clear hF hι F
        show wpList _ _ _ _ _ _
        have HR2 : Hid ((w3.drew.setRow g (rpL n (k + c)).toArray).heap[g]? = some (.cells (rpL n (k + c)).toArray 3 (0, 0))) := Lib.hid (setRow_heap w3.drew g _ _ _ _ HR.out)
        have HB2 : Hid (Below g w (w3.drew.setRow g (rpL n (k + c)).toArray)) := Lib.hid (below_setRow (HB.out.drew) (Nat.le_refl _) _)
        generalize w3.drew.setRow g (rpL n (k + c)).toArray = w4 at *
        go_wp2_with fail
        refine NoPanic.normal ?_
        go_wp2_with fail
        go_roundw
        case rel => exact ⟨k + c, by rw [HW.out], Lib.hid (by have := HC1.out; omega), HC1.out.2.1, HR2, HB2⟩
        case measure => rw [HW.out]; have := HC1.out; have h3 := HJ.out; simp only [intOf]; omega
      · have hdd : decide ((k : Int) < (n : Int)) = false := decide_eq_false (by omega)
        have hd2 : decide (k < n) = false := decide_eq_false hlt
        have hkn : k = n := by omega
        subst hkn
        go_wp2_with fail
        go_ret
        exact ⟨g, rfl, Nat.le_of_eq hg.out, HR.out, by rw [hg.out]; exact HB.out⟩
end Nf
end Go.Proofs.YtlbaecjmfgahgaaDoor
