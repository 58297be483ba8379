/- Several texts in one. -/
import Derived.Test.YtghbgfkkdknmnaaDoorPqA8
import Derived.Test.YtghbgfkkdknmnaaDoorPqA4
import Derived.Laws.CopyOwn
import Derived.Test.YtghbgfkkdknmnaaDoorPqB0
namespace Go.Proofs.YtghbgfkkdknmnaaDoor
open Go.RowKit Sets Nf
namespace Nf
set_option maxHeartbeats 3200000 in
set_option maxRecDepth 100000 in
theorem mul64_one (n : Nat) (hn : n ≤ 1000) (w : World) :
    Calls Tryd.prog 74 #[.int .u64 1, .int .u64 (n : Int)] w fun e w' => e = .returned (.tuple #[.int .u64 0, .int .u64 (n : Int)]) ∧ w = w' := by
  have h1 : bits .and .u64 (n : Int) 4294967295 = (n : Int) := by
    rw [show (4294967295 : Int) = ((2 ^ 32 - 1 : Nat) : Int) from rfl]
    have := band_c n (2 ^ 32 - 1) (by omega) (by decide) _ _ rfl rfl
    rw [this, Nat.and_two_pow_sub_one_eq_mod, Nat.mod_eq_of_lt (by omega)]
  have h2 : (n : Int) / 4294967296 = 0 := by omega
  go_enter Tryd.func74, Tryd.ntmps74
  have h3 : bits .and .u64 1 4294967295 = 1 := by decide +kernel
  have h4 : bits .and .u64 0 4294967295 = 0 := by decide +kernel
  have h5 : IntKind.u64.wrap (n : Int) = (n : Int) := by rw [IntKind.wrap_u64]; omega
  have h6 : IntKind.u64.wrap 0 = 0 := by decide
  have h7 : (1 : Int) * (n : Int) = (n : Int) := by omega
  have h8 : (0 : Int) / 4294967296 = 0 := by decide
  go_wp2_with fail
  refine bodyPost_ret (v := .tuple #[.int .u64 0, .int .u64 (n : Int)]) (by simp [results, Tryd.results74, go_sem]) rfl ⟨rfl, rfl⟩
set_option maxHeartbeats 3200000 in
set_option maxRecDepth 100000 in
theorem mul_one (n : Nat) (hn : n ≤ 1000) (w : World) :
    Calls Tryd.prog 70 #[.int .u64 1, .int .u64 (n : Int)] w fun e w' => e = .returned (.tuple #[.int .u64 0, .int .u64 (n : Int)]) ∧ w = w' := by
  go_enter Tryd.func70, Tryd.ntmps70
  go_wp2_with (go_at_call 74; refine (mul64_one n hn _).mono ?_; rintro e w2 ⟨rfl, rfl⟩)
  refine bodyPost_ret (v := .tuple #[.int .u64 0, .int .u64 (n : Int)]) (by simp [results, Tryd.results70, go_sem]) rfl ⟨rfl, rfl⟩
/-- k times the number, then zeros -/
def rpL (n k : Nat) : List Value := List.replicate k (Value.int .i64 (-1)) ++ List.replicate (n - k) (Value.int .i64 0)
theorem rpL_len (n k : Nat) (h : k ≤ n) : (rpL n k).length = n := by unfold rpL; simp; omega
theorem rpL_get (n k j : Nat) (h : j < k) : (rpL n k)[j]? = some (.int .i64 (-1)) := by
  unfold rpL
  rw [List.getElem?_append_left (by simpa using h), List.getElem?_replicate, if_pos h]
theorem rpL_put (n k c : Nat) (h : k + c ≤ n) : (rpL n k).take k ++ (List.replicate c (Value.int .i64 (-1)) ++ (rpL n k).drop (k + c)) = rpL n (k + c) := by
  unfold rpL
  rw [List.take_append_of_le_length (by simp), List.take_of_length_le (by simp), List.drop_append, List.drop_of_length_le (by simp), List.nil_append, List.length_replicate, List.drop_replicate, ← List.append_assoc, List.replicate_append_replicate, show n - k - (k + c - k) = n - (k + c) from by omega]
theorem made_rp (n : Nat) : madeCells #[Value.int .i64 0] n = (rpL n 0).toArray := by
  apply Array.ext'
  rw [toList_madeCells_one]
  simp [rpL]
theorem sizeInt : (Tryd.prog.info? 3).map (·.size) = some 1 := by kernel_rfl
theorem rep_one (c : Nat) : ∀ v ∈ List.replicate c (Value.int .i64 (-1)), v.oneCell' = true := fun v hv => by rw [(List.mem_replicate.1 hv).2]; rfl
set_option maxHeartbeats 6400000 in
set_option maxRecDepth 100000 in
theorem repeat_any (b n : Nat) (w : World) (hb : w.cell? ⟨b, 0, none⟩ = some (.int .i64 (-1))) (hn : n ≤ 1000) :
    Calls Tryd.prog 63 #[.slice (some ⟨b, 0, none⟩) 1 1, .int .i64 (n : Int)] w fun e w' => ∃ g, e = .returned (.slice (some ⟨g, 0, none⟩) n n) ∧ w.heap.size ≤ g ∧ w'.heap[g]? = some (.cells (rpL n n).toArray 3 (0, 0)) ∧ Below w.heap.size w w' := by
  have HN := Lib.hid hn
  have h5 : IntKind.u64.wrap (n : Int) = (n : Int) := by rw [IntKind.wrap_u64]; omega
  have h6 : IntKind.u64.wrap 1 = 1 := by decide
  have h7 : wrap64 (n : Int) = (n : Int) := by unfold wrap64; omega
  have hd1 : decide ((n : Int) < 0) = false := decide_eq_false (by omega)
  have hd2 : decide ((9223372036854775807 : Int) < (n : Int)) = false := decide_eq_false (by omega)
  obtain ⟨i0, hi0, hz0⟩ := Option.map_eq_some_iff.1 infoInt
  simp only [Prod.mk.injEq] at hz0
  have HI0 := Lib.hid hi0
  have HZ0 := Lib.hid hz0
  clear hi0 hz0
  go_enter Tryd.func63, Tryd.ntmps63
  go_upto_region 7 with (first
    | (go_at_call 70; refine (mul_one n HN.out _).mono ?_; rintro e w2 ⟨rfl, rfl⟩)
    | (refine wpList_make_row _ rfl (.tmp 29) (.tmp 29) 23 rfl 3 i0 (.int .i64 0) Tryd.underlying23 HI0.out HZ0.out.1 HZ0.out.2.1 rfl .i64 .i64 n rfl rfl (by rw [HZ0.out.2.2]; have := HN.out; omega) (by have := HN.out; omega) ?_))
  have HR0 : Hid ((w.alloc (.cells (madeCells #[.int .i64 0] n) 3)).heap[w.heap.size]? = some (.cells (rpL n 0).toArray 3 (0, 0))) := Lib.hid (by rw [← made_rp]; exact heap_alloc_new w _)
  have HB0 := Lib.hid ((Below.refl w.heap.size w).alloc (Nat.le_refl _) (.cells (madeCells #[.int .i64 0] n) 3))
  have hbl := World.block_lt_of_cell? _ _ hb
  have hb1 := (HB0.out.cell hbl).trans hb
  generalize w.alloc (.cells (madeCells #[.int .i64 0] n) 3) = w1 at *
  obtain ⟨g, hg⟩ : ∃ g, Hid (w.heap.size = g) := ⟨_, Lib.hid rfl⟩
  rw [hg.out] at HR0 ⊢
  by_cases h0 : n = 0
  · subst h0
    go_wp2_with (refine wpList_copy_nothing rfl (.tmp 31) (.tmp 32) 23 23 rfl 3 Tryd.underlying23 sizeInt (some ⟨g, 0, none⟩) (some ⟨b, 0, none⟩) 0 0 1 1 rfl rfl rfl ?_)
    go_loopw [8] (fun i wr => i = .int .i64 0 ∧ wr = w1) (fun _ _ => 0)
    case atStart => exact ⟨rfl, rfl⟩
    case round =>
      obtain ⟨rfl, rfl⟩ := hrel
      go_wp2_with fail
      go_ret
      exact ⟨g, rfl, Nat.le_of_eq hg.out, HR0.out, HB0.out⟩
  · have HP : Hid (1 ≤ n) := Lib.hid (by omega)
    clear h0 hb
    go_wp2_with (refine wpList_copy_own rfl (.tmp 31) (.tmp 32) 23 23 rfl 3 Tryd.underlying23 sizeInt g 0 n n ⟨b, 0, none⟩ 1 1 rfl rfl (rpL n 0).toArray 3 HR0.out [.int .i64 (-1)] (by have := HP.out; show 1 = min 1 n; omega) (by intro j v hj; match j with | 0 => (simp at hj; subst hj; exact hb1) | j + 1 => (simp at hj)) (by have := HP.out; rw [List.size_toArray, rpL_len _ _ (Nat.zero_le _)]; exact this) (rep_one 1) ?_)
    have e1 : (Value.int .i64 (-1) :: (rpL n 0).tail).toArray = (rpL n 1).toArray := by
      have h := rpL_put n 0 1 (by have := HP.out; omega)
      simp only [List.take_zero, List.nil_append, Nat.zero_add, List.replicate_one, List.singleton_append, List.drop_one] at h
      rw [h]
    rw [e1]
    have HR1 : Hid ((w1.setRow g (rpL n 1).toArray).heap[g]? = some (.cells (rpL n 1).toArray 3 (0, 0))) := Lib.hid (setRow_heap w1 g _ _ _ _ HR0.out)
    have HB1 : Hid (Below g w (w1.setRow g (rpL n 1).toArray)) := Lib.hid (below_setRow (hg.out ▸ HB0.out) (Nat.le_refl _) _)
    clear e1 hb1 hbl HB0 HR0
    generalize w1.setRow g (rpL n 1).toArray = w2 at *
    clear hn h5 h7 hd1 hd2 HI0 HZ0 h6
    go_loopw [8] (fun i wr => ∃ k : Nat, i = .int .i64 k ∧ Hid (1 ≤ k) ∧ k ≤ n ∧ Hid (wr.heap[g]? = some (.cells (rpL n k).toArray 3 (0, 0))) ∧ Hid (Below g w wr)) (fun i _ => ((n : Int) - intOf i).toNat)
    case atStart => exact ⟨1, rfl, Lib.hid (Nat.le_refl _), HP.out, HR1, HB1⟩
    case round =>
      obtain ⟨k, rfl, h1, hk, HR, HB⟩ := hrel
      generalize hwr : wr = w3 at *
      clear hwr wr HR1 HB1 w2
      by_cases hlt : k < n
      · have hdd : decide ((k : Int) < (n : Int)) = true := decide_eq_true (by omega)
        have hd2 : decide (k < n) = true := decide_eq_true hlt
        have hkn : (k : Int) ≤ (n : Int) := by omega
        have h0k : (0 : Int) ≤ (k : Int) := by omega
        have hnk : ((n : Int) - (k : Int)).toNat = n - k := by omega
        have HJ := Lib.hid hlt
        obtain ⟨c, hc⟩ : ∃ c, Hid (c = Nat.min k (n - k)) := ⟨_, Lib.hid rfl⟩
        have HC1 : Hid (1 ≤ c ∧ k + c ≤ n ∧ c ≤ k) := Lib.hid (by rw [hc.out]; have := h1.out; have h2 : Nat.min k (n - k) = min k (n - k) := rfl; omega)
        have HW : Hid (wrap64 ((k : Int) + (c : Int)) = ((k + c : Nat) : Int)) := Lib.hid (by have h2 := HC1.out; have h3 := HN.out; unfold wrap64; omega)
        clear hlt
        go_upto_region 9 with fail
        refine region_mix [(false, 0), (false, 1), (false, 2), (false, 3), (false, 4), (false, 5), (false, 6), (true, 7), (false, 8)] (fun w' => True) (by kernel_rfl) (by kernel_rfl) trivial ?_
        simp only [planOps, List.map_cons, List.map_nil, List.getD_cons_zero, List.getD_cons_succ, List.length_cons, List.length_nil, List.drop_succ_cons, List.drop_zero]
        refine mix_seg (seg := [_, _, _, _, _, _, _]) rfl trivial ?_
        intro ι hι F hF
        iterate 7 (go_big_quiet_step (fail))
        refine wpQuiet_nil ?_
        clear hF hι F
        rw [if_neg (show ¬ n = k from by have := HJ.out; omega)]
        refine mix_eff (fun K hK => ?_)
        refine wpList_copy_own rfl (.tmp 41) (.tmp 44) 23 23 rfl 3 Tryd.underlying23 sizeInt g k (n - k) (n - k) ⟨g, 0, none⟩ k n rfl rfl (rpL n k).toArray 3 HR.out (List.replicate c (Value.int .i64 (-1))) (by rw [List.length_replicate]; exact hc.out) (by
          intro j v hj
          have hjc : j < c := by have := (List.getElem?_eq_some_iff.1 hj).1; rwa [List.length_replicate] at this
          rw [List.getElem?_replicate, if_pos hjc] at hj
          rw [Addr.add_lit, Nat.zero_add]
          show w3.cell? _ = _
          rw [cell_of_row w3 g j _ _ _ HR.out, List.getElem?_toArray, rpL_get n k j (by have := HC1.out; omega)]
          exact hj) (by have := HC1.out; rw [List.size_toArray, rpL_len _ _ hk, List.length_replicate]; exact this.2.1) (rep_one c) ?_
        have e2 : ((rpL n k).toArray.toList.take k ++ (List.replicate c (Value.int .i64 (-1)) ++ (rpL n k).toArray.toList.drop (k + (List.replicate c (Value.int .i64 (-1))).length))).toArray = (rpL n (k + c)).toArray := by
          rw [List.length_replicate]
          show ((rpL n k).take k ++ (List.replicate c (Value.int .i64 (-1)) ++ (rpL n k).drop (k + c))).toArray = _
          rw [rpL_put n k c HC1.out.2.1]
        rw [e2]
        clear e2
        rw [show goInt (List.replicate c (Value.int .i64 (-1))).length = .int .i64 (c : Int) from by rw [List.length_replicate]; rfl]
        refine wpList_nil ?_
        refine mix_on hK trivial ?_
        clear hK K
        refine mix_seg (seg := [_]) (rest := []) rfl trivial ?_
        intro ι hι F hF
        simp only [Act.put, List.setIfInBounds_toArray, List.set_cons_zero, List.set_cons_succ]
        go_big_quiet_step (fail)
        refine wpQuiet_nil ?_
        clear hF hι F
        show wpList _ _ _ _ _ _
        have HR2 : Hid ((w3.drew.setRow g (rpL n (k + c)).toArray).heap[g]? = some (.cells (rpL n (k + c)).toArray 3 (0, 0))) := Lib.hid (setRow_heap w3.drew g _ _ _ _ HR.out)
        have HB2 : Hid (Below g w (w3.drew.setRow g (rpL n (k + c)).toArray)) := Lib.hid (below_setRow (HB.out.drew) (Nat.le_refl _) _)
        generalize w3.drew.setRow g (rpL n (k + c)).toArray = w4 at *
        go_wp2_with fail
        refine NoPanic.normal ?_
        go_wp2_with fail
        go_roundw
        case rel => exact ⟨k + c, by rw [HW.out], Lib.hid (by have := HC1.out; omega), HC1.out.2.1, HR2, HB2⟩
        case measure => rw [HW.out]; have := HC1.out; have h3 := HJ.out; simp only [intOf]; omega
      · have hdd : decide ((k : Int) < (n : Int)) = false := decide_eq_false (by omega)
        have hd2 : decide (k < n) = false := decide_eq_false hlt
        have hkn : k = n := by omega
        subst hkn
        go_wp2_with fail
        go_ret
        exact ⟨g, rfl, Nat.le_of_eq hg.out, HR.out, by rw [hg.out]; exact HB.out⟩
end Nf
end Go.Proofs.YtghbgfkkdknmnaaDoor
namespace Go.Proofs.YtghbgfkkdknmnaaDoor
open Go.RowKit Go.Shelf Sets Nf
attribute [local go_sem] Oper.semAt_some
namespace Nf
def numS (p : (Nat → Int) × Nat) (x : Nat) : (Nat → Int) × Nat := (fun j => if j = x then (p.2 : Int) else p.1 j, p.2 + 1)
def numP (pre : List Nat) : (Nat → Int) × Nat := pre.foldl numS (fun _ => -1, 0)
def numF (pre : List Nat) : Nat → Int := (numP pre).1
theorem numP_snoc (pre : List Nat) (x : Nat) : numP (pre ++ [x]) = numS (numP pre) x := by unfold numP; rw [List.foldl_append]; rfl
theorem foldS_len : ∀ (l : List Nat) (q : (Nat → Int) × Nat), (l.foldl numS q).2 = q.2 + l.length
  | [], _ => rfl
  | x :: l, q => by
    rw [List.foldl_cons, foldS_len l]
    show q.2 + 1 + l.length = _
    rw [List.length_cons]; omega
theorem numP_len (pre : List Nat) : (numP pre).2 = pre.length := by unfold numP; rw [foldS_len]; simp
theorem numF_snoc (pre : List Nat) (x j : Nat) : numF (pre ++ [x]) j = if j = x then (pre.length : Int) else numF pre j := by
  unfold numF
  rw [numP_snoc]
  show (if j = x then ((numP pre).2 : Int) else (numP pre).1 j) = _
  rw [numP_len]
theorem numF_filter (p : Nat → Bool) (j : Nat) : ∀ N, numF ((List.range N).filter p) j = if j < N ∧ p j = true then (((List.range j).filter p).length : Int) else -1
  | 0 => by simp [numF, numP]
  | N + 1 => by
    rw [List.range_succ, List.filter_append, List.filter_cons, List.filter_nil]
    by_cases hN : p N = true
    · rw [if_pos hN, numF_snoc, numF_filter p j N]
      by_cases e : j = N
      · subst e; rw [if_pos rfl, if_pos ⟨by omega, hN⟩]
      · rw [if_neg e]
        by_cases h : j < N ∧ p j = true
        · rw [if_pos h, if_pos ⟨by omega, h.2⟩]
        · rw [if_neg h, if_neg (fun h2 => h ⟨by omega, h2.2⟩)]
    · rw [if_neg hN, List.append_nil, numF_filter p j N]
      by_cases h : j < N ∧ p j = true
      · rw [if_pos h, if_pos ⟨by omega, h.2⟩]
      · rw [if_neg h, if_neg (fun h2 => h ⟨by
          have : j ≠ N := fun e => hN (e ▸ h2.2)
          omega, h2.2⟩)]
/-- the number of each spot where those of U alone are left -/
def numsU (U n : Nat) : List Int := (List.range n).map fun k => if U.testBit k then (nu U k : Int) else -1
theorem numsU_len (U n : Nat) : (numsU U n).length = n := by unfold numsU; rw [List.length_map, List.length_range]
theorem numsU_get (U n k : Nat) (h : k < n) : (numsU U n).getD k 0 = if U.testBit k then (nu U k : Int) else -1 := by
  unfold numsU
  rw [List.getD_eq_getElem?_getD, List.getElem?_map, List.getElem?_range h]; rfl
theorem numF_all (U k : Nat) (h : k < 256) : numF (listN U) k = if U.testBit k then (nu U k : Int) else -1 := by
  unfold listN
  rw [numF_filter]
  by_cases hb : U.testBit k = true
  · rw [if_pos ⟨h, hb⟩, if_pos hb]; rfl
  · rw [if_neg (fun x => hb x.2), if_neg hb]
theorem leftN_U {n : Nat} (U : Nat) (l : List Int) (hn : ∀ k ∈ l, 0 ≤ k ∧ k < (n : Int)) : leftN (numsU U n) l = leftL U l := by
  unfold leftN leftL
  have hg : ∀ k ∈ l, (numsU U n).getD k.toNat 0 = if U.testBit k.toNat then (nu U k.toNat : Int) else -1 := fun k hk => numsU_get U n _ (by have := hn k hk; omega)
  have hf : (l.filter fun k => (numsU U n).getD k.toNat 0 != -1) = l.filter fun k => U.testBit k.toNat := by
    refine List.filter_congr (fun k hk => ?_)
    rw [hg k hk]
    cases U.testBit k.toNat
    · rfl
    · rw [if_pos rfl, bne_iff_ne]; omega
  rw [hf]
  refine List.map_congr_left (fun k hk => ?_)
  have h2 := List.mem_filter.1 hk
  rw [hg k h2.1, if_pos h2.2]
def NuI (s g n6 n b1 : Nat) (U : Nat) (w : World) (pre : List (In U)) (W : World) : Prop :=
  W.rowIs g 3 n (fun j => .int .i64 (numF (pre.map Subtype.val) j)) ∧ W.heap[b1]? = some (.cells #[.slice (some ⟨g, 0, none⟩) n n] 23 (0, 0)) ∧ W.heap[b1 + 1]? = some (.cells #[.int .i64 (pre.length : Nat)] 3 (0, 0)) ∧ Below s w W ∧ n6 ≤ W.heap.size
theorem rp_row (w : World) (g n : Nat) (h : w.heap[g]? = some (.cells (rpL n n).toArray 3 (0, 0))) : w.rowIs g 3 n (fun j => .int .i64 (numF [] j)) := by
  refine ⟨_, h, ?_, fun i hi => ?_⟩
  · rw [List.size_toArray, rpL_len _ _ (Nat.le_refl _)]
  · rw [List.getElem?_toArray, rpL_get n n i hi]; rfl
theorem keeps_cell {w : World} {b i : Nat} {cs : Array Value} {t : TypeId} {fr : Nat × Nat} (hb : w.heap[b]? = some (.cells cs t fr)) (v : Value) : KeepsOthers w (w.setCell ⟨b, i, none⟩ v) :=
  ⟨by simp, fun k o hk ho => by
    by_cases e : k = b
    · subst e; rw [hb] at hk; cases hk; cases ho
    · rw [Below.heap_setCell w ⟨b, i, none⟩ v k e]; exact hk⟩
set_option maxHeartbeats 6400000 in
set_option maxRecDepth 100000 in
theorem numbered_any (U n : Nat) (w : World) (hU : ∀ k, U.testBit k = true → k < n) (hn : n ≤ 250) (hT : Tab w) :
    Calls Tryd.prog 46 #[.agg (setC U), .int .i64 (n : Int)] w fun e w' => ∃ g, e = .returned (.slice (some ⟨g, 0, none⟩) n n) ∧ NumsIn w' (some ⟨g, 0, none⟩) (numsU U n) ∧ (∃ cs, w'.heap[g]? = some (.cells cs 3 (0, 0))) ∧ w.heap.size ≤ g ∧ Below w.heap.size w w' := by
  have HG : Hid (0 < w.heap.size) := Lib.hid (World.block_lt_of_cell? _ _ (hT 0 (by decide)))
  have HGG := Lib.hid hU
  have HN := Lib.hid hn
  clear hU hn
  refine (callsIn_wide (n := 9)).1 ?_
  refine callsIn_of_wp_marks Tryd.func46 rfl trivial ?_ rfl
  simp only [Tryd.ntmps46, List.size_toArray, List.length_cons, List.length_nil, Nat.reduceAdd, Nat.reduceSub, Array.replicate_succ, Array.replicate_zero, List.push_toArray, List.append_toArray, List.nil_append, List.cons_append]
  refine wpIn_wide.2 ?_
  go_upto_region 1 with fail
  have HS1 := Lib.hid (SetB.new w U)
  have HB1 := Lib.hid ((Below.refl w.heap.size w).alloc (Nat.le_refl _) (.cells (setC U) 41))
  generalize w.alloc (.cells (setC U) 41) = w1 at *
  have HRP := Lib.hid (repeat_any w1.heap.size n (w1.alloc (.cells #[.int .i64 (-1)] 3)) (by rw [World.cell?_alloc_at _ _ _ _ rfl]; rfl) (by have := HN.out; omega))
  have HB2 : Hid (Below w1.heap.size w1 (w1.alloc (.cells #[.int .i64 (-1)] 3))) := Lib.hid ((Below.refl _ _).alloc (Nat.le_refl _) _)
  go_upto_region 2 with (go_at_call 63; refine HRP.out.mono ?_; rintro e w3 ⟨g, rfl, hg3, hr3, hb3⟩; have HG3 := Lib.hid hg3; have HR3 := Lib.hid hr3; have HB3 := Lib.hid (HB2.out.trans (hb3.mono HB2.out.size)); clear hg3 hr3 hb3)
  obtain ⟨b1, hb1⟩ : ∃ b1, Hid (w3.heap.size = b1) := ⟨_, Lib.hid rfl⟩
  have hgl : g < w3.heap.size := (Array.getElem?_eq_some_iff.1 HR3.out).1
  have hal := (Below.refl w3.heap.size w3).alloc (Nat.le_refl _) (.cells #[.slice (some ⟨g, 0, none⟩) n n] 23)
  have HR4 := Lib.hid ((hal.block g hgl).trans HR3.out)
  have HB4 : Hid (Below w.heap.size w (w3.alloc (.cells #[.slice (some ⟨g, 0, none⟩) n n] 23))) := Lib.hid (HB1.out.trans ((HB3.out.trans (hal.mono HB3.out.size)).mono HB1.out.size))
  have HS4 := Lib.hid ((HS1.out.stay HB3.out).stay hal)
  have HC4 : Hid ((w3.alloc (.cells #[.slice (some ⟨g, 0, none⟩) n n] 23)).heap[b1]? = some (.cells #[.slice (some ⟨g, 0, none⟩) n n] 23 (0, 0))) := Lib.hid (by rw [← hb1.out]; exact heap_alloc_new w3 _)
  have HZ4 : Hid ((w3.alloc (.cells #[.slice (some ⟨g, 0, none⟩) n n] 23)).heap.size = b1 + 1) := Lib.hid (by rw [← hb1.out]; simp)
  have HGL : Hid (w.heap.size < g ∧ g < b1) := Lib.hid (by
    rw [← hb1.out]
    have h1 := HG3.out
    rw [World.size_alloc] at h1
    have h2 := HS1.out.lt
    exact ⟨by omega, hgl⟩)
  rw [hb1.out]
  clear hal hgl HR3 HB3 HB1 HS1 HRP HB2 HG3
  generalize w3.alloc (.cells #[.slice (some ⟨g, 0, none⟩) n n] 23) = w4 at *
  clear hb1
  go_upto_region 3 with fail
  have hal := (Below.refl w4.heap.size w4).alloc (Nat.le_refl _) (.cells #[.int .i64 0] 3)
  have HD5 : Hid ((w4.alloc (.cells #[.int .i64 0] 3)).heap[b1 + 1]? = some (.cells #[.int .i64 0] 3 (0, 0))) := Lib.hid (by rw [← HZ4.out]; exact heap_alloc_new w4 _)
  have HC5 := Lib.hid ((hal.block b1 (by rw [HZ4.out]; omega)).trans HC4.out)
  have HR5 := Lib.hid ((hal.block g (by rw [HZ4.out]; have := HGL.out; omega)).trans HR4.out)
  have HS5 := Lib.hid (HS4.out.stay hal)
  have HB5 := Lib.hid (HB4.out.trans (hal.mono HB4.out.size))
  have HZ5 : Hid ((w4.alloc (.cells #[.int .i64 0] 3)).heap.size = b1 + 1 + 1) := Lib.hid (by simp [HZ4.out])
  rw [HZ4.out]
  clear hal HC4 HR4 HS4 HB4 HZ4
  generalize w4.alloc (.cells #[.int .i64 0] 3) = w5 at *
  go_wp2_with (first
    | (refine wpList_load_set rfl (.tmp 2) rfl w.heap.size U rfl HS5.out ?_)
    | (go_at_call 48; refine (each_any U w5).mono ?_; rintro e w6 ⟨rfl, rfl⟩))
  rw [HZ5.out]
  have hal := (Below.refl w5.heap.size w5).alloc (Nat.le_refl _) (.cells (setC U) 41)
  have z5 := HZ5.out
  have hgl := HGL.out
  have b6 : Below w.heap.size w (w5.alloc (.cells (setC U) 41)) := HB5.out.trans (hal.mono HB5.out.size)
  have z6 : (w5.alloc (.cells (setC U) 41)).heap.size = b1 + 1 + 1 + 1 := by simp [z5]
  have s6 := SetB.new w5 U
  have c6 := (hal.block b1 (by omega)).trans HC5.out
  have d6 := (hal.block (b1 + 1) (by omega)).trans HD5.out
  have r6 := (hal.block g (by omega)).trans HR5.out
  rw [z5] at s6
  clear hal
  generalize w5.alloc (.cells (setC U) 41) = w6 at *
  clear HZ5 HC5 HD5 HR5 HS5 HB5 z5
  have HT6 := hT.below b6 HG.out
  have HZ := Lib.hid z6
  clear z6 hgl
  refine (wpIn_wide (n := 9)).1 ?_
  refine wpIn_rangeFunc_ownF rfl (by decide) (gf := 64) (lb := #[.pointer (some ⟨b1 + 1 + 1, 0, none⟩)]) rfl trivial (enters_of Tryd.func64 (by kernel_rfl) rfl)
    (each_stops 8 (by decide) w.heap.size (b1 + 1 + 1) U w6 s6 HT6 HG.out (by rw [HZ.out]; have := HGL.out; omega)) belowK_t ?hkb (Below.refl _ _) (fun _ => rfl)
    (fun pre W => NuI w.heap.size g w6.heap.size n b1 U w pre W)
    (fun _ _ _ => False) ?hI (fun _ _ _ _ _ hs _ _ => hs) ?h0
    (fun k => { tmps := #[.agg (setC U), .int .i64 (n : Int), .pointer (some ⟨w.heap.size, 0, none⟩), undef, .slice none 0 0, .pointer (some ⟨b1, 0, none⟩), .pointer (some ⟨b1 + 1, 0, none⟩), .int .i64 (k.1 : Nat), .slice (some ⟨w1.heap.size, 0, none⟩) 1 1, .int .i64 (n : Int), .slice (some ⟨g, 0, none⟩) n n, .agg (setC U), .func (.func 64) #[] #[.pointer (some ⟨b1 + 1 + 1, 0, none⟩)], .int .i64 (k.1 : Nat), undef, undef, undef, undef, undef, undef, undef], defers := [] }) ?assign ?body ?done ?stop
  case hkb =>
    intro W l o o' hl hh h1 h2
    exact belowK_b (w := w6) (by rw [HZ.out]; have := HGL.out; omega) W l o o' hl hh h1 h2
  case hI =>
    rintro s W W' row ⟨h1, h2, h3, h4, h6⟩ hg hr
    have hne : ∀ b, b < w6.heap.size → some b ≠ row := fun b hb e => by have := (hr _ e.symm).1; omega
    have hz := HZ.out
    have hgl := HGL.out
    refine ⟨World.rowIs.of_block h1 (hg.block g (World.rowIs.lt h1) (hne _ (by omega))), (hg.block b1 (by omega) (hne _ (by omega))).trans h2, (hg.block (b1 + 1) (by omega) (hne _ (by omega))).trans h3, h4.grown hg h4.size (fun k e => by have := (hr k e).1; omega), Nat.le_trans h6 hg.size⟩
  case h0 => exact ⟨rp_row w6 g n r6, c6, d6, b6, Nat.le_refl _⟩
  case assign =>
    intro l x W K hK
    gi_wp2
    exact hK
  case body =>
    rintro l pre ⟨k, hk1, hk2⟩ W ⟨hRow, hC, hD, hB, hsz⟩ hpl
    have hkn := HGG.out k hk1
    have hgl := HGL.out
    have hz := HZ.out
    have hcC : W.cell? ⟨b1, 0, none⟩ = some (.slice (some ⟨g, 0, none⟩) n n) := by rw [cell_of_row W b1 0 _ _ _ hC]; rfl
    have hcD : W.cell? ⟨b1 + 1, 0, none⟩ = some (.int .i64 (pre.length : Nat)) := by rw [cell_of_row W (b1 + 1) 0 _ _ _ hD]; rfl
    have hfD : W.frozen? ⟨b1 + 1, 0, none⟩ = false := frozen_of_row W _ 0 _ _ hD
    have hcg := World.rowIs.cell hRow hkn
    have hfg := World.rowIs.frozen hRow k
    have hki : (k : Int) < (n : Int) := by omega
    have hs1 : (W.setCell ⟨g, k, none⟩ (.int .i64 (pre.length : Nat))).cell? ⟨b1 + 1, 0, none⟩ = some (.int .i64 (pre.length : Nat)) := by rw [World.cell?_setCell_other _ _ _ _ (fun e => by injection e with e1 e2 e3; omega)]; exact hcD
    have HW1 : Hid (wrap64 ((pre.length : Int) + 1) = ((pre.length + 1 : Nat) : Int)) := Lib.hid (by unfold wrap64; omega)
    have hplen : pre.length ≤ 1000 := by omega
    have HP := Lib.hid hplen
    gi_wp2
    have hrg : W.heap[g]? = some (.cells hRow.choose 3 (0, 0)) := hRow.choose_spec.1
    have hD2 : (W.setCell ⟨g, k, none⟩ (.int .i64 (pre.length : Nat))).heap[b1 + 1]? = some (.cells #[.int .i64 (pre.length : Nat)] 3 (0, 0)) := by
      rw [Below.heap_setCell _ _ _ _ (by show b1 + 1 ≠ g; omega)]; exact hD
    have hB2 : Below w.heap.size w ((W.setCell ⟨g, k, none⟩ (.int .i64 (pre.length : Nat))).setCell ⟨b1 + 1, 0, none⟩ (.int .i64 ((pre.length : Int) + 1))) := (hB.setCell (by show w.heap.size ≤ g; omega) _).setCell (by show w.heap.size ≤ b1 + 1; omega) _
    refine ⟨(keeps_cell hrg _).trans (keeps_cell hD2 _), ((Below.refl _ _).setCell (by show w.heap.size ≤ g; omega) _).setCell (by show w.heap.size ≤ b1 + 1; omega) _, ?_, ?_, ?_, hB2, ?_⟩
    · refine World.rowIs.setOther (World.rowIs.congr (World.rowIs.set hRow k (.int .i64 (pre.length : Nat))) ?_) (by show g ≠ b1 + 1; omega) _
      intro j hj
      rw [List.map_append, List.map_cons, List.map_nil, numF_snoc, List.length_map]
      by_cases e : j = k
      · rw [if_pos e, if_pos e]
      · rw [if_neg e, if_neg e]
    · rw [Below.heap_setCell _ _ _ _ (by show b1 ≠ b1 + 1; omega), Below.heap_setCell _ _ _ _ (by show b1 ≠ g; omega)]; exact hC
    · rw [heap_setCell_same _ _ _ _ _ _ hD2, List.length_append]; rfl
    · simp
      omega
  case done =>
    rintro D ys W hD hy ⟨hRow, hC, -, hB, -⟩ hK
    have hcC : W.cell? ⟨b1, 0, none⟩ = some (.slice (some ⟨g, 0, none⟩) n n) := by rw [cell_of_row W b1 0 _ _ _ hC]; rfl
    have hz := HZ.out
    have hgl := HGL.out
    have HRow := Lib.hid hRow
    have HBW := Lib.hid hB
    have HK := Lib.hid hK
    clear hRow hB hK
    go_wp2_with fail
    refine ⟨by simp, .inl ⟨_, _, rfl, run_takeDeferred HK.out, ?_⟩⟩
    refine ⟨.slice (some ⟨g, 0, none⟩) n n, results_tmp Tryd.results46 _ _ _, ?_⟩
    refine ⟨g, rfl, ?_, ⟨HRow.out.choose, (World.putObj_heap_other (by omega)).trans HRow.out.choose_spec.1⟩, by omega, HBW.out.trans (belowK_b (w := w) (Nat.le_refl _) W D _ _ (by omega) HK.out rfl rfl)⟩
    intro j hj
    rw [numsU_len] at hj
    refine ⟨g, 0, rfl, ?_⟩
    have hh : (W.putObj D (.deferred none)).heap[g]? = W.heap[g]? := World.putObj_heap_other (by omega)
    rw [Nat.zero_add, World.cell?_of_block (w := W) hh, World.rowIs.cell HRow.out hj, numsU_get U n j hj, hy, numF_all U j (by have := HN.out; omega)]
  case stop =>
    rintro D c pre W _ _ h _
    exact h.elim
end Nf
end Go.Proofs.YtghbgfkkdknmnaaDoor
namespace Go.Proofs.YtghbgfkkdknmnaaDoor
open Go.RowKit Sets Nf
namespace Nf
def spL (L : List (Nat × Nat)) : List Value := L.flatMap sp5
def bL (l : List Bool) : List Value := l.map Value.bool
theorem spL_snoc (L : List (Nat × Nat)) (s : Nat × Nat) : spL (L ++ [s]) = spL L ++ sp5 s := by unfold spL; rw [List.flatMap_append]; simp
theorem spL_get : ∀ (L : List (Nat × Nat)) (i : Nat), i < L.length → ∀ j, j < 5 → (spL L)[i * 5 + j]? = (sp5 (L.getD i (0, 0)))[j]?
  | s :: L, 0, _, j, hj => by
    unfold spL
    rw [List.flatMap_cons, List.getElem?_append_left (by rw [sp5_len]; omega)]
    simp
  | s :: L, i + 1, h, j, hj => by
    have ih := spL_get L i (by simpa using h) j hj
    unfold spL at ih ⊢
    rw [List.flatMap_cons, List.getElem?_append_right (by rw [sp5_len]; omega), sp5_len, show (i + 1) * 5 + j - 5 = i * 5 + j from by omega, ih]
    rfl
theorem bL_get (l : List Bool) (i : Nat) (h : i < l.length) : (bL l)[i]? = some (.bool (l.getD i false)) := by
  unfold bL
  rw [List.getElem?_map, List.getElem?_eq_getElem h, List.getD_eq_getElem?_getD, List.getElem?_eq_getElem h]; rfl
/-- A machine whose lists lie in memory from B on, each in a row of its own. -/
structure OwnM (B : Nat) (w : World) (x : Ma) (m : Mc) : Prop where
  sp : w.ownsRow B 43 5 (.slice x.sa m.sp.length x.sc) m.sp.length (spL m.sp)
  fi : OwnN B w (.slice x.fa m.fi.length x.fc) m.fi
  fo : ∃ vs : List Value, vs.length = m.fo.length ∧ w.ownsRow B 23 1 (.slice x.oa m.fo.length x.oc) m.fo.length vs ∧ ∀ i, i < m.fo.length → OwnN B w (vs.getD i (.slice none 0 0)) (m.fo.getD i [])
  la : w.ownsRow B 4 1 (.slice x.la m.la.length x.lc) m.la.length (bL m.la)
theorem own_addr {w : World} {B n c size : Nat} {e : TypeId} {a : Option Addr} {xs : List Value} (h : w.ownsRow B e size (.slice a n c) n xs) (hn : 0 < n) : ∃ g, a = some ⟨g, 0, none⟩ := by
  obtain ⟨a', c', e1, h1⟩ := own_slice h
  injection e1 with e2 e3 e4
  subst e2
  rcases h1 with h1 | ⟨g, hg, -⟩
  · omega
  · exact ⟨g, hg⟩
theorem OwnM.mat {B : Nat} {w : World} {x : Ma} {m : Mc} (h : OwnM B w x m) : MAt w x m := by
  refine ⟨fun i hi => ?_, ?_, fun i hi => ?_, fun i hi => ?_⟩
  · obtain ⟨g, hg⟩ := own_addr h.sp (by omega)
    have hs := h.sp
    rw [hg] at hs
    refine ⟨g, 0, hg, fun j v hj => ?_⟩
    have hj5 : j < 5 := by have := (List.getElem?_eq_some_iff.1 hj).1; rwa [sp5_len] at this
    rw [Nat.zero_add, World.ownsRow.cellAt hs (i * 5 + j) (by omega), spL_get _ _ hi _ hj5]
    exact hj
  · obtain ⟨a, c, e, hn⟩ := h.fi.nums
    injection e with e1
    rw [e1]; exact hn
  · obtain ⟨vs, hl, hv, he⟩ := h.fo
    obtain ⟨g, hg⟩ := own_addr hv (by omega)
    rw [hg] at hv
    obtain ⟨a, c, e, hn⟩ := (he i hi).nums
    refine ⟨g, 0, a, c, hg, ?_, hn⟩
    rw [Nat.zero_add, World.ownsRow.cellAt hv i (by omega), ← e, List.getD_eq_getElem?_getD, List.getElem?_eq_getElem (by omega)]; rfl
  · obtain ⟨g, hg⟩ := own_addr h.la (by omega)
    have hs := h.la
    rw [hg] at hs
    exact ⟨g, 0, hg, by rw [Nat.zero_add, World.ownsRow.cellAt hs i (by omega), bL_get _ _ hi]⟩
theorem OwnM.stay {B : Nat} {w w' : World} {x : Ma} {m : Mc} (h : OwnM B w x m) (hb : Below w.heap.size w w') : OwnM B w' x m := by
  obtain ⟨vs, h1, h2, h3⟩ := h.fo
  exact ⟨own_stay h.sp hb, own_stay h.fi hb, ⟨vs, h1, own_stay h2 hb, fun i hi => own_stay (h3 i hi) hb⟩, own_stay h.la hb⟩
/-- Blocks of other types than T, but for b, stay. -/
def Fr (b : Nat) (T : TypeId) (w w' : World) : Prop := ∀ k cs t fr, w.heap[k]? = some (.cells cs t fr) → t ≠ T → k ≠ b → w'.heap[k]? = some (.cells cs t fr)
theorem own_type {w : World} {B size n g : Nat} {e : TypeId} {v : Value} {xs : List Value} (h : w.ownsRow B e size v n xs) (hg : v.ownBlock = some g) : ∃ cs, w.heap[g]? = some (.cells cs e (0, 0)) := by
  rcases h.2 with ⟨h1, -⟩ | ⟨k, cap, cur, h1, -, h3, -⟩
  · rw [h1] at hg; cases hg
  · rw [h1] at hg
    injection hg with hg
    exact ⟨cur, by rw [← hg]; exact h3⟩
theorem Ap.fr {w w' : World} {v v' : Value} {B size n : Nat} {e : TypeId} {xs : List Value} (ha : Ap w v w' v') (ho : w.ownsRow B e size v n xs) (b : Nat) : Fr b e w w' := by
  intro k cs t fr hk ht _
  rw [ha.block k (Array.getElem?_eq_some_iff.1 hk).1 (fun hv => ?_)]
  · exact hk
  · obtain ⟨c2, h2⟩ := own_type ho hv
    rw [hk] at h2
    injection h2 with h2
    injection h2 with _ h3
    exact ht h3
theorem Fr.set {b i : Nat} {T : TypeId} {w w' : World} (h : Fr b T w w') (v : Value) : Fr b T w (w'.setCell ⟨b, i, none⟩ v) := fun k cs t fr hk ht hb => by
  rw [Below.heap_setCell w' ⟨b, i, none⟩ v k hb]
  exact h k cs t fr hk ht hb
theorem Fr.own {b B size n : Nat} {T e : TypeId} {w w' : World} {v : Value} {xs : List Value} (h : Fr b T w w') (ho : w.ownsRow B e size v n xs) (he : e ≠ T) (hb : ∀ g, v.ownBlock = some g → g ≠ b) : w'.ownsRow B e size v n xs :=
  own_kept ho fun g hg => by
    obtain ⟨cs, hc⟩ := own_type ho hg
    rw [h g cs e (0, 0) hc he (hb g hg), hc]
/-- The trimmed machine in block b: what has come to its lists from the spots ps, po, pl. -/
structure TrI (s b : Nat) (m : Mc) (U : Nat) (w0 : World) (ps po pl : List Nat) (sv fv ov lv : Value) (vs : List Value) (W : World) : Prop where
  row : W.heap[b]? = some (.cells #[sv, fv, ov, lv, .bool m.em] 27 (0, 0))
  sp : W.ownsRow s 43 5 sv ps.length (spL (ps.map fun k => m.sp.getD k (0, 0)))
  fi : OwnN s W fv (leftL U m.fi)
  fo : W.ownsRow s 23 1 ov po.length vs
  len : vs.length = po.length
  each : ∀ i, i < po.length → OwnN s W (vs.getD i (.slice none 0 0)) (leftL U (m.fo.getD (po.getD i 0) []))
  la : W.ownsRow s 4 1 lv pl.length (bL (pl.map fun k => m.la.getD k false))
  low : s < b
  below : Below s w0 W
theorem TrI.notB {s b : Nat} {m : Mc} {U : Nat} {w0 : World} {ps po pl : List Nat} {sv fv ov lv : Value} {vs : List Value} {W : World} (h : TrI s b m U w0 ps po pl sv fv ov lv vs W) {B size n : Nat} {e : TypeId} {v : Value} {xs : List Value} (ho : W.ownsRow B e size v n xs) (he : e ≠ 27) : ∀ g, v.ownBlock = some g → g ≠ b := fun g hg eq => by
  obtain ⟨cs, hc⟩ := own_type ho hg
  rw [eq, h.row] at hc
  injection hc with hc
  injection hc with _ h2
  exact he h2.symm
theorem TrI.stay {s b : Nat} {m : Mc} {U : Nat} {w0 : World} {ps po pl : List Nat} {sv fv ov lv : Value} {vs : List Value} {W W' : World} (h : TrI s b m U w0 ps po pl sv fv ov lv vs W) (hb : Below W.heap.size W W') (hs : s ≤ W.heap.size) : TrI s b m U w0 ps po pl sv fv ov lv vs W' :=
  ⟨(hb.block b (Array.getElem?_eq_some_iff.1 h.row).1).trans h.row, own_stay h.sp hb, own_stay h.fi hb, own_stay h.fo hb, h.len, fun i hi => own_stay (h.each i hi) hb, own_stay h.la hb, h.low, h.below.trans (hb.mono hs)⟩
theorem TrI.pushS {s b : Nat} {m : Mc} {U : Nat} {w0 : World} {ps po pl : List Nat} {sv fv ov lv : Value} {vs : List Value} {W : World} (h : TrI s b m U w0 ps po pl sv fv ov lv vs W) {W2 : World} {sv' : Value} {k : Nat}
    (ho : W2.ownsRow s 43 5 sv' (ps.length + 1) (spL (ps.map fun k => m.sp.getD k (0, 0)) ++ sp5 (m.sp.getD k (0, 0)))) (hb : Below s W W2) (hf : Fr b 43 W W2) (hrow : W2.heap[b]? = W.heap[b]?) :
    TrI s b m U w0 (ps ++ [k]) po pl sv' fv ov lv vs (W2.setCell ⟨b, 0, none⟩ sv') := by
  have hf2 := hf.set (i := 0) sv'
  have hr2 := hrow.trans h.row
  refine ⟨?_, ?_, hf2.own h.fi (by decide) (h.notB h.fi (by decide)), hf2.own h.fo (by decide) (h.notB h.fo (by decide)), h.len, fun i hi => hf2.own (h.each i hi) (by decide) (h.notB (h.each i hi) (by decide)), hf2.own h.la (by decide) (h.notB h.la (by decide)), h.low, (h.below.trans hb).setCell (by have := h.low; show s ≤ b; omega) _⟩
  · rw [heap_setCell_same _ _ _ _ _ _ hr2]; rfl
  · rw [List.length_append, List.map_append, List.map_cons, List.map_nil, spL_snoc]
    refine own_kept ho fun g hg => Below.heap_setCell W2 ⟨b, 0, none⟩ sv' g (fun eq => ?_)
    obtain ⟨cs, hc⟩ := own_type ho hg
    rw [show g = b from eq, hr2] at hc
    injection hc with hc
    injection hc with _ h2
    exact absurd h2 (by decide)
theorem TrI.pushL {s b : Nat} {m : Mc} {U : Nat} {w0 : World} {ps po pl : List Nat} {sv fv ov lv : Value} {vs : List Value} {W : World} (h : TrI s b m U w0 ps po pl sv fv ov lv vs W) {W2 : World} {lv' : Value} {k : Nat}
    (ho : W2.ownsRow s 4 1 lv' (pl.length + 1) (bL (pl.map fun k => m.la.getD k false) ++ [.bool (m.la.getD k false)])) (hb : Below s W W2) (hf : Fr b 4 W W2) (hrow : W2.heap[b]? = W.heap[b]?) :
    TrI s b m U w0 ps po (pl ++ [k]) sv fv ov lv' vs (W2.setCell ⟨b, 3, none⟩ lv') := by
  have hf2 := hf.set (i := 3) lv'
  have hr2 := hrow.trans h.row
  refine ⟨?_, hf2.own h.sp (by decide) (h.notB h.sp (by decide)), hf2.own h.fi (by decide) (h.notB h.fi (by decide)), hf2.own h.fo (by decide) (h.notB h.fo (by decide)), h.len, fun i hi => hf2.own (h.each i hi) (by decide) (h.notB (h.each i hi) (by decide)), ?_, h.low, (h.below.trans hb).setCell (by have := h.low; show s ≤ b; omega) _⟩
  · rw [heap_setCell_same _ _ _ _ _ _ hr2]; rfl
  · rw [List.length_append, List.map_append, List.map_cons, List.map_nil]
    unfold bL at ho ⊢
    rw [List.map_append, List.map_cons, List.map_nil]
    refine own_kept ho fun g hg => Below.heap_setCell W2 ⟨b, 3, none⟩ lv' g (fun eq => ?_)
    obtain ⟨cs, hc⟩ := own_type ho hg
    rw [show g = b from eq, hr2] at hc
    injection hc with hc
    injection hc with _ h2
    exact absurd h2 (by decide)
theorem TrI.pushO {s b : Nat} {m : Mc} {U : Nat} {w0 : World} {ps po pl : List Nat} {sv fv ov lv : Value} {vs : List Value} {W : World} (h : TrI s b m U w0 ps po pl sv fv ov lv vs W) {W2 : World} {ov' v : Value} {k : Nat}
    (ho : W2.ownsRow s 23 1 ov' (po.length + 1) (vs ++ [v])) (hv : OwnN s W2 v (leftL U (m.fo.getD k []))) (hb : Below s W W2) (hf : Fr b 23 W W2) (hrow : W2.heap[b]? = W.heap[b]?) :
    TrI s b m U w0 ps (po ++ [k]) pl sv fv ov' lv (vs ++ [v]) (W2.setCell ⟨b, 2, none⟩ ov') := by
  have hf2 := hf.set (i := 2) ov'
  have hr2 := hrow.trans h.row
  have hnb : ∀ {B size n : Nat} {e : TypeId} {v : Value} {xs : List Value}, W2.ownsRow B e size v n xs → e ≠ 27 → (W2.setCell ⟨b, 2, none⟩ ov').ownsRow B e size v n xs := fun {B size n e v xs} hh hne => by
    refine own_kept hh fun g hg => Below.heap_setCell W2 ⟨b, 2, none⟩ ov' g (fun eq => ?_)
    obtain ⟨cs, hc⟩ := own_type hh hg
    rw [show g = b from eq, hr2] at hc
    injection hc with hc
    injection hc with _ h2
    exact hne h2.symm
  refine ⟨?_, hf2.own h.sp (by decide) (h.notB h.sp (by decide)), hf2.own h.fi (by decide) (h.notB h.fi (by decide)), ?_, by simp [h.len], fun i hi => ?_, hf2.own h.la (by decide) (h.notB h.la (by decide)), h.low, (h.below.trans hb).setCell (by have := h.low; show s ≤ b; omega) _⟩
  · rw [heap_setCell_same _ _ _ _ _ _ hr2]; rfl
  · rw [List.length_append]; exact hnb ho (by decide)
  · rw [List.length_append] at hi
    simp only [List.length_cons, List.length_nil] at hi
    by_cases e : i < po.length
    · rw [List.getD_eq_getElem?_getD, List.getElem?_append_left (by rw [h.len]; exact e), ← List.getD_eq_getElem?_getD, List.getD_eq_getElem?_getD (l := po ++ [k]), List.getElem?_append_left e, ← List.getD_eq_getElem?_getD]
      exact hf2.own (h.each i e) (by decide) (h.notB (h.each i e) (by decide))
    · have e2 : i = po.length := by omega
      rw [List.getD_eq_getElem?_getD, List.getElem?_append_right (by rw [h.len]; omega), List.getD_eq_getElem?_getD (l := po ++ [k]), List.getElem?_append_right (by omega), h.len, e2, Nat.sub_self]
      exact hnb hv (by decide)
end Nf
end Go.Proofs.YtghbgfkkdknmnaaDoor
