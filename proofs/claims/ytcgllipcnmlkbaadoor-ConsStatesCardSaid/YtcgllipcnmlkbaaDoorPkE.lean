/- Several texts in one. -/
import Derived.Test.YtcgllipcnmlkbaaDoorPkC
import Derived.Deep.CutRange
import Derived.Deep.CutBlock
namespace Go.Proofs.YtcgllipcnmlkbaaDoor
open Tr
theorem root_leaf (i : Nat) : (T.leaf i).root = i := rfl
theorem root_one (i : Nat) (a : T) : (T.one i a).root = i := rfl
theorem root_two (i : Nat) (a b : T) : (T.two i a b).root = i := rfl
theorem leaf_kind {x : Nd} (h : kids x = []) : ¬ (x.k = 3 ∨ x.k = 4) ∧ x.k ≠ 5 := by
  unfold kids at h
  split at h
  · cases h
  · rename_i h1
    split at h
    · cases h
    · exact ⟨h1, by assumption⟩
theorem one_kind {x : Nd} {a : Int} (h : kids x = [a]) : x.k = 5 ∧ x.a = a := by
  unfold kids at h
  split at h
  · cases h
  · split at h
    · rename_i h5; cases h; exact ⟨h5, rfl⟩
    · cases h
theorem two_kind {x : Nd} {a b : Int} (h : kids x = [a, b]) : (x.k = 3 ∨ x.k = 4) ∧ x.a = a ∧ x.b = b := by
  unfold kids at h
  split at h
  · rename_i h5; cases h; exact ⟨h5, rfl, rfl⟩
  · split at h <;> cases h
def base (x : Nd) : Nat := if x.k = 2 then 1 else 0
theorem sound5 {x : Nd} (h : sound x = true) (h5 : x.k = 5) : (x.mx = -1 ∧ (x.mn = 0 ∨ x.mn = 1)) ∨ (0 ≤ x.mn ∧ x.mn ≤ x.mx ∧ x.mx ≤ 9) := by
  unfold sound at h
  rw [if_neg (by omega), if_neg (by omega), if_neg (by omega), if_pos h5] at h
  simp only [Bool.and_eq_true] at h
  have := h.2
  unfold countable at this
  split at this
  · exact .inl ⟨by assumption, of_decide_eq_true this⟩
  · exact .inr (of_decide_eq_true this)
theorem copy_le {x : Nd} (h : sound x = true) : 0 ≤ copyOf x ∧ copyOf x ≤ 9 := by
  unfold copyOf
  split
  · rename_i h5
    have := sound5 h h5.1
    omega
  · omega
theorem pl_node {N : List Nd} (low : ∀ i, i < N.length → ∀ c ∈ kids (N.getD i default), 0 ≤ c ∧ c < i) (snd : ∀ i, i < N.length → sound (N.getD i default) = true) (i : Nat) (hi : i < N.length) :
    pl N (tr N i) = min ((base (N.getD i default) + ((kids (N.getD i default)).map fun c => pl N (tr N c.toNat)).sum) * (copyOf (N.getD i default)).toNat) cap := by
  obtain ⟨t, ht, rfl⟩ := is_of_low low i hi
  have hs := snd _ hi
  rw [tr_of ht]
  cases t with
  | leaf i =>
    obtain ⟨-, h⟩ := ht
    simp only [root_leaf] at *
    have hk := leaf_kind h
    rw [h]
    simp only [pl, base, copyOf, List.map_nil, List.sum_nil]
    rw [if_neg (fun h : (N.getD i default).k = 5 ∧ _ => hk.2 h.1)]
    split <;> decide
  | one i a =>
    obtain ⟨-, h, -, h2⟩ := ht
    simp only [root_one] at *
    have hk := one_kind h
    rw [h]
    simp only [pl, base, copyOf, List.map_cons, List.map_nil, List.sum_cons, List.sum_nil, Int.toNat_natCast, tr_of h2]
    rw [if_neg (by omega : ¬ (N.getD i default).k = 2)]
    by_cases hm : (N.getD i default).mx = -1
    · rw [if_pos hm, if_neg (fun h => h.2 hm)]; simp
    · rw [if_neg hm, if_pos ⟨hk.1, hm⟩]; simp
  | two i a b =>
    obtain ⟨-, h, -, -, h2, h3⟩ := ht
    simp only [root_two] at *
    have hk := two_kind h
    rw [h]
    simp only [pl, base, copyOf, List.map_cons, List.map_nil, List.sum_cons, List.sum_nil, Int.toNat_natCast, tr_of h2, tr_of h3]
    rw [if_neg (by omega : ¬ (N.getD i default).k = 2), if_neg (by omega)]
    simp
def maxL (l : List Nat) : Nat := l.foldl max 0
theorem foldl_max (l : List Nat) : ∀ a, l.foldl max a = max a (maxL l) := by
  induction l with
  | nil => intro a; simp [maxL]
  | cons x l ih =>
    intro a
    simp only [List.foldl_cons, maxL]
    rw [ih, ih (max 0 x)]
    omega
theorem maxL_cons (x : Nat) (l : List Nat) : maxL (x :: l) = max x (maxL l) := by
  unfold maxL
  rw [List.foldl_cons, foldl_max]
  unfold maxL
  omega
theorem maxL_append (l m : List Nat) : maxL (l ++ m) = max (maxL l) (maxL m) := by
  induction l with
  | nil => simp [maxL]
  | cons x l ih => rw [List.cons_append, maxL_cons, maxL_cons, ih]; omega
theorem le_maxL {l : List Nat} {x : Nat} (h : x ∈ l) : x ≤ maxL l := by
  induction l with
  | nil => cases h
  | cons y l ih =>
    rw [maxL_cons]
    rcases List.mem_cons.1 h with rfl | h
    · omega
    · have := ih h; omega
theorem maxL_le {l : List Nat} {b : Nat} (h : ∀ x ∈ l, x ≤ b) : maxL l ≤ b := by
  induction l with
  | nil => exact Nat.zero_le _
  | cons y l ih =>
    rw [maxL_cons]
    have := h y (by simp)
    have := ih (fun x hx => h x (by simp [hx]))
    omega
theorem dep_node {N : List Nd} (low : ∀ i, i < N.length → ∀ c ∈ kids (N.getD i default), 0 ≤ c ∧ c < i) (i : Nat) (hi : i < N.length) :
    (tr N i).dep = maxL ((kids (N.getD i default)).map fun c => (tr N c.toNat).dep) + 1 := by
  obtain ⟨t, ht, rfl⟩ := is_of_low low i hi
  rw [tr_of ht]
  cases t with
  | leaf i => obtain ⟨-, h⟩ := ht; simp only [root_leaf] at *; rw [h]; rfl
  | one i a => obtain ⟨-, h, -, h2⟩ := ht; simp only [root_one] at *; rw [h]; simp [T.dep, tr_of h2, maxL]
  | two i a b => obtain ⟨-, h, -, -, h2, h3⟩ := ht; simp only [root_two] at *; rw [h]; simp [T.dep, tr_of h2, tr_of h3, maxL]
theorem kid_dep {N : List Nd} {R : List (Int × Bool)} (h : Right N R) : ∀ (d i : Nat), i < N.length → N.length - i ≤ d → ∃ c ∈ roots R, (tr N i).dep ≤ (tr N c.toNat).dep := by
  intro d
  induction d with
  | zero => intro i hi hd; omega
  | succ d ih =>
    intro i hi hd
    rcases List.mem_append.1 (h.all i hi) with he | hr
    · obtain ⟨x, hx, hc⟩ := List.mem_flatMap.1 he
      obtain ⟨k, hk, rfl⟩ := List.mem_iff_getElem.1 hx
      have hc' : (i : Int) ∈ kids (N.getD k default) := by rw [List.getD_eq_getElem?_getD, List.getElem?_eq_getElem hk]; exact hc
      have hik := (h.low k hk i hc').2
      obtain ⟨c, hc2, hle⟩ := ih k hk (by omega)
      refine ⟨c, hc2, Nat.le_trans ?_ hle⟩
      rw [dep_node h.low k hk]
      have := le_maxL (List.mem_map.2 ⟨_, hc', rfl⟩ : (tr N ((i : Int)).toNat).dep ∈ (kids (N.getD k default)).map fun c => (tr N c.toNat).dep)
      rw [Int.toNat_natCast] at this
      omega
    · exact ⟨i, hr, by simp⟩
theorem depth_all {N : List Nd} {R : List (Int × Bool)} (h : Right N R) : maxL ((List.range N.length).map fun i => (tr N i).dep) = depth N R := by
  have e : depth N R = maxL ((roots R).map fun c => (tr N c.toNat).dep) := by unfold depth roots maxL; rw [List.map_map]; rfl
  rw [e]
  apply Nat.le_antisymm
  · refine maxL_le (fun x hx => ?_)
    obtain ⟨i, hi, rfl⟩ := List.mem_map.1 hx
    obtain ⟨c, hc, hle⟩ := kid_dep h N.length i (List.mem_range.1 hi) (by omega)
    exact Nat.le_trans hle (le_maxL (List.mem_map.2 ⟨c, hc, rfl⟩))
  · refine maxL_le (fun x hx => ?_)
    obtain ⟨c, hc, rfl⟩ := List.mem_map.1 hx
    have := h.rts c hc
    exact le_maxL (List.mem_map.2 ⟨c.toNat, List.mem_range.2 (by omega), rfl⟩)
theorem depth_le {N : List Nd} {R : List (Int × Bool)} (h : Right N R) : depth N R ≤ N.length := by
  rw [← depth_all h]
  refine maxL_le (fun x hx => ?_)
  obtain ⟨i, hi, rfl⟩ := List.mem_map.1 hx
  obtain ⟨t, ht, rfl⟩ := is_of_low h.low i (List.mem_range.1 hi)
  rw [tr_of ht]
  have := dep_le N t ht
  have := List.mem_range.1 hi
  omega
end Go.Proofs.YtcgllipcnmlkbaaDoor
namespace Go.Proofs.YtcgllipcnmlkbaaDoor
open Go.RowKit Sets Tr
set_option maxHeartbeats 6400000 in
set_option maxRecDepth 100000 in
theorem right_any (nv pv : Value) (N : List Nd) (R : List (Int × Bool)) (w : World) (hN : NodesAt w nv N) (hP : PartsAt w pv R) :
    Calls Tryd.prog 30 #[.agg #[nv, pv]] w fun e w' => e = .returned (.bool (rightB N R)) ∧ Below w.heap.size w w' := by
  have hN7 := hN.2.1
  have hP3 := hP.2.1
  have HN := Lib.hid hN
  have HP := Lib.hid hP
  obtain ⟨na, nc, rfl⟩ : ∃ a c, nv = .slice a N.length c := by obtain ⟨-, -, a, c, e, -⟩ := hN; exact ⟨a, c, e⟩
  obtain ⟨pa, pc, rfl⟩ : ∃ a c, pv = .slice a R.length c := by obtain ⟨-, -, a, c, e, -⟩ := hP; exact ⟨a, c, e⟩
  clear hN hP
  have hb0 := (Below.refl w.heap.size w).alloc (Nat.le_refl _) (.cells #[.slice na N.length nc, .slice pa R.length pc] 39)
  have HB0 := Lib.hid hb0
  clear hb0
  go_enter Tryd.func30, Tryd.ntmps30
  by_cases hr1 : R.length < 1
  · have hd : decide ((R.length : Int) < 1) = true := decide_eq_true (by omega)
    go_wp2_with fail
    go_ret
    exact ⟨by rw [rightB_false (fun h => by have := h.few; omega)]; rfl, HB0.out⟩
  have hd1 : decide ((R.length : Int) < 1) = false := decide_eq_false (by omega)
  by_cases hr2 : 20 < R.length
  · have hd : decide ((20 : Int) < (R.length : Int)) = true := decide_eq_true (by omega)
    go_wp2_with fail
    go_ret
    exact ⟨by rw [rightB_false (fun h => by have := h.few; omega)]; rfl, HB0.out⟩
  have hd2 : decide ((20 : Int) < (R.length : Int)) = false := decide_eq_false (by omega)
  by_cases hr3 : 600 < N.length
  · have hd : decide ((600 : Int) < (N.length : Int)) = true := decide_eq_true (by omega)
    go_wp2_with fail
    go_ret
    exact ⟨by rw [rightB_false (fun h => by have := h.few; omega)]; rfl, HB0.out⟩
  have hd3 : decide ((600 : Int) < (N.length : Int)) = false := decide_eq_false (by omega)
  have HF := Lib.hid (show 1 ≤ R.length ∧ R.length ≤ 20 ∧ N.length ≤ 600 by omega)
  clear hr1 hr2 hr3
  have hmk := run_make_row' (P := Tryd.prog) 44 4 (.bool false) 1 Tryd.underlying44 infoBool rfl .i64 .i64 N.length (by omega) (by omega)
  go_wp2_with fail
  have hS1 : ((w.alloc (.cells #[.slice na N.length nc, .slice pa R.length pc] 39)).alloc (.cells (madeCells #[.bool false] N.length) 4)).heap.size = w.heap.size + 2 := by simp
  have hA1 : BoolsAt ((w.alloc (.cells #[.slice na N.length nc, .slice pa R.length pc] 39)).alloc (.cells (madeCells #[.bool false] N.length) 4)) (w.heap.size + 1) N.length (inE []) := by
    have := World.rowIs_made (w.alloc (.cells #[.slice na N.length nc, .slice pa R.length pc] 39)) (.bool false) N.length 4
    rw [show (w.alloc (.cells #[.slice na N.length nc, .slice pa R.length pc] 39)).heap.size = w.heap.size + 1 from by simp] at this
    rw [inE_nil]
    exact this
  have hT1 : ((w.alloc (.cells #[.slice na N.length nc, .slice pa R.length pc] 39)).alloc (.cells (madeCells #[.bool false] N.length) 4)).cell? ⟨w.heap.size, 1, none⟩ = some (.slice pa R.length pc) := by
    rw [((Below.refl (w.heap.size + 1) (w.alloc (.cells #[.slice na N.length nc, .slice pa R.length pc] 39))).alloc (by simp) _).cell (by show w.heap.size < _; omega)]
    simp
  have hB1 := HB0.out.alloc (by simp) (.cells (madeCells #[.bool false] N.length) 4)
  generalize ((w.alloc (.cells #[.slice na N.length nc, .slice pa R.length pc] 39)).alloc (.cells (madeCells #[.bool false] N.length) 4)) = W1 at *
  obtain ⟨u, hu⟩ : ∃ u, u = w.heap.size + 1 := ⟨_, rfl⟩
  rw [← hu] at hA1 ⊢
  have HU := Lib.hid hu
  have HS1 := Lib.hid hS1
  have HB1 := Lib.hid hB1
  have HT1 := Lib.hid hT1
  clear hu hS1 hB1 hT1 HB0 hmk
  go_loopw [31] (fun x wr => ∃ m : Nat, x = .int .i64 m ∧ m ≤ N.length ∧ Hid (∀ i, i < m → sound (N.getD i default) = true ∧ okB (inE (edges (N.take i))) i (kids (N.getD i default))) ∧ Hid (BoolsAt wr u N.length (inE (edges (N.take m)))) ∧ Hid (But u W1 wr)) (fun x _ => (N.length - intOf x).toNat)
  case atStart => exact ⟨0, rfl, Nat.zero_le _, Lib.hid (fun i hi => absurd hi (Nat.not_lt_zero _)), Lib.hid hA1, Lib.hid (But.refl _ _)⟩
  case round =>
    obtain ⟨m, rfl, hm, HO, HA, HW⟩ := hrel
    clear hA1
    generalize hwr : wr = w1 at *
    clear hwr wr
    by_cases hml : m < N.length
    · have hdm : decide ((m : Int) < (N.length : Int)) = true := decide_eq_true (by omega)
      obtain ⟨b, o, rfl, hr0, hok⟩ := HN.out.at hml
      have hBw := But.below HB1.out HW.out (by rw [HU.out]; omega) (by rw [HS1.out]; omega)
      have hr1 := range_kept hr0 hBw
      have HOK := Lib.hid hok
      have HX : Hid (N.getD m default = N.getD m default) := Lib.hid rfl
      have HES := Lib.hid (edges_snoc N m hml)
      obtain ⟨X, hX⟩ : ∃ X, X = N.getD m default := ⟨_, rfl⟩
      rw [← hX] at hr1 hok HOK HES
      have HXE := Lib.hid hX
      have huw : u < w1.heap.size := HA.out.lt
      have HR1 := Lib.hid hr1
      have HBx := Lib.hid (BoxAt.new w1 X)
      have HW2 := Lib.hid (But.alloc u w1 (.cells (nd9 X).toArray 96))
      have HA2 := Lib.hid (HA.out.alloc (.cells (nd9 X).toArray 96))
      have HG : Hid (w1.heap.size ≠ u) := Lib.hid (by omega)
      have HSz : Hid ((w1.alloc (.cells (nd9 X).toArray 96)).heap.size = w1.heap.size + 1) := Lib.hid (by simp)
      have HU1 := Lib.hid huw
      clear hX hr0 hr1 hok hBw HX huw
      cases hs : sound X
      · have hcs := fun w => sound_any X HOK.out w
        rw [hs] at hcs
        have HCS := Lib.hid hcs
        have HS := Lib.hid hs
        clear hs hcs
        go_wp2_with (first
          | (refine wpList_load_node rfl _ rfl b (o + m * 9) X rfl HR1.out ?_)
          | (refine wpList_store_node rfl _ _ rfl X rfl rfl ?_))
        generalize (w1.alloc (.cells (nd9 X).toArray 96)) = w2 at *
        generalize w1.heap.size = g at *
        refine region_mix [(false, 0), (true, 1), (false, 2), (false, 3), (false, 4), (false, 5), (false, 6), (false, 7), (true, 8), (true, 9), (false, 10)] (fun w' => But u w2 w') (by kernel_rfl) (by kernel_rfl) ((But.refl u w2).drew) ?_
        simp only [planOps, List.map_cons, List.map_nil, List.getD_cons_zero, List.getD_cons_succ, List.length_cons, List.length_nil, List.drop_succ_cons, List.drop_zero]
        refine mix_seg (seg := [_]) rfl ((But.refl u w2).drew) ?_
        intro ι hι F hF
        have fb : ∀ n, BoxAt (F n) g X := fun n => ⟨by rw [(hF n).block g (by rw [HSz.out]; omega) HG.out]; exact HBx.out.row⟩
        refine BigFrame.wpQuiet_want rfl (fun K hK => ?_)
        refine quiet_load_node _ rfl g X rfl (fun w' ⟨n, e⟩ => e ▸ fb n) ?_
        refine hK _ ?_
        clear hK K
        simp only [Act.put, List.setIfInBounds_toArray, List.set_cons_zero, List.set_cons_succ]
        refine wpQuiet_nil ?_
        clear fb hF hι F
        refine mix_eff (fun K hK => ?_)
        go_wp2_with (go_at_call 41; refine (HCS.out _).mono ?_; rintro e w3 ⟨rfl, hB3⟩)
        have hW3 := ((But.refl u w2).drew).trans (But.of_below hB3)
        refine mix_on hK hW3 ?_
        clear hK K
        refine mix_seg (seg := [_, _, _, _, _, _]) rfl hW3 ?_
        intro ι hι F hF
        repeat (go_big_quiet_step (fail))
        refine wpQuiet_nil ?_
        clear hF hι F
        refine mix_eff (fun K hK => ?_)
        go_wp2
        refine mix_on hK hW3 ?_
        clear hK K
        refine mix_eff (fun K hK => ?_)
        go_wp2
        refine mix_on hK hW3 ?_
        clear hK K
        refine mix_seg (seg := [_]) (rest := []) rfl hW3 ?_
        intro ι hι F hF
        repeat (go_big_quiet_step (fail))
        refine wpQuiet_nil ?_
        clear hF hι F
        show wpList _ _ _ _ _ _
        go_wp2
        refine NoPanic.normal ?_
        go_wp2
        go_ret
        refine ⟨?_, But.below HB1.out (HW.out.trans (HW2.out.trans hW3)) (by rw [HU.out]; omega) (by rw [HS1.out]; omega)⟩
        rw [rightB_false]
        · rfl
        · intro h
          have := (((right_iff N R).1 h).one m hml).1
          rw [← HXE.out, HS.out] at this
          cases this
      · have hcs := fun w => sound_any X HOK.out w
        rw [hs] at hcs
        have HCS := Lib.hid hcs
        have HS := Lib.hid hs
        clear hs hcs
        go_wp2_with (first
          | (refine wpList_load_node rfl _ rfl b (o + m * 9) X rfl HR1.out ?_)
          | (refine wpList_store_node rfl _ _ rfl X rfl rfl ?_))
        generalize (w1.alloc (.cells (nd9 X).toArray 96)) = w2 at *
        generalize w1.heap.size = g at *
        refine region_mix [(false, 0), (true, 1), (false, 2), (false, 3), (false, 4), (false, 5), (false, 6), (false, 7), (true, 8), (true, 9), (false, 10)] (fun w' => But u w2 w') (by kernel_rfl) (by kernel_rfl) ((But.refl u w2).drew) ?_
        simp only [planOps, List.map_cons, List.map_nil, List.getD_cons_zero, List.getD_cons_succ, List.length_cons, List.length_nil, List.drop_succ_cons, List.drop_zero]
        refine mix_seg (seg := [_]) rfl ((But.refl u w2).drew) ?_
        intro ι hι F hF
        have fb : ∀ n, BoxAt (F n) g X := fun n => ⟨by rw [(hF n).block g (by rw [HSz.out]; omega) HG.out]; exact HBx.out.row⟩
        refine BigFrame.wpQuiet_want rfl (fun K hK => ?_)
        refine quiet_load_node _ rfl g X rfl (fun w' ⟨n, e⟩ => e ▸ fb n) ?_
        refine hK _ ?_
        clear hK K
        simp only [Act.put, List.setIfInBounds_toArray, List.set_cons_zero, List.set_cons_succ]
        refine wpQuiet_nil ?_
        clear fb hF hι F
        refine mix_eff (fun K hK => ?_)
        go_wp2_with (go_at_call 41; refine (HCS.out _).mono ?_; rintro e w3 ⟨rfl, hB3⟩)
        have hW3 := ((But.refl u w2).drew).trans (But.of_below hB3)
        refine mix_on hK hW3 ?_
        clear hK K
        have hmn : decide ((m : Int) ≤ (N.length : Int)) = true := decide_eq_true (by omega)
        have HBx3 : Hid (BoxAt w3 g X) := Lib.hid ⟨by rw [hW3.block g (by rw [HSz.out]; omega) HG.out]; exact HBx.out.row⟩
        have HA3 : Hid (BoolsAt w3 u N.length (inE (edges (N.take m)))) := Lib.hid (HA2.out.kept (hB3.block u (by show u < w2.heap.size; rw [HSz.out]; have := HU1.out; omega)))
        have HSz3 : Hid (g < w3.heap.size) := Lib.hid HBx3.out.lt
        refine mix_seg (seg := [_, _, _, _, _, _]) rfl hW3 ?_
        intro ι hι F hF
        have fb : ∀ n, BoxAt (F n) g X := fun n => ⟨by rw [(hF n).block g (by rw [HSz.out]; omega) HG.out]; exact HBx.out.row⟩
        repeat (first | (refine BigFrame.wpQuiet_want rfl (fun K hK => ?_); refine quiet_load_node _ rfl g X rfl (fun w' ⟨n, e⟩ => e ▸ fb n) ?_; refine hK _ ?_; clear hK K; simp only [Act.put, List.setIfInBounds_toArray, List.set_cons_zero, List.set_cons_succ]) | (go_big_quiet_step (fail)))
        refine wpQuiet_nil ?_
        clear fb hF hι F
        refine mix_eff (fun K hK => ?_)
        go_wp2_with (go_at_call 43; refine (below_any X _).mono ?_; rintro e w4 ⟨v, rfl, hI, hB4⟩)
        have hW4 := hW3.trans (But.of_below hB4)
        refine mix_on hK hW4 ?_
        clear hK K
        have HA4 : Hid (BoolsAt w4 u N.length (inE (edges (N.take m)))) := Lib.hid (HA3.out.kept (hB4.block u HA3.out.lt))
        have hkl : (kids X).length ≤ 2 := by
          rcases kids_len X with h | ⟨_, h⟩ | ⟨_, _, h⟩ <;> rw [h] <;> simp
        have HU4 := Lib.hid (use_any u N.length m N.length w3.heap.size (inE (edges (N.take m))) v (kids X) w4 HA4.out hm (HA3.out.lt) hI (by omega))
        clear hkl hI hB4
        refine mix_eff (fun K hK => ?_)
        go_wp2_with (go_at_call 42; refine HU4.out.mono ?_; rintro e w5 ⟨r, gg, rfl, hA5, hW5, hri, hgg⟩)
        have hW6 := hW4.trans hW5
        refine mix_on hK hW6 ?_
        clear hK K
        have HRI := Lib.hid hri
        have HGG := Lib.hid hgg
        have HA5 := Lib.hid hA5
        clear hri hgg hA5 hW5
        cases r
        · refine mix_seg (seg := [_]) (rest := []) rfl hW6 ?_
          intro ι hι F hF
          repeat (go_big_quiet_step (fail))
          refine wpQuiet_nil ?_
          clear hF hι F
          show wpList _ _ _ _ _ _
          go_wp2
          refine NoPanic.normal ?_
          go_wp2
          go_ret
          refine ⟨?_, But.below HB1.out (HW.out.trans (HW2.out.trans hW6)) (by rw [HU.out]; omega) (by rw [HS1.out]; omega)⟩
          rw [rightB_false]
          · rfl
          · intro h
            have := (((right_iff N R).1 h).one m hml).2
            rw [← HXE.out] at this
            have := HRI.out.2 this
            cases this
        · refine mix_seg (seg := [_]) (rest := []) rfl hW6 ?_
          intro ι hι F hF
          repeat (go_big_quiet_step (fail))
          refine wpQuiet_nil ?_
          clear hF hι F
          show wpList _ _ _ _ _ _
          go_wp2
          refine NoPanic.normal ?_
          go_wp2
          go_roundw
          case rel =>
            refine ⟨m + 1, by go_num, hml, Lib.hid (fun i hi => ?_), Lib.hid ?_, Lib.hid (HW.out.trans (HW2.out.trans hW6))⟩
            · by_cases h : i = m
              · subst h
                rw [← HXE.out]
                exact ⟨HS.out, HRI.out.1 (by simp)⟩
              · exact HO.out i (by omega)
            · rw [HES.out, ← inE_append, ← HGG.out (by simp)]
              exact HA5.out
          case measure => simp only [intOf]; omega
    · have : m = N.length := by omega
      subst this
      have hdm : decide ((N.length : Int) < (N.length : Int)) = false := decide_eq_false (by omega)
      rw [List.take_length] at HA
      have hT2 := HW.out.cell HT1.out (by show w.heap.size ≠ u; rw [HU.out]; omega)
      clear hm hdm
      have hdm : decide (N.length < N.length) = false := decide_eq_false (by omega)
      go_wp2_with fail
      clear hdm hml hT2
      go_loopw [52] (fun x wr => ∃ q : Nat, x = .int .i64 q ∧ q ≤ R.length ∧ Hid (∀ i, i < q → okB (inE (edges N ++ roots (R.take i))) N.length [(R.getD i default).1]) ∧ Hid (BoolsAt wr u N.length (inE (edges N ++ roots (R.take q)))) ∧ Hid (But u W1 wr)) (fun x _ => (R.length - intOf x).toNat)
      case atStart =>
        have e : edges N ++ roots (R.take 0) = edges N := by simp [roots]
        have h2 := HA.out
        rw [← e] at h2
        exact ⟨0, rfl, Nat.zero_le _, Lib.hid (fun i hi => absurd hi (Nat.not_lt_zero _)), Lib.hid h2, HW⟩
      case round =>
        obtain ⟨q, rfl, hq, HO2, HA2, HW2⟩ := hrel
        clear HA HW w1
        generalize hwr : wr = w1 at *
        clear hwr wr
        by_cases hql : q < R.length
        · have hdq : decide ((q : Int) < (R.length : Int)) = true := decide_eq_true (by omega)
          obtain ⟨b, o, rfl, hr0, hok⟩ := HP.out.at hql
          have hBw := But.below HB1.out HW2.out (by rw [HU.out]; omega) (by rw [HS1.out]; omega)
          have hr1 := range_kept hr0 hBw
          have HRS := Lib.hid (roots_snoc R q hql)
          obtain ⟨X, hX⟩ : ∃ X, X = R.getD q default := ⟨_, rfl⟩
          rw [← hX] at hr1 hok HRS
          have HXE := Lib.hid hX
          clear hX
          obtain ⟨rt, nt⟩ := X
          have c0 : w1.cell? ⟨b, o + q * 2, none⟩ = some (.int .i64 rt) := hr1 0 _ rfl
          have c1 : w1.cell? ⟨b, o + q * 2 + 1, none⟩ = some (.bool nt) := hr1 1 _ rfl
          clear hr0 hr1 hok hBw
          have hu1 := HA2.out.lt
          have hs1 : (w1.alloc (.cells #[.int .i64 rt, .bool nt] 78)).heap.size = w1.heap.size + 1 := by simp
          have hi := ints_one (w1.alloc (.cells #[.int .i64 rt, .bool nt] 78)) (u + 1) (by rw [hs1]; omega) rt 3
          rw [hs1] at hi
          have HI := Lib.hid hi
          have HA4 := Lib.hid ((HA2.out.alloc (.cells #[.int .i64 rt, .bool nt] 78)).alloc (.cells #[.int .i64 rt] 3))
          have HW4 := Lib.hid ((But.alloc u w1 (.cells #[.int .i64 rt, .bool nt] 78)).trans (But.alloc u _ (.cells #[.int .i64 rt] 3)))
          clear hu1 hs1 hi
          by_cases hok : okB (inE (edges N ++ roots (R.take q))) N.length [rt]
          case neg =>
            have HOK := Lib.hid hok
            clear hok
            go_wp2_with (go_at_call 42; refine (use_any u N.length N.length N.length (u + 1) (inE (edges N ++ roots (R.take q))) _ [rt] _ HA4.out (Nat.le_refl _) (Nat.lt_succ_self _) HI.out (by simp)).mono ?_; rintro e w5 ⟨r, gg, rfl, hA5, hW5, hri, hgg⟩; have HW5 := Lib.hid (HW4.out.trans hW5); obtain rfl : r = false := (by cases r with | false => rfl | true => exact absurd (hri.1 rfl) HOK.out); have HGG := Lib.hid hgg; have HA5 := Lib.hid hA5; clear hri hgg hA5 hW5)
            go_wp2_with fail
            go_ret
            refine ⟨?_, But.below HB1.out (HW2.out.trans HW5.out) (by rw [HU.out]; omega) (by rw [HS1.out]; omega)⟩
            rw [rightB_false]
            · rfl
            · intro h
              have := ((right_iff N R).1 h).two q hql
              rw [← HXE.out] at this
              exact HOK.out this
          case pos =>
            have HOK := Lib.hid hok
            clear hok
            go_wp2_with (go_at_call 42; refine (use_any u N.length N.length N.length (u + 1) (inE (edges N ++ roots (R.take q))) _ [rt] _ HA4.out (Nat.le_refl _) (Nat.lt_succ_self _) HI.out (by simp)).mono ?_; rintro e w5 ⟨r, gg, rfl, hA5, hW5, hri, hgg⟩; have HW5 := Lib.hid (HW4.out.trans hW5); obtain rfl : r = true := hri.2 HOK.out; have HGG := Lib.hid hgg; have HA5 := Lib.hid hA5; clear hri hgg hA5 hW5)
            go_wp2_with fail
            go_roundw
            case rel =>
              refine ⟨q + 1, by go_num, hql, Lib.hid (fun i hi => ?_), Lib.hid ?_, Lib.hid (HW2.out.trans HW5.out)⟩
              · by_cases h : i = q
                · subst h
                  rw [← HXE.out]
                  exact HOK.out
                · exact HO2.out i (by omega)
              · rw [HRS.out, ← List.append_assoc, ← inE_append, ← HGG.out (by simp)]
                exact HA5.out
            case measure => simp only [intOf]; omega
        · have : q = R.length := by omega
          subst this
          have hdq : decide (R.length < R.length) = false := decide_eq_false (by omega)
          clear hq hql
          rw [List.take_length] at HA2
          go_wp2_with (go_at_call 44; refine (contains_any _ _ _ _ _ HA2.out (by omega)).mono ?_; rintro e w5 ⟨rfl, rfl⟩)
          go_ret
          refine ⟨?_, But.below HB1.out HW2.out (by rw [HU.out]; omega) (by rw [HS1.out]; omega)⟩
          have : rightB N R = !!allB (inE (edges N ++ roots R)) N.length := by
            rw [Bool.not_not, Bool.eq_iff_iff, rightB_iff, right_iff]
            exact ⟨fun h => h.thr, fun h => ⟨HF.out, fun i hi => HO.out i hi, fun i hi => HO2.out i hi, h⟩⟩
          rw [this, Bool.not_not]
          rfl
end Go.Proofs.YtcgllipcnmlkbaaDoor
namespace Go.Proofs.YtcgllipcnmlkbaaDoor
open Go.RowKit Sets Tr
/-- Block u holds n numbers. -/
def RowI (t : TypeId) (w : World) (u n : Nat) (f : Nat → Int) : Prop := w.rowIs u t n (fun j => .int .i64 (f j))
theorem RowI.set {t : TypeId} {w : World} {u n : Nat} {f : Nat → Int} (h : RowI t w u n f) (i : Nat) (v : Int) : RowI t (w.setCell ⟨u, i, none⟩ (.int .i64 v)) u n (fun j => if j = i then v else f j) :=
  (World.rowIs.set h i (.int .i64 v)).congr (fun j _ => by by_cases hj : j = i <;> simp [hj])
theorem RowI.congr {t : TypeId} {w : World} {u n : Nat} {f g : Nat → Int} (h : RowI t w u n f) (e : ∀ j, j < n → f j = g j) : RowI t w u n g := World.rowIs.congr h (fun j hj => by rw [e j hj])
theorem RowI.kept {t : TypeId} {w w' : World} {u n : Nat} {f : Nat → Int} (h : RowI t w u n f) (e : w'.heap[u]? = w.heap[u]?) : RowI t w' u n f := World.rowIs.of_block h e
theorem RowI.alloc {t : TypeId} {w : World} {u n : Nat} {f : Nat → Int} (h : RowI t w u n f) (o : Obj) : RowI t (w.alloc o) u n f := World.rowIs.alloc h o
theorem RowI.cell {t : TypeId} {w : World} {u n : Nat} {f : Nat → Int} (h : RowI t w u n f) {i : Nat} (hi : i < n) : w.cell? ⟨u, i, none⟩ = some (.int .i64 (f i)) := World.rowIs.cell h hi
theorem RowI.frozen {t : TypeId} {w : World} {u n : Nat} {f : Nat → Int} (h : RowI t w u n f) (i : Nat) : w.frozen? ⟨u, i, none⟩ = false := World.rowIs.frozen h i
theorem RowI.drew' {t : TypeId} {w : World} {u n : Nat} {f : Nat → Int} (h : RowI t w u n f) : RowI t w.drew u n f := World.rowIs.drew h
theorem RowI.lt {t : TypeId} {w : World} {u n : Nat} {f : Nat → Int} (h : RowI t w u n f) : u < w.heap.size := World.rowIs.lt h
def rowF (h : Nat → Nat) (m s : Nat) (j : Nat) : Int := if j < m then h j else if j = m then s else 0
theorem rowF_at (h : Nat → Nat) (m s : Nat) : rowF h m s m = s := by simp [rowF]
theorem rowF_lt (h : Nat → Nat) (m s : Nat) {j : Nat} (hj : j < m) : rowF h m s j = h j := by simp [rowF, hj]
theorem rowF_set (h : Nat → Nat) (m s s' j : Nat) : (if j = m then (s' : Int) else rowF h m s j) = rowF h m s' j := by
  unfold rowF
  by_cases h1 : j = m
  · subst h1; simp
  · simp [h1]
theorem rowF_next (h : Nat → Nat) (m j : Nat) : rowF h m (h m) j = rowF h (m + 1) 0 j := by
  unfold rowF
  by_cases h1 : j < m
  · simp [h1, Nat.lt_succ_of_lt h1]
  · by_cases h2 : j = m
    · subst h2; simp
    · have : ¬ j < m + 1 := by omega
      simp [h1, h2, this]
theorem rowF_zero (h : Nat → Nat) (j : Nat) : rowF h 0 0 j = 0 := by simp [rowF]
theorem infoInt64 : (Tryd.prog.info? 2).map (fun i => (i.zero, i.size, i.bytes)) = some (some (.int .i64 0), 1, 8) := by kernel_rfl
/-- the sum of some kids' -/
def kidSum (h : Nat → Nat) (K : List Int) : Nat := (K.map fun c => h c.toNat).sum
theorem kidSum_snoc (h : Nat → Nat) (K : List Int) (q : Nat) (hq : q < K.length) : kidSum h (K.take (q + 1)) = kidSum h (K.take q) + h (K.getD q 0).toNat := by
  unfold kidSum
  rw [List.take_add_one, List.getElem?_eq_getElem hq, List.getD_eq_getElem?_getD, List.getElem?_eq_getElem hq]
  simp only [Option.toList_some, List.map_append, List.sum_append, List.map_cons, List.map_nil, List.sum_cons, List.sum_nil, Nat.add_zero, Option.getD_some]
noncomputable def rSum (N : List Nd) (R : List (Int × Bool)) : Nat := (R.map fun p => pl N (tr N p.1.toNat)).sum
theorem rSum_le (N : List Nd) (R : List (Int × Bool)) : rSum N R ≤ R.length * cap := by
  unfold rSum
  induction R with
  | nil => simp
  | cons p R ih =>
    simp only [List.map_cons, List.sum_cons, List.length_cons]
    have := pl_le N (tr N p.1.toNat)
    rw [Nat.succ_mul]
    omega
theorem rSum_snoc (N : List Nd) (R : List (Int × Bool)) (q : Nat) (hq : q < R.length) : rSum N (R.take (q + 1)) = rSum N (R.take q) + pl N (tr N (R.getD q default).1.toNat) := by
  unfold rSum
  rw [take_snoc R q hq]
  simp only [List.map_append, List.sum_append, List.map_cons, List.map_nil, List.sum_cons, List.sum_nil, Nat.add_zero]
noncomputable def plOf (N : List Nd) (R : List (Int × Bool)) : Nat := if rightB N R then places N R else 0
set_option maxHeartbeats 6400000 in
set_option maxRecDepth 100000 in
theorem places_any (nv pv : Value) (N : List Nd) (R : List (Int × Bool)) (w : World) (hN : NodesAt w nv N) (hP : PartsAt w pv R) :
    Calls Tryd.prog 31 #[.agg #[nv, pv]] w fun e w' => e = .returned (.int .i64 (plOf N R)) ∧ Below w.heap.size w w' := by
  have HRt := fun w hN hP => right_any nv pv N R w hN hP
  have HN := Lib.hid hN
  have HP := Lib.hid hP
  obtain ⟨na, nc, rfl⟩ : ∃ a c, nv = .slice a N.length c := by obtain ⟨-, -, a, c, e, -⟩ := hN; exact ⟨a, c, e⟩
  obtain ⟨pa, pc, rfl⟩ : ∃ a c, pv = .slice a R.length c := by obtain ⟨-, -, a, c, e, -⟩ := hP; exact ⟨a, c, e⟩
  clear hN hP
  have hb0 := (Below.refl w.heap.size w).alloc (Nat.le_refl _) (.cells #[.slice na N.length nc, .slice pa R.length pc] 39)
  have HB0 := Lib.hid hb0
  have HRt := Lib.hid (HRt _ (HN.out.kept hb0) (HP.out.kept hb0))
  clear hb0
  go_enter Tryd.func31, Tryd.ntmps31
  by_cases hr : Right N R
  case neg =>
    have hrb := rightB_false hr
    have hpl : plOf N R = 0 := by unfold plOf; rw [hrb]; rfl
    rw [hpl]
    rw [hrb] at HRt
    clear hr hrb hpl
    go_wp2_with (go_at_call 30; refine HRt.out.mono ?_; rintro e w2 ⟨rfl, hB2⟩; have HB2 := Lib.hid (HB0.out.trans (hB2.mono (by simp))); clear hB2)
    go_ret
    exact ⟨rfl, HB2.out⟩
  case pos =>
    have hrb := rightB_true hr
    have hpl : plOf N R = places N R := by unfold plOf; rw [hrb]; rfl
    rw [hpl]
    rw [hrb] at HRt
    have HR := Lib.hid hr
    have HF := Lib.hid hr.few
    have hn6 : N.length ≤ 600 := hr.few.2.2
    clear hr hrb hpl
    have hmk := run_make_row' (P := Tryd.prog) 102 2 (.int .i64 0) 8 Tryd.underlying102 infoInt64 rfl .i64 .i64 N.length (by omega) (by omega)
    go_wp2_with (go_at_call 30; refine HRt.out.mono ?_; rintro e w2 ⟨rfl, hB2⟩; have HB2 := Lib.hid (HB0.out.trans (hB2.mono (by simp))); have hs0 : w.heap.size < w2.heap.size := (by have := hB2.size; simp at this; omega); have ht0 : w2.cell? ⟨w.heap.size, 0, none⟩ = some (.slice na N.length nc) := ((hB2.cell (by simp)).trans (by simp)); have ht1 : w2.cell? ⟨w.heap.size, 1, none⟩ = some (.slice pa R.length pc) := ((hB2.cell (by simp)).trans (by simp)); have ht2 := (((Below.refl w2.heap.size w2).alloc (Nat.le_refl _) (.cells (madeCells #[.int .i64 0] N.length) 2)).cell (p := ⟨w.heap.size, 0, none⟩) hs0).trans ht0; have HT1 := Lib.hid ((((Below.refl w2.heap.size w2).alloc (Nat.le_refl _) (.cells (madeCells #[.int .i64 0] N.length) 2)).cell (p := ⟨w.heap.size, 1, none⟩) hs0).trans ht1); have HS0 := Lib.hid hs0; clear hB2 hs0 ht1)
    have hA1 : RowI 2 (w2.alloc (.cells (madeCells #[.int .i64 0] N.length) 2)) w2.heap.size N.length (rowF (fun i => pl N (tr N i)) 0 0) :=
      (World.rowIs_made w2 (.int .i64 0) N.length 2).congr (fun j _ => by rw [rowF_zero])
    have HB1 := Lib.hid (HB2.out.alloc (by have := HS0.out; omega) (.cells (madeCells #[.int .i64 0] N.length) 2))
    have HS1 : Hid ((w2.alloc (.cells (madeCells #[.int .i64 0] N.length) 2)).heap.size = w2.heap.size + 1) := Lib.hid (by simp)
    generalize (w2.alloc (.cells (madeCells #[.int .i64 0] N.length) 2)) = W1 at *
    generalize w2.heap.size = u at *
    clear ht0 ht2 HB2 hmk HRt HB0
    go_loopw [21] (fun x wr => ∃ m : Nat, x = .int .i64 m ∧ m ≤ N.length ∧ Hid (RowI 2 wr u N.length (rowF (fun i => pl N (tr N i)) m 0)) ∧ Hid (But u W1 wr)) (fun x _ => (N.length - intOf x).toNat)
    case atStart => exact ⟨0, rfl, Nat.zero_le _, Lib.hid hA1, Lib.hid (But.refl _ _)⟩
    case round =>
      obtain ⟨m, rfl, hm, HA, HW⟩ := hrel
      clear hA1
      generalize hwr : wr = w1 at *
      clear hwr wr
      by_cases hml : m < N.length
      · have hdm : decide ((m : Int) < (N.length : Int)) = true := decide_eq_true (by omega)
        obtain ⟨b, o, rfl, hr0, hok⟩ := HN.out.at hml
        have hBw := But.below HB1.out HW.out (by have := HS0.out; omega) (by have := HS0.out; rw [HS1.out]; omega)
        have hr1 := range_kept hr0 hBw
        have HPN := Lib.hid (pl_node HR.out.low HR.out.snd m hml)
        have HLow := Lib.hid (HR.out.low m hml)
        have HSnd := Lib.hid (HR.out.snd m hml)
        obtain ⟨X, hX⟩ : ∃ X, X = N.getD m default := ⟨_, rfl⟩
        rw [← hX] at hr1 hok HPN HLow HSnd
        clear hX
        have huw : u < w1.heap.size := HA.out.lt
        have HR1 := Lib.hid hr1
        have HBx := Lib.hid (BoxAt.new w1 X)
        have HW2 := Lib.hid (HW.out.trans (But.alloc u w1 (.cells (nd9 X).toArray 96)))
        have hA2 := HA.out.alloc (.cells (nd9 X).toArray 96)
        have ca := hA2.cell hml
        have fa := hA2.frozen m
        have HA2 := Lib.hid hA2
        have HG : Hid (w1.heap.size ≠ u) := Lib.hid (by omega)
        have hc0 := (BoxAt.new w1 X).cell 0 _ (nd9_get X).1
        clear hr0 hr1 hok hBw huw hA2 HA HW
        rw [rowF_at] at ca
        go_upto_if 28 with (first
          | (refine wpList_load_node rfl _ rfl b (o + m * 9) X rfl HR1.out ?_)
          | (refine wpList_store_node rfl _ _ rfl X rfl rfl ?_))
        generalize (w1.alloc (.cells (nd9 X).toArray 96)) = w3 at *
        generalize w1.heap.size = g at *
        clear HRt
        go_cut [21] from 21 to 61 (fun i wr => i = .int .i64 m ∧ Hid (RowI 2 wr u N.length (rowF (fun i => pl N (tr N i)) m (base X))) ∧ Hid (But u w3 wr))
        case first =>
          by_cases h2 : X.k = 2
          · have e : base X = 1 := if_pos h2
            have g2 : ((X.k : Int) == 2) = true := by rw [h2]; rfl
            have E := Lib.hid e
            clear e h2
            go_wp2_with fail
            go_meet
            case rel =>
              rw [E.out]
              exact ⟨rfl, Lib.hid ((HA2.out.set m 1).congr (fun j _ => rowF_set _ _ _ 1 j)), Lib.hid (But.set _ _ _ _)⟩
          · have e : base X = 0 := if_neg h2
            have g2 : ((X.k : Int) == 2) = false := by simp only [beq_eq_false_iff_ne]; omega
            have E := Lib.hid e
            clear e h2
            go_wp2_with fail
            go_meet
            case rel =>
              rw [E.out]
              exact ⟨rfl, HA2, Lib.hid (But.refl _ _)⟩
        case rest =>
          obtain ⟨rfl, HA3, HW3⟩ := hcut
          generalize hwc : wc = w4 at *
          clear hwc wc ca fa hc0 HR1
          have hBx4 : BoxAt w4 g X := ⟨by rw [HW3.out.block g HBx.out.lt HG.out]; exact HBx.out.row⟩
          have HBx4 := Lib.hid hBx4
          have HBr4 := Lib.hid hBx4.range
          clear hBx4
          go_wp2_with (first
            | (refine wpList_load_node rfl _ rfl g 0 X rfl HBr4.out ?_)
            | (go_at_call 43; refine (below_any X _).mono ?_; rintro e w5 ⟨v, rfl, hI, hB5⟩; have HI := Lib.hid hI; have HB5 := Lib.hid hB5; obtain ⟨ka, kc, rfl⟩ : ∃ a c, v = .slice a (kids X).length c := (by obtain ⟨a, c, e, -⟩ := hI; exact ⟨a, c, e⟩); clear hI hB5))
          have HA5 : Hid (RowI 2 w5 u N.length (rowF (fun i => pl N (tr N i)) m (base X))) := Lib.hid (HA3.out.kept (HB5.out.block u HA3.out.lt))
          have HU4 : Hid (u < w4.heap.size) := Lib.hid HA3.out.lt
          have hkl : (kids X).length ≤ 2 := by
            rcases kids_len X with h | ⟨_, h⟩ | ⟨_, _, h⟩ <;> rw [h] <;> simp
          have HKL := Lib.hid hkl
          have HK : Hid (∀ i, i < (kids X).length → 0 ≤ (kids X).getD i 0 ∧ (kids X).getD i 0 < m) := Lib.hid (fun i hi => HLow.out _ (by rw [List.getD_eq_getElem?_getD, List.getElem?_eq_getElem hi]; exact List.getElem_mem hi))
          have HSum : Hid (∀ q, kidSum (fun i => pl N (tr N i)) ((kids X).take q) ≤ q * cap) := Lib.hid (fun q => by
            induction q with
            | zero => simp [kidSum]
            | succ q ih =>
              by_cases hq : q < (kids X).length
              · rw [kidSum_snoc _ _ q hq]
                have := pl_le N (tr N ((kids X).getD q 0).toNat)
                rw [Nat.succ_mul]
                omega
              · rw [List.take_of_length_le (by omega)]
                rw [List.take_of_length_le (by omega)] at ih
                rw [Nat.succ_mul]; omega)
          have hbs : base X ≤ 1 := by unfold base; split <;> omega
          have HBS := Lib.hid hbs
          clear hkl hbs
          generalize hKK : kids X = K at *
          have HKK := Lib.hid hKK
          clear hKK
          generalize hbb : base X = bX at *
          have HBB := Lib.hid hbb
          clear hbb
          go_loopw [35] (fun x wr => ∃ q : Nat, x = .int .i64 q ∧ q ≤ K.length ∧ Hid (RowI 2 wr u N.length (rowF (fun i => pl N (tr N i)) m (bX + kidSum (fun i => pl N (tr N i)) (K.take q)))) ∧ Hid (But u w5 wr)) (fun x _ => (K.length - intOf x).toNat)
          case atStart => exact ⟨0, rfl, Nat.zero_le _, HA5, Lib.hid (But.refl _ _)⟩
          case round =>
            obtain ⟨q, rfl, hq, HA6, HW6⟩ := hrel
            generalize hwr : wr = w6 at *
            clear hwr wr
            by_cases hql : q < K.length
            · have hdq : decide ((q : Int) < (K.length : Int)) = true := decide_eq_true (by omega)
              obtain ⟨a, c, e, hx⟩ := HI.out
              obtain ⟨kb, hkb, e2, hx0⟩ := hx q hql
              cases e
              subst e2
              have hx := HW6.out.cell hx0 (by show kb ≠ u; have := HU4.out; omega)
              have hk := HK.out q hql
              have hks := kidSum_snoc (fun i => pl N (tr N i)) K q hql
              have hsm := HSum.out q
              have hkl := HKL.out
              have hb1 := HBS.out
              have hHX := HA6
              obtain ⟨k, hkk⟩ : ∃ k : Nat, K.getD q 0 = (k : Int) := ⟨(K.getD q 0).toNat, by omega⟩
              rw [hkk] at hk hx hks
              rw [Int.toNat_natCast] at hks
              obtain ⟨S, hS⟩ : ∃ S, S = bX + kidSum (fun i => pl N (tr N i)) (K.take q) := ⟨_, rfl⟩
              have hpk := pl_le N (tr N k)
              have hSb : S ≤ 4294967296 := by unfold cap at hsm; have : q * 1073741824 ≤ 2 * 1073741824 := Nat.mul_le_mul_right _ (by omega); omega
              have hkm : k < m := by omega
              have hcm := HA6.out.cell hml
              have hck := HA6.out.cell (i := k) (by omega)
              have hfm := HA6.out.frozen m
              rw [← hS] at hcm hck
              rw [rowF_at] at hcm
              rw [rowF_lt _ _ _ hkm] at hck
              have hpk2 : pl N (tr N k) ≤ 1073741824 := hpk
              have hU6 := HA6.out.lt
              have HS2 := Lib.hid hS
              have HKS := Lib.hid hks
              generalize hP2 : pl N (tr N k) = P at *
              have HP2 := Lib.hid hP2
              clear hx0 hks hsm hkl hb1 hHX hkk hpk hP2 hS
              have hwp : IntKind.i64.wrap ((S : Int) + (P : Int)) = ((S + P : Nat) : Int) := by rw [IntKind.wrap_i64]; omega
              have HWP := Lib.hid hwp
              have hkl2 := HKL.out
              clear hwp hk hkb
              go_wp2_with fail
              refine region_mix [(false, 0), (false, 1), (false, 2), (false, 3), (false, 4), (false, 5), (false, 6), (false, 7), (false, 8), (false, 9)] (fun w' => Below w6.heap.size w6 w') (by kernel_rfl) (by kernel_rfl) ((Below.refl _ _).drew) ?_
              simp only [planOps, List.map_cons, List.map_nil, List.getD_cons_zero, List.getD_cons_succ, List.length_cons, List.length_nil, List.drop_succ_cons, List.drop_zero]
              refine mix_seg (seg := [_, _, _, _, _, _, _, _, _, _]) (rest := []) rfl ((Below.refl _ _).drew) ?_
              intro ι hι F hF
              have f0 := fun n => ((hF n).cell (p := ⟨u, m, none⟩) hU6).trans hcm
              have f1 := fun n => ((hF n).cell (p := ⟨u, k, none⟩) hU6).trans hck
              have f2 := HWP.out
              have f3 : k < N.length := by omega
              repeat (go_big_quiet_step (fail))
              refine wpQuiet_nil ?_
              clear f0 f1 f2 f3 hF hι F
              show wpList _ _ _ _ _ _
              go_wp2
              refine NoPanic.normal ?_
              go_wp2
              go_roundw
              case rel =>
                refine ⟨q + 1, by go_num, hql, Lib.hid ?_, Lib.hid ((HW6.out.drew).trans (But.set _ _ _ _))⟩
                rw [HKS.out, ← Nat.add_assoc, ← HS2.out]
                exact (HA6.out.drew'.set m ((S + P : Nat) : Int)).congr (fun j _ => rowF_set _ _ _ _ j)
              case measure => simp only [intOf]; omega
            · have : q = K.length := by omega
              subst this
              have hdq : decide (K.length < K.length) = false := decide_eq_false (by omega)
              rw [List.take_length] at HA6
              obtain ⟨S, hS⟩ : ∃ S, S = bX + kidSum (fun i => pl N (tr N i)) K := ⟨_, rfl⟩
              rw [← hS] at HA6
              have hSb : S ≤ 4294967296 := by
                have h1 := HSum.out K.length
                have h2 := HKL.out
                have h3 := HBS.out
                rw [List.take_length] at h1
                unfold cap at h1
                have : K.length * 1073741824 ≤ 2 * 1073741824 := Nat.mul_le_mul_right _ h2
                omega
              have hcp := copy_le HSnd.out
              have hcm := HA6.out.cell hml
              rw [rowF_at] at hcm
              have HBx6 : Hid (BoxAt w6 g X) := Lib.hid ⟨by rw [HW6.out.block g (Nat.lt_of_lt_of_le HBx4.out.lt HB5.out.size) HG.out, HB5.out.block g HBx4.out.lt]; exact HBx4.out.row⟩
              have hU6 := HA6.out.lt
              have HCP := Lib.hid hcp
              have HS2 := Lib.hid hS
              have HPE : Hid (((pl N (tr N m) : Nat) : Int) = min ((S : Int) * copyOf X) 1073741824) := Lib.hid (by
                rw [HPN.out, hS]
                unfold kidSum cap
                generalize (List.map (fun c => pl N (tr N c.toNat)) K).sum = z
                obtain ⟨c, hc⟩ : ∃ c : Nat, copyOf X = (c : Int) := ⟨(copyOf X).toNat, by omega⟩
                rw [hc, Int.toNat_natCast]
                rw [← Int.natCast_mul]
                omega)
              have hCX := fun w => copies_any X w
              obtain ⟨c, hc⟩ : ∃ c : Nat, copyOf X = (c : Int) := ⟨(copyOf X).toNat, by omega⟩
              rw [hc] at hCX HPE
              have HCX := Lib.hid hCX
              have HC : Hid (c ≤ 9) := Lib.hid (by omega)
              have hwp : IntKind.i64.wrap ((S : Int) * (c : Int)) = ((S * c : Nat) : Int) := by
                have : S * c ≤ 4294967296 * 9 := Nat.mul_le_mul hSb HC.out
                rw [IntKind.wrap_i64, ← Int.natCast_mul]; omega
              have HWP := Lib.hid hwp
              clear hS hSb hcp hc hCX hwp hdq
              have hdq : decide (K.length < K.length) = false := decide_eq_false (by omega)
              go_wp2_with fail
              refine region_mix [(false, 0), (false, 1), (false, 2), (false, 3), (false, 4), (false, 5), (false, 6), (true, 7), (false, 8), (false, 9), (false, 10)] (fun w' => Below w6.heap.size w6 w') (by kernel_rfl) (by kernel_rfl) ((Below.refl _ _).drew) ?_
              simp only [planOps, List.map_cons, List.map_nil, List.getD_cons_zero, List.getD_cons_succ, List.length_cons, List.length_nil, List.drop_succ_cons, List.drop_zero]
              refine mix_seg (seg := [_, _, _, _, _, _, _]) rfl ((Below.refl _ _).drew) ?_
              intro ι hι F hF
              have f0 := fun n => ((hF n).cell (p := ⟨u, m, none⟩) hU6).trans hcm
              have fb : ∀ n, BoxAt (F n) g X := fun n => HBx6.out.kept (hF n) HBx6.out.lt
              repeat (first | (refine BigFrame.wpQuiet_want rfl (fun K' hK => ?_); refine quiet_load_node _ rfl g X rfl (fun w' ⟨n, e⟩ => e ▸ fb n) ?_; refine hK _ ?_; clear hK K'; simp only [Act.put, List.setIfInBounds_toArray, List.set_cons_zero, List.set_cons_succ]) | (go_big_quiet_step (fail)))
              refine wpQuiet_nil ?_
              clear f0 fb hF hι F
              refine mix_eff (fun K' hK => ?_)
              go_wp2_with (go_at_call 45; refine (HCX.out _).mono ?_; rintro e w7 ⟨rfl, hB7⟩)
              have hW7 := ((Below.refl w6.heap.size w6).drew).trans (hB7.mono (Nat.le_refl _))
              refine mix_on hK hW7 ?_
              clear hK K'
              refine mix_seg (seg := [_, _, _]) (rest := []) rfl hW7 ?_
              intro ι hι F hF
              have f2 := HWP.out
              repeat (go_big_quiet_step (fail))
              refine wpQuiet_nil ?_
              clear f2 hF hι F
              have hc7 := (hW7.cell (p := ⟨u, m, none⟩) hU6).trans hcm
              have hf7 := (hW7.frozen (p := ⟨u, m, none⟩) hU6).trans (HA6.out.frozen m)
              show wpList _ _ _ _ _ _
              go_wp2
              all_goals
                have HMin := Lib.hid h
                clear h
                refine NoPanic.normal ?_
                go_wp2
                go_roundw
                case rel =>
                  refine ⟨m + 1, by go_num, hml, Lib.hid ?_, Lib.hid (HW2.out.trans (HW3.out.trans (((But.of_below HB5.out).trans (HW6.out.trans (But.of_below hW7))).trans (But.set _ _ _ _))))⟩
                  have h1 := HMin.out
                  have h2 := HPE.out
                  generalize (S : Int) * (c : Int) = zz at h1 h2 ⊢
                  first
                    | rw [show zz = ((pl N (tr N m) : Nat) : Int) from by omega]
                    | rw [show (1073741824 : Int) = ((pl N (tr N m) : Nat) : Int) from by omega]
                  exact ((HA6.out.kept (hW7.block u hU6)).set m _).congr (fun j _ => by rw [rowF_set, rowF_next (fun i => pl N (tr N i)) m j])
                case measure => simp only [intOf]; omega
      · have : m = N.length := by omega
        subst this
        have hdm : decide (N.length < N.length) = false := decide_eq_false (by omega)
        have hT2 := HW.out.cell HT1.out (by show w.heap.size ≠ u; have := HS0.out; omega)
        clear hm hml HRt
        go_wp2_with fail
        have HRS : Hid (∀ q, rSum N (R.take q) ≤ q * cap) := Lib.hid (fun q => by
          have h1 := rSum_le N (R.take q)
          have h2 : (R.take q).length * cap ≤ q * cap := Nat.mul_le_mul_right _ (by rw [List.length_take]; omega)
          omega)
        have hP20 := HF.out.2.1
        clear hT2 hdm
        go_loopw [65, 8] (fun x s wr => ∃ q : Nat, x = .int .i64 q ∧ s = .int .i64 (rSum N (R.take q) : Nat) ∧ q ≤ R.length ∧ Hid (Below w1.heap.size w1 wr)) (fun x _ _ => (R.length - intOf x).toNat)
        case atStart => exact ⟨0, rfl, rfl, Nat.zero_le _, Lib.hid (Below.refl _ _)⟩
        case round =>
          obtain ⟨q, rfl, rfl, hq, HB⟩ := hrel
          generalize hwr : wr = w6 at *
          clear hwr wr
          by_cases hql : q < R.length
          · have hdq : decide ((q : Int) < (R.length : Int)) = true := decide_eq_true (by omega)
            obtain ⟨b, o, rfl, hr0, hok⟩ := HP.out.at hql
            have hBw := (But.below HB1.out HW.out (by have := HS0.out; omega) (by have := HS0.out; rw [HS1.out]; omega)).trans (HB.out.mono (by have := (But.below HB1.out HW.out (by have := HS0.out; omega) (by have := HS0.out; rw [HS1.out]; omega)).size; exact this))
            have hr1 := range_kept hr0 hBw
            have hrt := HR.out.rts (R.getD q default).1 (List.mem_map.2 ⟨_, (by rw [List.getD_eq_getElem?_getD, List.getElem?_eq_getElem hql]; exact List.getElem_mem hql), rfl⟩)
            have hsn := rSum_snoc N R q hql
            have hs1 := HRS.out q
            have hs2 := HRS.out (q + 1)
            obtain ⟨X, hX⟩ : ∃ X, X = R.getD q default := ⟨_, rfl⟩
            rw [← hX] at hr1 hok hrt hsn
            clear hX
            obtain ⟨rt, nt⟩ := X
            simp only at hrt hsn
            obtain ⟨k, rfl⟩ : ∃ k : Nat, rt = (k : Int) := ⟨rt.toNat, by omega⟩
            rw [Int.toNat_natCast] at hsn
            have c0 : w6.cell? ⟨b, o + q * 2, none⟩ = some (.int .i64 k) := hr1 0 _ rfl
            have c1 : w6.cell? ⟨b, o + q * 2 + 1, none⟩ = some (.bool nt) := hr1 1 _ rfl
            have hkn : k < N.length := by omega
            have hul := HA.out.lt
            have hck := (HB.out.cell (p := ⟨u, k, none⟩) hul).trans (HA.out.cell hkn)
            rw [rowF_lt _ _ _ hkn] at hck
            have hub6 : u < w6.heap.size := Nat.lt_of_lt_of_le hul HB.out.size
            have hck2 := ((Below.refl w6.heap.size w6).alloc (Nat.le_refl _) (.cells #[.int .i64 k, .bool nt] 78)).cell (p := ⟨u, k, none⟩) hub6 |>.trans hck
            have HSN := Lib.hid hsn
            have hb1 : rSum N (R.take q) ≤ 21474836480 := by unfold cap at hs1; have : q * 1073741824 ≤ 20 * 1073741824 := Nat.mul_le_mul_right _ (by omega); omega
            have hb2 : pl N (tr N k) ≤ 1073741824 := pl_le N (tr N k)
            generalize rSum N (R.take q) = S at *
            generalize pl N (tr N k) = P at *
            have HB6 := Lib.hid (HB.out.alloc HB.out.size (.cells #[.int .i64 k, .bool nt] 78))
            clear hr0 hr1 hok hBw hrt hsn hs1 hs2 hul hck HA
            go_wp2_with fail
            go_roundw
            case rel =>
              refine ⟨q + 1, by go_num, ?_, hql, HB6⟩
              rw [HSN.out]; go_num
            case measure => simp only [intOf]; omega
          · have : q = R.length := by omega
            subst this
            have hdq : decide (R.length < R.length) = false := decide_eq_false (by omega)
            have hs1 := HRS.out R.length
            have hb1 : rSum N (R.take R.length) ≤ 21474836480 := by unfold cap at hs1; have : R.length * 1073741824 ≤ 20 * 1073741824 := Nat.mul_le_mul_right _ (by omega); omega
            have HPL : Hid (places N R = min (rSum N (R.take R.length)) cap) := Lib.hid (by rw [List.take_length]; rfl)
            clear hs1
            generalize rSum N (R.take R.length) = S at *
            have HB6 := Lib.hid ((But.below HB1.out HW.out (by have := HS0.out; omega) (by have := HS0.out; rw [HS1.out]; omega)).trans (HB.out.mono (by have := (But.below HB1.out HW.out (by have := HS0.out; omega) (by have := HS0.out; rw [HS1.out]; omega)).size; exact this)))
            by_cases hS : S ≤ 1073741824
            · have hd : decide ((S : Int) ≤ 1073741824) = true := decide_eq_true (by omega)
              go_wp2_with fail
              go_ret
              refine ⟨?_, HB6.out⟩
              rw [HPL.out, Nat.min_eq_left (show S ≤ cap from hS)]; rfl
            · go_wp2_with fail
              go_ret
              refine ⟨?_, HB6.out⟩
              rw [HPL.out, Nat.min_eq_right (by unfold cap; omega)]; rfl
end Go.Proofs.YtcgllipcnmlkbaaDoor
namespace Go.Proofs.YtcgllipcnmlkbaaDoor
open Go.RowKit Sets Tr
theorem infoInt : (Tryd.prog.info? 3).map (fun i => (i.zero, i.size, i.bytes)) = some (some (.int .i64 0), 1, 8) := by kernel_rfl
/-- the greatest of some kids' -/
def kidMax (h : Nat → Nat) (K : List Int) : Nat := maxL (K.map fun c => h c.toNat)
theorem kidMax_snoc (h : Nat → Nat) (K : List Int) (q : Nat) (hq : q < K.length) : kidMax h (K.take (q + 1)) = max (kidMax h (K.take q)) (h (K.getD q 0).toNat) := by
  unfold kidMax
  rw [List.take_add_one, List.getElem?_eq_getElem hq, List.getD_eq_getElem?_getD, List.getElem?_eq_getElem hq]
  simp only [Option.toList_some, List.map_append, List.map_cons, List.map_nil, Option.getD_some]
  rw [maxL_append]
  simp [maxL]
noncomputable def dpOf (N : List Nd) (R : List (Int × Bool)) : Nat := if rightB N R then depth N R else 0
end Go.Proofs.YtcgllipcnmlkbaaDoor
