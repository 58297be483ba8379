/- Several texts in one. -/
import Derived.Test.YtojndkdhjhcphaaDoorPk17
import Derived.Test.YtojndkdhjhcphaaDoorPkV
namespace Go.Proofs.YtojndkdhjhcphaaDoor
open Go.RowKit Sets Tr Rx Sp
def greatB8 (n p : Nat) : Bool := decide (700 < n) || decide (30 < p)
set_option maxHeartbeats 1600000 in
set_option maxRecDepth 100000 in
theorem great8_any (na pa : Option Addr) (n nc p pc : Nat) (w : World) : Calls Tryd.prog 11 #[.agg #[.slice na n nc, .slice pa p pc]] w fun e w' => e = .returned (.bool (greatB8 n p)) ∧ Below w.heap.size w w' := by
  have HB0 := Lib.hid ((Below.refl w.heap.size w).alloc (Nat.le_refl _) (.cells #[.slice na n nc, .slice pa p pc] 34))
  go_enter Tryd.func11, Tryd.ntmps11
  by_cases h1 : 700 < n
  · have d1 : decide ((700 : Int) < (n : Int)) = true := decide_eq_true (by omega)
    have e : greatB8 n p = true := by unfold greatB8; rw [decide_eq_true h1]; rfl
    rw [e]
    clear e h1
    go_wp2_with fail
    go_ret
    exact ⟨rfl, HB0.out⟩
  · have d1 : decide ((700 : Int) < (n : Int)) = false := decide_eq_false (by omega)
    by_cases h2 : 30 < p
    · have d2 : decide ((30 : Int) < (p : Int)) = true := decide_eq_true (by omega)
      have e : greatB8 n p = true := by unfold greatB8; rw [decide_eq_true h2, Bool.or_true]
      rw [e]
      clear e h1 h2
      go_wp2_with fail
      go_ret
      exact ⟨rfl, HB0.out⟩
    · have d2 : decide ((30 : Int) < (p : Int)) = false := decide_eq_false (by omega)
      have e : greatB8 n p = false := by unfold greatB8; rw [decide_eq_false h1, decide_eq_false h2]; rfl
      rw [e]
      clear e h1 h2
      go_wp2_with fail
      go_ret
      exact ⟨rfl, HB0.out⟩
namespace Sp
def plL : X → Nat
  | .emp => 0
  | .set _ => 1
  | .seq a b => min (plL a + plL b) 1048576
  | .alt a b => min (plL a + plL b) 1048576
  | .tim a _ n => if n = -1 then plL a else min (plL a * n.toNat) 1048576
theorem plL_le : ∀ x : X, plL x ≤ 1048576
  | .emp => by decide
  | .set _ => by show 1 ≤ 1048576; decide
  | .seq a b => Nat.min_le_right _ _
  | .alt a b => Nat.min_le_right _ _
  | .tim a _ n => by
    unfold plL
    split
    · exact plL_le a
    · exact Nat.min_le_right _ _
theorem plL_eq : ∀ x : X, Tz.plXz x ≤ 63 → plL x = Tz.plXz x
  | .emp, _ => rfl
  | .set _, _ => rfl
  | .seq a b, h => by
    simp only [Tz.plXz, plL] at h ⊢
    unfold cap at *
    rw [plL_eq a (by omega), plL_eq b (by omega)]; omega
  | .alt a b, h => by
    simp only [Tz.plXz, plL] at h ⊢
    unfold cap at *
    rw [plL_eq a (by omega), plL_eq b (by omega)]; omega
  | .tim a m n, h => by
    simp only [Tz.plXz, plL] at h ⊢
    unfold cap at *
    by_cases h1 : n = -1
    · rw [if_pos h1] at h ⊢
      rw [if_pos h1, plL_eq a (by omega)]; omega
    · rw [if_neg h1] at h ⊢
      rw [if_neg h1]
      by_cases h3 : n.toNat = 0
      · rw [h3]; simp
      · have h4 : Tz.plXz a ≤ Tz.plXz a * n.toNat := Nat.le_mul_of_pos_right _ (by omega)
        rw [plL_eq a (by omega)]; omega
end Sp
def PlC (W0 : World) (nv pv : Value) (N : List Nd) (t : T) : Prop := ∀ w : World, Below W0.heap.size W0 w → Calls Tryd.prog 19 #[.agg #[nv, pv], .int .i64 t.root] w fun e w' => e = .returned (.int .i64 (Sp.plL (abs N t) : Nat)) ∧ Below w.heap.size w w'
/-- the start of places -/
theorem pl_start {W0 w : World} {nv pv : Value} {x : Nd} (hb : Below W0.heap.size W0 w) :
    Below W0.heap.size W0 ((w.alloc (.cells #[nv, pv] 34)).alloc (.cells (nd9 x).toArray 39)) ∧ Below w.heap.size w ((w.alloc (.cells #[nv, pv] 34)).alloc (.cells (nd9 x).toArray 39)) ∧
    BoxAt ((w.alloc (.cells #[nv, pv] 34)).alloc (.cells (nd9 x).toArray 39)) (w.heap.size + 1) x ∧ ((w.alloc (.cells #[nv, pv] 34)).alloc (.cells (nd9 x).toArray 39)).cell? ⟨w.heap.size, 0, none⟩ = some nv ∧ ((w.alloc (.cells #[nv, pv] 34)).alloc (.cells (nd9 x).toArray 39)).cell? ⟨w.heap.size, 1, none⟩ = some pv := by
  have hal1 := (Below.refl w.heap.size w).alloc (Nat.le_refl _) (.cells #[nv, pv] 34)
  have hal2 := hal1.alloc (by simp) (.cells (nd9 x).toArray 39)
  have hbx := BoxAt.new (w.alloc (.cells #[nv, pv] 34)) x
  rw [show (w.alloc (.cells #[nv, pv] 34)).heap.size = w.heap.size + 1 from by simp] at hbx
  have hr : ((w.alloc (.cells #[nv, pv] 34)).alloc (.cells (nd9 x).toArray 39)).heap[w.heap.size]? = some (.cells #[nv, pv] 34 (0, 0)) := by
    rw [Below.heap_alloc _ _ _ (by simp)]; exact heap_alloc_new w _
  exact ⟨hb.trans (hal2.mono hb.size), hal2, hbx, by simp [World.cell?, hr], by simp [World.cell?, hr]⟩
end Go.Proofs.YtojndkdhjhcphaaDoor
namespace Go.Proofs.YtojndkdhjhcphaaDoor
open Go.RowKit Sets Tr Rx Sp
theorem if_min (p : Nat) : (if (1048576 : Int) < (p : Int) then (1048576 : Int) else (p : Int)) = ((min p 1048576 : Nat) : Int) := by split <;> omega
set_option maxHeartbeats 6400000 in
set_option maxRecDepth 100000 in
theorem pl_leaf (W0 : World) (nv pv : Value) (N : List Nd) (hN : NodesAt W0 nv N) (hpv : ∃ a n c, pv = .slice a n c) (hs : ∀ i, i < N.length → sound (N.getD i default) = true) (i : Nat) (hi : Is N (.leaf i)) : PlC W0 nv pv N (.leaf i) := by
  intro w hb
  have hi1 : i < N.length := hi.1
  obtain ⟨na, nc, hnv⟩ : ∃ a c, nv = .slice a N.length c := by obtain ⟨-, -, a, c, e, -⟩ := hN; exact ⟨a, c, e⟩
  subst hnv
  obtain ⟨pa, pm, pc, rfl⟩ := hpv
  obtain ⟨q, o, rfl, hr0, hok⟩ := (nodes_kept hN hb).at hi1
  have hsx := hs i hi1
  have HR0 := Lib.hid (range_kept hr0 ((Below.refl w.heap.size w).alloc (Nat.le_refl _) (.cells #[.slice (some ⟨q, o, none⟩) N.length nc, .slice pa pm pc] 34)))
  have HS := Lib.hid (pl_start (nv := .slice (some ⟨q, o, none⟩) N.length nc) (pv := .slice pa pm pc) (x := N.getD i default) hb)
  have hk := leaf_kind hi.2
  have hkk : ((N.getD i default).k = 1 ∧ Sp.plL (abs N (.leaf i)) = 0) ∨ ((N.getD i default).k = 2 ∧ Sp.plL (abs N (.leaf i)) = 1) := by
    rcases sound_kind hsx with h1 | h1 | h1 | h1 | h1
    · exact .inl ⟨h1, by simp only [abs]; rw [if_pos h1]; rfl⟩
    · exact .inr ⟨h1, by simp only [abs]; rw [if_neg (by omega)]; rfl⟩
    · exact absurd (.inl h1) hk.1
    · exact absurd (.inr h1) hk.1
    · exact absurd h1 hk.2
  clear hk hsx hok hi hN hs
  generalize N.getD i default = x at *
  have hdi : decide ((i : Int) < (N.length : Int)) = true := decide_eq_true (by omega)
  have hdi2 : decide (i < N.length) = true := decide_eq_true hi1
  have hb2 := HS.out.1
  have HB2 := Lib.hid HS.out.2.1
  have HX2 := Lib.hid HS.out.2.2.1
  have hc0 := HS.out.2.2.2.1
  have hc1 := HS.out.2.2.2.2
  clear HS hr0 hb
  obtain ⟨bx0, bx5, bx6, bx7, bx8⟩ := HX2.out.c4
  show Calls Tryd.prog 19 #[.agg #[.slice (some ⟨q, o, none⟩) N.length nc, .slice pa pm pc], .int .i64 i] w _
  go_enter Tryd.func19, Tryd.ntmps19
  rcases hkk with ⟨hk, hp⟩ | ⟨hk, hp⟩
  · rw [hp]
    rw [hk] at bx0
    clear hk hp
    go_wp2_with (first
    | (refine wpList_load_node rfl _ rfl q (o + i * 9) x rfl HR0.out ?_)
    | (refine wpList_store_node_at rfl _ _ rfl x (w.heap.size + 1) (by simp) rfl rfl ?_))
    go_ret
    exact ⟨rfl, HB2.out⟩
  · rw [hp]
    rw [hk] at bx0
    clear hk hp
    go_wp2_with (first
    | (refine wpList_load_node rfl _ rfl q (o + i * 9) x rfl HR0.out ?_)
    | (refine wpList_store_node_at rfl _ _ rfl x (w.heap.size + 1) (by simp) rfl rfl ?_))
    go_ret
    exact ⟨rfl, HB2.out⟩
set_option maxHeartbeats 6400000 in
set_option maxRecDepth 100000 in
theorem pl_one (W0 : World) (nv pv : Value) (N : List Nd) (hN : NodesAt W0 nv N) (hpv : ∃ a n c, pv = .slice a n c) (hs : ∀ i, i < N.length → sound (N.getD i default) = true) (i : Nat) (t : T) (hi : Is N (.one i t)) (hC : PlC W0 nv pv N t) : PlC W0 nv pv N (.one i t) := by
  intro w hb
  have hi1 : i < N.length := hi.1
  obtain ⟨na, nc, hnv⟩ : ∃ a c, nv = .slice a N.length c := by obtain ⟨-, -, a, c, e, -⟩ := hN; exact ⟨a, c, e⟩
  subst hnv
  obtain ⟨pa, pm, pc, rfl⟩ := hpv
  obtain ⟨q, o, rfl, hr0, hok⟩ := (nodes_kept hN hb).at hi1
  have hsx := hs i hi1
  have HR0 := Lib.hid (range_kept hr0 ((Below.refl w.heap.size w).alloc (Nat.le_refl _) (.cells #[.slice (some ⟨q, o, none⟩) N.length nc, .slice pa pm pc] 34)))
  have HS := Lib.hid (pl_start (nv := .slice (some ⟨q, o, none⟩) N.length nc) (pv := .slice pa pm pc) (x := N.getD i default) hb)
  have hk := one_kind hi.2.1
  have hm5 := sound5 hsx hk.1
  have hm : Sp.plL (abs N (.one i t)) = if (N.getD i default).mx = -1 then Sp.plL (abs N t) else min (Sp.plL (abs N t) * (N.getD i default).mx.toNat) 1048576 := rfl
  have HC := Lib.hid hC
  unfold PlC at HC
  have hle := Sp.plL_le (abs N t)
  have hk5 := hk.1
  have hka := hk.2
  clear hi hk hC hN hs hsx hok
  generalize N.getD i default = x at *
  generalize Sp.plL (abs N t) = p at *
  generalize htr : t.root = r at *
  have hdi : decide ((i : Int) < (N.length : Int)) = true := decide_eq_true (by omega)
  have hdi2 : decide (i < N.length) = true := decide_eq_true hi1
  have hb2 := HS.out.1
  have HB2 := Lib.hid HS.out.2.1
  have HX2 := Lib.hid HS.out.2.2.1
  have hc0 := HS.out.2.2.2.1
  have hc1 := HS.out.2.2.2.2
  clear HS hr0 hb
  obtain ⟨bx0, bx5, bx6, bx7, bx8⟩ := HX2.out.c4
  rw [hk5] at bx0
  rw [hka] at bx5
  rw [hm]
  clear hm hk5 hka
  show Calls Tryd.prog 19 #[.agg #[.slice (some ⟨q, o, none⟩) N.length nc, .slice pa pm pc], .int .i64 i] w _
  go_enter Tryd.func19, Tryd.ntmps19
  by_cases h1 : x.mx = -1
  · have hlt : decide (x.mx < 0) = true := decide_eq_true (by omega)
    rw [if_pos h1]
    clear h1 hm5
    go_wp2_with (first
    | (refine wpList_load_node rfl _ rfl q (o + i * 9) x rfl HR0.out ?_)
    | (refine wpList_store_node_at rfl _ _ rfl x (w.heap.size + 1) (by simp) rfl rfl ?_))
    refine (HC.out _ hb2).mono ?_
    rintro e w3 ⟨rfl, hq⟩
    go_wp2_with fail
    go_ret
    exact ⟨rfl, HB2.out.trans (hq.mono HB2.out.size)⟩
  · obtain ⟨k, hkm⟩ : ∃ k : Nat, x.mx = (k : Int) := ⟨x.mx.toNat, by omega⟩
    have hk9 : k ≤ 9 := by omega
    have hlt : decide (x.mx < 0) = false := decide_eq_false (by omega)
    have hlt2 : decide ((k : Int) < 0) = false := decide_eq_false (by omega)
    rw [if_neg h1, hkm, Int.toNat_natCast]
    rw [hkm] at bx8
    have HKM := Lib.hid hkm
    clear h1 hm5 hkm hlt
    have hpk : p * k ≤ 9437184 := Nat.le_trans (Nat.mul_le_mul hle hk9) (by decide)
    have hwp : wrap64 ((p : Int) * (k : Int)) = ((p * k : Nat) : Int) := by rw [← Int.natCast_mul]; unfold wrap64; omega
    have hif := if_min (p * k)
    rw [Int.natCast_mul] at hif
    have HIF := Lib.hid hif
    clear hif hwp
    go_wp2_with (first
    | (refine wpList_load_node rfl _ rfl q (o + i * 9) x rfl HR0.out ?_)
    | (refine wpList_store_node_at rfl _ _ rfl x (w.heap.size + 1) (by simp) rfl rfl ?_))
    generalize ((w.alloc (.cells #[.slice (some ⟨q, o, none⟩) N.length nc, .slice pa pm pc] 34)).alloc (.cells (nd9 x).toArray 39)) = w2 at *
    have hl1 : w.heap.size < w2.heap.size := World.block_lt_of_cell? _ _ hc0
    have hl2 := HX2.out.lt
    refine region_mix [(false, 0), (false, 1), (false, 2), (false, 4), (false, 5), (true, 3), (false, 6), (false, 7)] (fun w' => Below w2.heap.size w2 w') (by kernel_rfl) (by kernel_rfl) ((Below.refl _ _).drew) ?_
    simp only [planOps, List.map_cons, List.map_nil, List.getD_cons_zero, List.getD_cons_succ, List.length_cons, List.length_nil, List.drop_succ_cons, List.drop_zero]
    refine mix_seg (seg := [_, _, _, _, _]) rfl ((Below.refl _ _).drew) ?_
    intro ι hι F hF
    have g0 := fun n => ((hF n).cell (p := ⟨w.heap.size, 0, none⟩) hl1).trans hc0
    have g1 := fun n => ((hF n).cell (p := ⟨w.heap.size, 1, none⟩) hl1).trans hc1
    have g5 := fun n => ((hF n).cell (p := ⟨w.heap.size + 1, 5, none⟩) hl2).trans bx5
    have g8 := fun n => ((hF n).cell (p := ⟨w.heap.size + 1, 8, none⟩) hl2).trans bx8
    repeat (go_big_quiet_step (fail))
    refine wpQuiet_nil ?_
    clear g0 g1 g5 g8 hF hι F
    refine mix_eff (fun K hK => ?_)
    have HC2 := Lib.hid (HC.out w2.drew hb2.drew)
    clear HC
    go_wp2_with (go_at_call 19; refine HC2.out.mono ?_; rintro e w3 ⟨rfl, hq⟩; have HQ := Lib.hid (((Below.refl w2.heap.size w2).drew).trans hq); clear hq)
    refine mix_on hK HQ.out ?_
    clear hK K HC2
    refine mix_seg (seg := [_, _]) rfl HQ.out ?_
    intro ι hι F hF
    repeat (go_big_quiet_step (fail))
    rw [HIF.out]
    refine wpQuiet_nil ?_
    clear hF hι F
    show wpList _ _ _ _ _ _
    go_wp2
    refine NoPanic.normal ?_
    go_wp2_with fail
    go_ret
    exact ⟨rfl, HB2.out.trans (HQ.out.mono HB2.out.size)⟩
set_option maxHeartbeats 6400000 in
set_option maxRecDepth 100000 in
theorem pl_two (W0 : World) (nv pv : Value) (N : List Nd) (hN : NodesAt W0 nv N) (hpv : ∃ a n c, pv = .slice a n c) (hs : ∀ i, i < N.length → sound (N.getD i default) = true) (i : Nat) (ta tb : T) (hi : Is N (.two i ta tb)) (hCa : PlC W0 nv pv N ta) (hCb : PlC W0 nv pv N tb) : PlC W0 nv pv N (.two i ta tb) := by
  intro w hb
  have hi1 : i < N.length := hi.1
  obtain ⟨na, nc, hnv⟩ : ∃ a c, nv = .slice a N.length c := by obtain ⟨-, -, a, c, e, -⟩ := hN; exact ⟨a, c, e⟩
  subst hnv
  obtain ⟨pa, pm, pc, rfl⟩ := hpv
  obtain ⟨q, o, rfl, hr0, hok⟩ := (nodes_kept hN hb).at hi1
  have hsx := hs i hi1
  have HR0 := Lib.hid (range_kept hr0 ((Below.refl w.heap.size w).alloc (Nat.le_refl _) (.cells #[.slice (some ⟨q, o, none⟩) N.length nc, .slice pa pm pc] 34)))
  have HS := Lib.hid (pl_start (nv := .slice (some ⟨q, o, none⟩) N.length nc) (pv := .slice pa pm pc) (x := N.getD i default) hb)
  have hk := two_kind hi.2.1
  have hm : Sp.plL (abs N (.two i ta tb)) = min (Sp.plL (abs N ta) + Sp.plL (abs N tb)) 1048576 := by simp only [abs]; split <;> rfl
  have HCa := Lib.hid hCa
  have HCb := Lib.hid hCb
  unfold PlC at HCa HCb
  have hla := Sp.plL_le (abs N ta)
  have hlb := Sp.plL_le (abs N tb)
  have hkk := hk.1
  have hka := hk.2.1
  have hkb := hk.2.2
  clear hi hk hCa hCb hN hs hsx hok
  generalize N.getD i default = x at *
  generalize Sp.plL (abs N ta) = p at *
  generalize Sp.plL (abs N tb) = p2 at *
  generalize htr : ta.root = r at *
  generalize htr2 : tb.root = r2 at *
  have hdi : decide ((i : Int) < (N.length : Int)) = true := decide_eq_true (by omega)
  have hdi2 : decide (i < N.length) = true := decide_eq_true hi1
  have hb2 := HS.out.1
  have HB2 := Lib.hid HS.out.2.1
  have HX2 := Lib.hid HS.out.2.2.1
  have hc0 := HS.out.2.2.2.1
  have hc1 := HS.out.2.2.2.2
  clear HS hr0 hb
  obtain ⟨bx0, bx5, bx6, bx7, bx8⟩ := HX2.out.c4
  rw [hka] at bx5
  rw [hkb] at bx6
  rw [hm]
  have hif := if_min (p + p2)
  rw [Int.natCast_add] at hif
  have HIF := Lib.hid hif
  have HLL : Hid (p + p2 ≤ 2097152) := Lib.hid (by omega)
  have hws : wrap64 ((p : Int) + (p2 : Int)) = (p : Int) + (p2 : Int) := by unfold wrap64; omega
  clear hm hka hkb hif hla hlb
  show Calls Tryd.prog 19 #[.agg #[.slice (some ⟨q, o, none⟩) N.length nc, .slice pa pm pc], .int .i64 i] w _
  go_enter Tryd.func19, Tryd.ntmps19
  rcases hkk with hk | hk
  all_goals
    rw [hk] at bx0
    clear hk
    go_wp2_with (first
    | (refine wpList_load_node rfl _ rfl q (o + i * 9) x rfl HR0.out ?_)
    | (refine wpList_store_node_at rfl _ _ rfl x (w.heap.size + 1) (by simp) rfl rfl ?_))
    generalize ((w.alloc (.cells #[.slice (some ⟨q, o, none⟩) N.length nc, .slice pa pm pc] 34)).alloc (.cells (nd9 x).toArray 39)) = w2 at *
    have hl1 : w.heap.size < w2.heap.size := World.block_lt_of_cell? _ _ hc0
    have hl2 := HX2.out.lt
    refine region_mix [(false, 0), (false, 1), (false, 2), (false, 4), (false, 5), (false, 6), (true, 3), (true, 7), (false, 8), (false, 9)] (fun w' => Below w2.heap.size w2 w') (by kernel_rfl) (by kernel_rfl) ((Below.refl _ _).drew) ?_
    simp only [planOps, List.map_cons, List.map_nil, List.getD_cons_zero, List.getD_cons_succ, List.length_cons, List.length_nil, List.drop_succ_cons, List.drop_zero]
    refine mix_seg (seg := [_, _, _, _, _, _]) rfl ((Below.refl _ _).drew) ?_
    intro ι hι F hF
    have g0 := fun n => ((hF n).cell (p := ⟨w.heap.size, 0, none⟩) hl1).trans hc0
    have g1 := fun n => ((hF n).cell (p := ⟨w.heap.size, 1, none⟩) hl1).trans hc1
    have g5 := fun n => ((hF n).cell (p := ⟨w.heap.size + 1, 5, none⟩) hl2).trans bx5
    have g6 := fun n => ((hF n).cell (p := ⟨w.heap.size + 1, 6, none⟩) hl2).trans bx6
    repeat (go_big_quiet_step (fail))
    refine wpQuiet_nil ?_
    clear g0 g1 g5 g6 hF hι F
    refine mix_eff (fun K hK => ?_)
    have HC2 := Lib.hid (HCa.out w2.drew hb2.drew)
    clear HCa
    go_wp2_with (go_at_call 19; refine HC2.out.mono ?_; rintro e w3 ⟨rfl, hq⟩; have HQ := Lib.hid (((Below.refl w2.heap.size w2).drew).trans hq); clear hq)
    refine mix_on hK HQ.out ?_
    clear hK K HC2
    refine mix_eff (fun K hK => ?_)
    have HC3 := Lib.hid (HCb.out w3 (hb2.trans (HQ.out.mono hb2.size)))
    clear HCb
    go_wp2_with (go_at_call 19; refine HC3.out.mono ?_; rintro e w4 ⟨rfl, hq⟩; have HQ4 := Lib.hid (HQ.out.trans (hq.mono HQ.out.size)); clear hq)
    refine mix_on hK HQ4.out ?_
    clear hK K HC3
    refine mix_seg (seg := [_, _]) rfl HQ4.out ?_
    intro ι hι F hF
    repeat (go_big_quiet_step (fail))
    rw [HIF.out]
    refine wpQuiet_nil ?_
    clear hF hι F
    show wpList _ _ _ _ _ _
    go_wp2
    refine NoPanic.normal ?_
    go_wp2_with fail
    go_ret
    exact ⟨rfl, HB2.out.trans (HQ4.out.mono HB2.out.size)⟩
theorem pl_all (W0 : World) (nv pv : Value) (N : List Nd) (hN : NodesAt W0 nv N) (hpv : ∃ a n c, pv = .slice a n c) (hs : ∀ i, i < N.length → sound (N.getD i default) = true) : ∀ t : T, Is N t → PlC W0 nv pv N t := by
  intro t
  induction t with
  | leaf i => intro h; exact pl_leaf W0 nv pv N hN hpv hs i h
  | one i a ih => intro h; exact pl_one W0 nv pv N hN hpv hs i a h (ih h.2.2.2)
  | two i a b ih1 ih2 => intro h; exact pl_two W0 nv pv N hN hpv hs i a b h (ih1 h.2.2.2.2.1) (ih2 h.2.2.2.2.2)
end Go.Proofs.YtojndkdhjhcphaaDoor
namespace Go.Proofs.YtojndkdhjhcphaaDoor
open Go.RowKit Sets Tr Rx Sp
namespace Sp
theorem md_app (m : List (X × Bool)) : ∀ k : List (X × Bool), ∃ d : Md, (md (m ++ k)).s = (md m).s ++ d.s ∧ (md (m ++ k)).f = (md m).f ++ d.f ∧ (md (m ++ k)).fi = (md m).fi ++ d.fi ∧ (md (m ++ k)).la = (md m).la ++ d.la := by
  refine snoc_ind (P := fun k => ∃ d : Md, (md (m ++ k)).s = (md m).s ++ d.s ∧ (md (m ++ k)).f = (md m).f ++ d.f ∧ (md (m ++ k)).fi = (md m).fi ++ d.fi ∧ (md (m ++ k)).la = (md m).la ++ d.la) ⟨md0, by simp [md0]⟩ (fun k x ih => ?_)
  obtain ⟨d, h1, h2, h3, h4⟩ := ih
  rw [← List.append_assoc, md_snoc]
  refine ⟨⟨d.s ++ (mk x.1).s, d.f ++ up (md (m ++ k)).s.length (mk x.1).f, d.fi ++ [(mk x.1).fi <<< (md (m ++ k)).s.length], d.la ++ [(mk x.1).la <<< (md (m ++ k)).s.length], [], []⟩, ?_, ?_, ?_, ?_⟩
  · show (md (m ++ k)).s ++ _ = _; rw [h1, List.append_assoc]
  · show (md (m ++ k)).f ++ _ = _; rw [h2, List.append_assoc]
  · show (md (m ++ k)).fi ++ _ = _; rw [h3, List.append_assoc]
  · show (md (m ++ k)).la ++ _ = _; rw [h4, List.append_assoc]
structure At (l : List (X × Bool)) (i : Nat) (x : X × Bool) (n : Nat) : Prop where
  off : (md (l.take i)).s.length = n
  next : (md (l.take (i + 1))).s.length = n + (mk x.1).s.length
  le : n + (mk x.1).s.length ≤ (md l).s.length
  fi : (md l).fi.getD i 0 = (mk x.1).fi <<< n
  la : (md l).la.getD i 0 = (mk x.1).la <<< n
  fol : ∀ j, j < (mk x.1).s.length → (md l).f.getD (n + j) 0 = (mk x.1).f.getD j 0 <<< n
theorem md_at (l : List (X × Bool)) (i : Nat) (x : X × Bool) (hi : i < l.length) (hx : l.take (i + 1) = l.take i ++ [x]) : At l i x (md (l.take i)).s.length := by
  obtain ⟨d, h1, h2, h3, h4⟩ := md_app (l.take (i + 1)) (l.drop (i + 1))
  rw [List.take_append_drop, hx, md_snoc] at h1 h2 h3 h4
  have hlen := md_len (l.take i)
  have hti : (l.take i).length = i := by rw [List.length_take]; omega
  rw [hti] at hlen
  obtain ⟨g1, g2, g3, -, -⟩ := hlen
  refine ⟨rfl, ?_, ?_, ?_, ?_, fun j hj => ?_⟩
  · rw [hx, md_snoc]; exact List.length_append
  · rw [h1]; show _ ≤ List.length (((md (l.take i)).s ++ (mk x.1).s) ++ d.s); rw [List.length_append, List.length_append]; omega
  · rw [h3]
    show (((md (l.take i)).fi ++ [(mk x.1).fi <<< (md (l.take i)).s.length]) ++ d.fi).getD i 0 = _
    rw [List.append_assoc, List.getD_eq_getElem?_getD, List.getElem?_append_right (by omega), g2, Nat.sub_self]; rfl
  · rw [h4]
    show (((md (l.take i)).la ++ [(mk x.1).la <<< (md (l.take i)).s.length]) ++ d.la).getD i 0 = _
    rw [List.append_assoc, List.getD_eq_getElem?_getD, List.getElem?_append_right (by omega), g3, Nat.sub_self]; rfl
  · rw [h2]
    show (((md (l.take i)).f ++ up (md (l.take i)).s.length (mk x.1).f) ++ d.f).getD _ 0 = _
    have hjf : j < (mk x.1).f.length := by rw [(ok_mk x.1).len]; exact hj
    rw [List.append_assoc, List.getD_eq_getElem?_getD, List.getElem?_append_right (by omega), g1, Nat.add_sub_cancel_left, List.getElem?_append_left (by rw [up_length]; exact hjf), up_get, List.getElem?_eq_getElem hjf, List.getD_eq_getElem?_getD, List.getElem?_eq_getElem hjf]
    rfl
end Sp
theorem off_mask {x n a : Nat} (hx : x < 2 ^ n) (h : a + n ≤ 63) : bits .andNot .u64 ((x <<< a : Nat) : Int) ((((2 ^ n - 1) <<< a : Nat)) : Int) = 0 := by
  have h1 : x <<< a < 2 ^ 64 := Nat.lt_of_lt_of_le (shl_lt hx) (Nat.pow_le_pow_right (by decide) (by omega))
  have h2 : (2 ^ n - 1) <<< a < 2 ^ 64 := Nat.lt_of_lt_of_le (shl_lt (n := n) (by have := Nat.two_pow_pos n; omega)) (Nat.pow_le_pow_right (by decide) (by omega))
  rw [u64_andNot_nat _ _ h1 h2]
  have e : (x <<< a) &&& (18446744073709551615 - (2 ^ n - 1) <<< a) = 0 := by
    apply Nat.eq_of_testBit_eq; intro i
    rw [show (18446744073709551615 : Nat) - (2 ^ n - 1) <<< a = 2 ^ 64 - ((2 ^ n - 1) <<< a + 1) from by omega, Nat.testBit_and, Nat.testBit_two_pow_sub_succ h2, Nat.testBit_shiftLeft, Nat.testBit_shiftLeft, Nat.testBit_two_pow_sub_one, Nat.zero_testBit]
    by_cases hi : a ≤ i
    · by_cases hj : i - a < n
      · simp [hi, hj]
      · rw [bit_hi hx (by omega)]; simp
    · simp [hi]
  rw [e]; rfl
end Go.Proofs.YtojndkdhjhcphaaDoor
namespace Go.Proofs.YtojndkdhjhcphaaDoor
open Go.RowKit Sets Tr Rx Sp
theorem sum_mem : ∀ {l : List Nat} {x : Nat}, x ∈ l → x ≤ l.sum
  | [], _, h => by cases h
  | y :: l, x, h => by
    rw [List.sum_cons]
    rcases List.mem_cons.1 h with rfl | h
    · omega
    · have := sum_mem h; omega
theorem part_small {N : List Nd} {R : List (Int × Bool)} (h : Right N R) (hp : plOf N R ≤ 63) : ∀ x ∈ parts N R, Tz.plXz x.1 ≤ 63 := by
  have e : plOf N R = min ((parts N R).map fun x => Tz.plXz x.1).sum cap := by
    unfold plOf places parts
    rw [rightB_true h, if_pos rfl, List.map_map]
    congr 2
    refine List.map_congr_left (fun p hp => ?_)
    have := h.rts p.1 (List.mem_map_of_mem hp)
    obtain ⟨t, ht, hr⟩ := is_of_low h.low p.1.toNat (by omega)
    simp only [Function.comp]
    rw [← hr, tr_of ht]
    exact Tz.pl_Xz h.snd t ht
  intro x hx
  have h1 := sum_mem (List.mem_map_of_mem (f := fun x : X × Bool => Tz.plXz x.1) hx)
  unfold cap at e
  omega
noncomputable def offP (N : List Nd) (R : List (Int × Bool)) (i : Nat) : Nat := (Sp.md ((parts N R).take i)).s.length
theorem part_facts {N : List Nd} {R : List (Int × Bool)} (hR : Right N R) (hp : plOf N R ≤ 63) {i : Nat} (hi : i < R.length) : ∃ (k n : Nat) (t : T), (R.getD i default).1 = (k : Int) ∧ Is N t ∧ t.root = k ∧ Sp.plL (abs N t) = n ∧ offP N R (i + 1) = offP N R i + n ∧ offP N R i + n ≤ 63 ∧ offP N R i + n ≤ plOf N R ∧
    bits .andNot .u64 (((Sp.md (parts N R)).fi.getD i 0 : Nat) : Int) ((((2 ^ n - 1) <<< offP N R i : Nat)) : Int) = 0 ∧ bits .andNot .u64 (((Sp.md (parts N R)).la.getD i 0 : Nat) : Int) ((((2 ^ n - 1) <<< offP N R i : Nat)) : Int) = 0 ∧
    ∀ k, offP N R i ≤ k → k < offP N R i + n → bits .andNot .u64 (((Sp.md (parts N R)).f.getD k 0 : Nat) : Int) ((((2 ^ n - 1) <<< offP N R i : Nat)) : Int) = 0 := by
  have hrt := hR.rts (R.getD i default).1 (List.mem_map.2 ⟨_, (by rw [List.getD_eq_getElem?_getD, List.getElem?_eq_getElem hi]; exact List.getElem_mem hi), rfl⟩)
  obtain ⟨k, hk⟩ : ∃ k : Nat, (R.getD i default).1 = k := ⟨(R.getD i default).1.toNat, by omega⟩
  obtain ⟨t, ht, htr⟩ := is_of_low hR.low k (by omega)
  have e1 : tr N k = t := by rw [← htr]; exact tr_of ht
  have hpt := parts_take N R i hi
  rw [hk, Int.toNat_natCast, e1] at hpt
  have hpl : (parts N R).length = R.length := by unfold parts; rw [List.length_map]
  have hat := Sp.md_at (parts N R) i _ (by omega) hpt
  have hm : (abs N t, (R.getD i default).2) ∈ parts N R := List.mem_of_mem_take (i := i + 1) (by rw [hpt]; exact List.mem_append_right _ (List.mem_singleton.2 rfl))
  have hs := part_small hR hp _ hm
  simp only at hs
  have hlen := Sp.mk_len (abs N t) hs
  have hpe := Sp.plL_eq (abs N t) hs
  have hle := hat.le
  rw [of_len hR hp] at hle
  simp only at hle hat
  have hok := ok_mk (abs N t)
  have hn : (mk (abs N t)).s.length = Sp.plL (abs N t) := by rw [hlen, hpe]
  have hf := hat.fi
  have hl := hat.la
  have hnx := hat.next
  simp only at hf hl hnx
  have h1 := hok.fi
  have h2 := hok.la
  have h3 := hok.fol
  have h4 := hat.fol
  simp only at h4
  rw [hn] at hnx hle h1 h2 h3 h4
  refine ⟨k, _, t, hk, ht, htr, rfl, hnx, by unfold offP; omega, hle, ?_, ?_, fun j hj hj2 => ?_⟩
  · rw [hf]; exact off_mask h1 (by omega)
  · rw [hl]; exact off_mask h2 (by omega)
  · unfold offP at *
    have e2 := h4 (j - (Sp.md ((parts N R).take i)).s.length) (by omega)
    rw [show (Sp.md ((parts N R).take i)).s.length + (j - (Sp.md ((parts N R).take i)).s.length) = j from by omega] at e2
    rw [e2]
    refine off_mask (h3 _ ?_) (by omega)
    have hlt : j - (Sp.md ((parts N R).take i)).s.length < (mk (abs N t)).f.length := by rw [hok.len, hn]; omega
    rw [List.getD_eq_getElem?_getD, List.getElem?_eq_getElem hlt]
    exact List.getElem_mem hlt
theorem off_zero (N : List Nd) (R : List (Int × Bool)) : offP N R 0 = 0 := rfl
theorem off_all {N : List Nd} {R : List (Int × Bool)} (hR : Right N R) (hp : plOf N R ≤ 63) : offP N R R.length = plOf N R := by
  unfold offP
  rw [List.take_of_length_le (by unfold parts; rw [List.length_map]; exact Nat.le_refl _)]
  exact of_len hR hp
end Go.Proofs.YtojndkdhjhcphaaDoor
