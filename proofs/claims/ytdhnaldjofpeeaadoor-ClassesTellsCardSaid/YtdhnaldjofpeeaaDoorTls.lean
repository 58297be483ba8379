/- The law ClassesTells, walked. -/
import Derived.Test.YtdhnaldjofpeeaaDoorAw2
import Derived.Test.YtdhnaldjofpeeaaDoorRrf
namespace Go.Proofs.YtdhnaldjofpeeaaDoor
open Go.RowKit Sets Cls
theorem info4 : (Tryd.prog.info? 30).map (fun i => (i.zero, i.size, i.bytes)) = some (some (.agg #[.int .u64 0, .int .u64 0, .int .u64 0, .int .u64 0]), 4, 32) := by kernel_rfl
theorem wpList_append_set4 {ops : Array Oper} {rest : List Oper} {o : Oper} {a : Act} {w : World} {Q : Exit → Act → World → Prop} (hgd : o.guard = none) (s x : Operand)
    (ho : o.op = .call { callee := .builtin .append, args := #[s, x], argTypes := #[40, 40] }) (base : Nat) (v : Value) (L : List Nat) (S : Nat) (hs : a.eval s = v)
    (hown : w.ownsRow base 30 4 v L.length (setsL L)) (hx : a.eval x = .slice (some ⟨w.heap.size, 0, none⟩) 1 1) (hD : L.length ≤ 1000) (hbase : base ≤ w.heap.size)
    (h : ∀ v' w', w'.ownsRow base 30 4 v' (L ++ [S]).length (setsL (L ++ [S])) → Below base w w' → wpList Tryd.prog ops Q rest (a.put o.dst v') w') :
    wpList Tryd.prog ops Q (o :: rest) a (w.alloc (.cells #[.int .u64 (wd S 0), .int .u64 (wd S 1), .int .u64 (wd S 2), .int .u64 (wd S 3)] 30)) := by
  obtain ⟨i0, hi, hz0, hz1, hz2⟩ := info_parts info4
  refine wpList_append_own _ hgd s x 40 ho base 30 i0 (.agg #[.int .u64 0, .int .u64 0, .int .u64 0, .int .u64 0]) 4 32 Tryd.underlying40 hi hz0 hz1 hz2 rfl (by decide) v _ _ hs (hown.alloc _) ⟨w.heap.size, 0, none⟩ 1 1 (set4 S) hx rfl ?_ ?_ ?_ ?_ ?_ ?_
  · intro j u hj
    rw [Addr.add_lit, Nat.zero_add, cell_of_row _ _ _ _ _ _ (heap_alloc_new w _)]
    show (#[Value.int .u64 (wd S 0), .int .u64 (wd S 1), .int .u64 (wd S 2), .int .u64 (wd S 3)].toList.toArray)[j]? = some u
    rw [List.getElem?_toArray]; exact hj
  · intro u hu
    simp [set4] at hu
    rcases hu with rfl | rfl | rfl | rfl <;> rfl
  · unfold maxLen; omega
  · omega
  · simp; omega
  · intro v' w' h1 h2 _
    refine h v' w' ?_ (((Below.refl _ _).alloc hbase _).grown h2 (by simp; omega) (fun j hj => (hown.lt j hj).1))
    rw [show setsL (L ++ [S]) = setsL L ++ set4 S from by unfold setsL; simp, List.length_append]
    exact h1
theorem owns_sets4 {w : World} {B : Nat} {v : Value} {L : List Nat} (h : w.ownsRow B 30 4 v L.length (setsL L)) : Rows4 w v L := by
  rcases h.2 with ⟨h1, h2⟩ | ⟨g, cap, cur, h1, -, h3, -, -, -, h4⟩
  · exact ⟨none, 0, by rw [h1, h2], fun i hi => by omega⟩
  · refine ⟨_, cap, h1, fun i hi => ⟨g, rfl, fun q hq => ?_⟩⟩
    rw [cell_of_row w g _ _ _ _ h3, ← Array.getElem?_toList]
    have := setsL_get L i q hi hq
    rw [← h4, List.getElem?_take_of_lt (by have := (List.getElem?_eq_some_iff.1 this).1; rw [h4, setsL_length] at this; omega)] at this
    exact this
theorem Rows4.kept {w w' : World} {v : Value} {L : List Nat} (h : Rows4 w v L) (hb : Below w.heap.size w w') : Rows4 w' v L := by
  obtain ⟨a, cap, e, hc⟩ := h
  refine ⟨a, cap, e, fun i hi => ?_⟩
  obtain ⟨b, e2, hq⟩ := hc i hi
  exact ⟨b, e2, fun q hq4 => (hb.cell (World.block_lt_of_cell? _ _ (hq q hq4))).trans (hq q hq4)⟩
set_option maxHeartbeats 6400000 in
set_option maxRecDepth 100000 in
theorem tells_any (v : Value) (L : List Nat) (w : World) (hv : SetsIn w v L) (hT : Tab w) (hg : 0 < w.heap.size) :
    Calls Tryd.prog 4 #[v] w fun e w' => e = .returned (.bool true) ∧ Below w.heap.size w w' := by
  have hv' := hv
  obtain ⟨hLm, a, cap, rfl, hcap, hvc⟩ := hv'
  unfold maxLen at hLm
  by_cases h40 : 40 < L.length
  · have HT := Lib.hid hT
    clear hvc
    go_enter Tryd.func4, Tryd.ntmps4
    go_wp2_with (go_at_call 17; refine (awake_any _ HT.out hg).mono ?_; rintro e w' ⟨rfl, hb⟩)
    go_ret
    exact ⟨rfl, hb⟩
  · have hL40 : L.length ≤ 40 := by omega
    have hd40 : decide ((40 : Int) < (L.length : Int)) = false := decide_eq_false (by omega)
    have hz := zeroP
    have hzi := zeroI
    have HTw := Lib.hid hT
    clear hT
    go_enter Tryd.func4, Tryd.ntmps4
    go_wp2
    go_loopw [3, 4] (fun m i wr => ∃ k : Nat, i = .int .i64 k ∧ k ≤ L.length ∧ wr.ownsRow w.heap.size 30 4 m (L.take k).length (setsL (L.take k)) ∧ Below w.heap.size w wr) (fun _ i _ => (L.length - intOf i).toNat)
    case atStart => exact ⟨0, rfl, by omega, by simpa [setsL] using World.ownsRow_nil w w.heap.size 30 4, Below.refl _ _⟩
    case round =>
      obtain ⟨k, rfl, hk, hO, hB⟩ := hrel
      by_cases hkl : k < L.length
      · obtain ⟨b, o, rfl, hq⟩ := hvc k hkl
        have q0 := (hB.cell (World.block_lt_of_cell? _ _ (hq 0 (by omega)))).trans (hq 0 (by omega))
        have q1 := (hB.cell (World.block_lt_of_cell? _ _ (hq 1 (by omega)))).trans (hq 1 (by omega))
        have q2 := (hB.cell (World.block_lt_of_cell? _ _ (hq 2 (by omega)))).trans (hq 2 (by omega))
        have q3 := (hB.cell (World.block_lt_of_cell? _ _ (hq 3 (by omega)))).trans (hq 3 (by omega))
        have HT' := Lib.hid (take_snoc L k hkl)
        have HLn := Lib.hid (take_len L k hk)
        have hdk : decide ((k : Int) < (L.length : Int)) = true := decide_eq_true (by omega)
        have hwB := hB.size
        clear hq hv hvc
        generalize L.getD k 0 = S at *
        rw [Nat.add_zero] at q0
        go_wp2_with (refine wpList_append_set4 rfl (.tmp 19) (.tmp 24) rfl w.heap.size _ (L.take k) S rfl hO (by simp [Act.eval]) (by rw [HLn.out]; omega) hwB ?_; intro v' w' hO' hb')
        exact ⟨⟨k + 1, by go_num, by omega, by rw [HT'.out]; exact hO', hB.trans hb'⟩, by simp [intOf]; omega⟩
      · have hkL : k = L.length := by omega
        subst hkL
        rw [List.take_length] at hO
        have hM := owns_sets4 hO
        have hv1 := hv.kept hB
        obtain ⟨w0, rfl⟩ : ∃ x : World, x = wr := ⟨_, rfl⟩
        clear hO hv hvc hk hkl
        go_wp2_with fail
        refine (Refine_any _ L _ hv1 (by omega)).mono ?_
        rintro e w1 ⟨rfl, hb1⟩
        have hM1 := hM.kept hb1
        have hB1 := hB.trans (hb1.mono hB.size)
        have hE := same_eqv L
        have hP1 : PartAt (w1.alloc (.cells (partC (fun _ => 0) 0) 24)) w1.heap.size (fun _ => 0) 0 := PartAt.new w1 _ _
        have hP2 := PartAt.new w1 (cls (same L)) (nh (same L) 256 : Nat)
        have hb2 : Below w1.heap.size w1 (w1.alloc (.cells (partC (cls (same L)) (nh (same L) 256 : Nat)) 24)) := (Below.refl _ _).alloc (Nat.le_refl _) _
        have hsr := World.setRow_alloc_new w1 (partC (fun _ => 0) 0) (partC (cls (same L)) (nh (same L) 256 : Nat)) 24
        have hl2 := hP2.lt
        generalize w1.alloc (.cells (partC (cls (same L)) (nh (same L) 256 : Nat)) 24) = w2 at *
        have hM2 := hM1.kept hb2
        have hB2 := hB1.trans (hb2.mono hB1.size)
        clear hM1 hb2 hb1 hv1 hM
        go_wp2_with (refine wpList_store_row rfl 24 (.tmp 5) (.tmp 27) rfl w1.heap.size (partC (cls (same L)) (nh (same L) 256 : Nat)) rfl rfl 24 (partC (fun _ => 0) 0) hP1 (sizeP _ _) (by rw [partC_size, partC_size]) (partC_one _ _) ?_; rw [hsr])
        refine (ref_any _ L _ hM2 (by omega)).mono ?_
        rintro e w3 ⟨rfl, hb3⟩
        have hP3 := hP2.kept hb3 hl2
        have hB3 := hB2.trans (hb3.mono hB2.size)
        have hl3 := hP3.lt
        have hI1 : IntsAt (w3.alloc (.cells (arrI fun _ => 0) 41)) w3.heap.size (fun _ => 0) := heap_alloc_new w3 _
        have hI2 : IntsAt (w3.alloc (.cells (arrI fun c => (cls (same L) c : Int)) 41)) w3.heap.size (fun c => (cls (same L) c : Int)) := heap_alloc_new w3 _
        have hsi := World.setRow_alloc_new w3 (arrI fun _ => 0) (arrI fun c => (cls (same L) c : Int)) 41
        have hb4 : Below w3.heap.size w3 (w3.alloc (.cells (arrI fun c => (cls (same L) c : Int)) 41)) := (Below.refl _ _).alloc (Nat.le_refl _) _
        generalize w3.alloc (.cells (arrI fun c => (cls (same L) c : Int)) 41) = w4 at *
        have hP4 := hP3.kept hb4 hl3
        have hB4 := hB3.trans (hb4.mono hB3.size)
        have cN := hP4.cellN
        have hl4 := hP4.lt
        have hl4' := hI2.lt
        clear hb3 hP1 hP2 hP3 hsr hM2 hb4 hl2 hl3
        go_wp2_with (refine wpList_store_row rfl 41 (.tmp 6) (.tmp 31) rfl w3.heap.size (arrI fun c => (cls (same L) c : Int)) rfl rfl 41 (arrI fun _ => 0) hI1 (sizeI _) (by rw [arrI_size, arrI_size]) (arrI_one _) ?_; rw [hsi])
        have hri := right_any (cls (same L)) (nh (same L) 256 : Nat) w4 (fun c hc => Nat.lt_of_lt_of_le (cls_in L c hc) (nh_le256 L))
        rw [right_same L] at hri
        have HRI := Lib.hid hri
        have hof : ∀ c, c < 256 → cls (same L) c < 256 := fun c hc => Nat.lt_of_lt_of_le (cls_in L c hc) (nh_le256 L)
        have hnl := nh_le256 L
        clear hri hI1 hsi hz hzi hE
        generalize nh (same L) 256 = N at *
        generalize cls (same L) = of at *
        go_wp2_with fail
        refine wp_load_row 24 (.tmp 5) rfl w1.heap.size rfl 24 (partC of N) (0, 0) _ hP4 Tryd.underlying24 rfl (sizeP _ _) ?_
        obtain ⟨P0, hP0⟩ : ∃ P0, P0 = w1.heap.size := ⟨_, rfl⟩
        obtain ⟨O0, hO0⟩ : ∃ O0, O0 = w3.heap.size := ⟨_, rfl⟩
        rw [← hP0] at hP4 cN hl4 ⊢
        rw [← hO0] at hI2 hl4' ⊢
        clear hP0 hO0 hB hB1 hB2 hB3
        go_wp2_with (go_at_call 15; refine HRI.out.mono ?_; rintro e w5 ⟨rfl, hb5⟩; have hP5 := hP4.kept hb5 hl4; have hI5 := hI2.kept hb5 hl4'; have hB5 := hB4.trans (hb5.mono hB4.size); have hl5 := hP5.lt; have hl5' := hI5.lt; clear hb5)
        clear hP4 hI2 HRI cN hl4 hl4' hB4
        go_loopw [8] (fun i wr => ∃ c : Nat, i = .int .i64 c ∧ c ≤ 256 ∧ Below w5.heap.size w5 wr) (fun i _ => (256 - intOf i).toNat)
        case atStart => exact ⟨0, rfl, by omega, Below.refl _ _⟩
        case round =>
          obtain ⟨c, rfl, hc, hb⟩ := hrel
          by_cases hcl : c < 256
          · have hdc : decide ((c : Int) < 256) = true := decide_eq_true (by omega)
            have pc := (hb.cell (p := ⟨P0, c, none⟩) hl5).trans (hP5.cell c hcl)
            have ic := (hb.cell (p := ⟨O0, c, none⟩) hl5').trans (hI5.cell c hcl)
            have hp : P0 < wr.heap.size := Nat.lt_of_lt_of_le hl5 hb.size
            have ho : O0 < wr.heap.size := Nat.lt_of_lt_of_le hl5' hb.size
            have hx := hof c hcl
            have hne : ((of c : Int) != (of c : Int)) = false := by simp
            go_wp2
            refine region_mix [(false, 0), (false, 1), (false, 2), (false, 3), (false, 4), (false, 5), (false, 6), (false, 7)] (fun w' => Below wr.heap.size wr w') (by kernel_rfl) (by kernel_rfl) ((Below.refl _ _).drew) ?_
            simp only [planOps, List.map_cons, List.map_nil, List.getD_cons_zero, List.getD_cons_succ, List.length_cons, List.length_nil, List.drop_succ_cons, List.drop_zero]
            refine mix_seg (seg := [_, _, _, _, _, _, _, _]) (rest := []) rfl ((Below.refl _ _).drew) ?_
            intro ι hι F hF
            have f0 := fun n => ((hF n).cell (p := ⟨P0, c, none⟩) hp).trans pc
            have f1 := fun n => ((hF n).cell (p := ⟨O0, c, none⟩) ho).trans ic
            repeat (go_big_quiet_step (fail))
            refine wpQuiet_nil ?_
            clear f0 f1 hF hι F
            show wpList _ _ _ _ _ _
            go_wp2
            refine NoPanic.normal ?_
            go_wp2
            exact ⟨⟨c + 1, by go_num, by omega, hb.drew⟩, by simp [intOf]; omega⟩
          · have hB6 := hB5.trans (hb.mono hB5.size)
            have HT6 := Lib.hid (HTw.out.below hB6 hg)
            have hg6 := Nat.lt_of_lt_of_le hg hB6.size
            have hc' : c = 256 := by omega
            subst hc'
            go_wp2_with (go_at_call 17; refine (awake_any _ HT6.out hg6).mono ?_; rintro e w' ⟨rfl, hb7⟩)
            go_ret
            exact ⟨rfl, hB6.trans (hb7.mono hB6.size)⟩
end Go.Proofs.YtdhnaldjofpeeaaDoor
