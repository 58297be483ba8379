/- shibbolethref02.Refine: its walk. -/
import Derived.Test.YtdhnaldjofpeeaaDoorApt
import Derived.Test.YtdhnaldjofpeeaaDoorRef
import Derived.Test.YtdhnaldjofpeeaaDoorRre
namespace Go.Proofs.YtdhnaldjofpeeaaDoor
open Go.RowKit Sets Cls
/-- v is a slice of rows of four words: the sets L. -/
def Rows4 (w : World) (v : Value) (L : List Nat) : Prop :=
  ∃ a cap, v = .slice a L.length cap ∧ ∀ i, i < L.length → ∃ b, a = some ⟨b, 0, none⟩ ∧ ∀ q, q < 4 → w.cell? ⟨b, i * 4 + q, none⟩ = some (.int .u64 (wd (L.getD i 0) q))
theorem boolsL_length' (L : List Nat) : (boolsL L).length = L.length * 256 := boolsL_length L
theorem take_snoc (L : List Nat) (k : Nat) (h : k < L.length) : L.take (k + 1) = L.take k ++ [L.getD k 0] := by
  rw [List.take_succ_eq_append_getElem h, List.getD_eq_getElem?_getD, List.getElem?_eq_getElem h]; rfl
theorem take_len (L : List Nat) (k : Nat) (h : k ≤ L.length) : (L.take k).length = k := by rw [List.length_take]; omega
/-- The classes of the bytes below c. -/
def ptI (E : Nat → Nat → Bool) (c d : Nat) : Int := if d < c then (cls E d : Int) else 0
/-- The k-th head below c. -/
def hdc (E : Nat → Nat → Bool) (c k : Nat) : Nat := (heads E c).getD k 0
theorem hdc_spec (E : Nat → Nat → Bool) (c k : Nat) (h : k < nh E c) : hdc E c k < c ∧ head E (hdc E c k) = true ∧ nh E (hdc E c k) = k := by
  have hl : k < (heads E c).length := by rw [heads_length]; exact h
  have e : hdc E c k = (heads E c)[k] := by unfold hdc; rw [List.getD_eq_getElem?_getD, List.getElem?_eq_getElem hl]; rfl
  have hm := (mem_heads E c _).1 (List.getElem_mem hl)
  rw [e]
  exact ⟨hm.1, hm.2, heads_idx E c k hl⟩
/-- What the inner loop has stored for c, the first k heads being tried. -/
def kv (E : Nat → Nat → Bool) (c k : Nat) : Int := if head E c = false ∧ cls E c < k then (cls E c : Int) else -1
theorem kv_zero (E : Nat → Nat → Bool) (c : Nat) : kv E c 0 = -1 := by simp [kv]
theorem kv_hit (E : Nat → Nat → Bool) (hE : Eqv E) (c k : Nat) (h : k < nh E c) (hs : E (hdc E c k) c = true) : kv E c (k + 1) = k := by
  obtain ⟨h1, h2, h3⟩ := hdc_spec E c k h
  have hc : cls E c = k := by rw [← (cls_eq E hE _ _).2 hs, cls_head E hE _ h2, h3]
  have hh : head E c = false := by
    rw [Bool.eq_false_iff]
    intro hc'
    have := (head_iff E c).1 hc' _ h1
    rw [hs] at this; cases this
  unfold kv
  rw [if_pos ⟨hh, by omega⟩, hc]
theorem kv_miss (E : Nat → Nat → Bool) (hE : Eqv E) (c k : Nat) (h : k < nh E c) (hs : E (hdc E c k) c = false) : kv E c (k + 1) = kv E c k := by
  obtain ⟨h1, h2, h3⟩ := hdc_spec E c k h
  have hc : cls E c ≠ k := by
    intro e
    have := (cls_eq E hE (hdc E c k) c).1 (by rw [cls_head E hE _ h2, h3, e])
    rw [hs] at this; cases this
  unfold kv
  by_cases hk : head E c = false ∧ cls E c < k
  · rw [if_pos hk, if_pos ⟨hk.1, by omega⟩]
  · rw [if_neg hk, if_neg (fun h => hk ⟨h.1, by omega⟩)]
theorem kv_head (E : Nat → Nat → Bool) (c k : Nat) (h : head E c = true) : kv E c k = -1 := by simp [kv, h]
theorem kv_not (E : Nat → Nat → Bool) (hE : Eqv E) (c : Nat) (h : head E c = false) : kv E c (nh E c) = cls E c := by
  unfold kv; rw [if_pos ⟨h, cls_lt E hE c h⟩]
theorem i64s_get (l : List Nat) (k : Nat) (h : k < l.length) : (i64s l)[k]? = some (.int .i64 (l.getD k 0 : Nat)) := by
  unfold i64s
  rw [List.getElem?_map, List.getElem?_eq_getElem h, List.getD_eq_getElem?_getD, List.getElem?_eq_getElem h]; rfl
theorem i64s_length (l : List Nat) : (i64s l).length = l.length := by simp [i64s]
theorem owns_i64 {w : World} {B : Nat} {v : Value} {l : List Nat} (h : w.ownsRow B 3 1 v l.length (i64s l)) :
    ∃ a cap, v = .slice a l.length cap ∧ ∀ k, k < l.length → ∃ g, a = some ⟨g, 0, none⟩ ∧ B ≤ g ∧ g < w.heap.size ∧ w.cell? ⟨g, k, none⟩ = some (.int .i64 (l.getD k 0 : Nat)) := by
  rcases h.2 with ⟨h1, h2⟩ | ⟨g, cap, cur, h1, h2, h3, -, -, -, h4⟩
  · exact ⟨none, 0, by rw [h1, h2], fun i hi => by omega⟩
  · refine ⟨_, cap, h1, fun k hk => ⟨g, rfl, h2, (Array.getElem?_eq_some_iff.1 h3).1, ?_⟩⟩
    rw [cell_of_row w g _ _ _ _ h3, ← Array.getElem?_toList]
    have := i64s_get l k hk
    rw [← h4, List.getElem?_take_of_lt (by have := (List.getElem?_eq_some_iff.1 this).1; rw [h4, i64s_length] at this; omega)] at this
    exact this
theorem owns_set {w : World} {B e sz n : Nat} {v : Value} {xs : List Value} (h : w.ownsRow B e sz v n xs) (p : Addr) (hp : p.block < B) (u : Value) : (w.setCell p u).ownsRow B e sz v n xs := by
  obtain ⟨h1, h2⟩ := h
  refine ⟨h1, ?_⟩
  rcases h2 with h2 | ⟨g, cap, cur, h3, h4, h5, h6⟩
  · exact .inl h2
  · exact .inr ⟨g, cap, cur, h3, h4, by rw [heap_setCell_other _ _ _ _ (by omega)]; exact h5, h6⟩
theorem IntsAt.grown {w w' : World} {row : Option Nat} {B : Nat} {f : Nat → Int} (h : IntsAt w B f) (hg : w.grownBy w' row) (hne : some B ≠ row) : IntsAt w' B f := by
  have hl := h.lt
  unfold IntsAt at *; rw [hg.block B hl hne]; exact h
theorem ptI_next (E : Nat → Nat → Bool) (c d : Nat) : (if d = c then (cls E c : Int) else ptI E c d) = ptI E (c + 1) d := by
  unfold ptI
  by_cases h : d = c
  · subst h; simp
  · have : (d < c + 1) = (d < c) := by rw [eq_iff_iff]; omega
    simp only [h, if_false, this]
theorem results_cell_tmp {P : Program} {fn : Func} {p q : Tmp} {ty : TypeId} (h : fn.results = #[.cell p ty, .tmp q]) (tmps : Array Value) (w : World) (g : Nat) (t : TypeId) (cs : Array Value) (fr : Nat × Nat) (d : TypeDesc) (v : Value)
    (hp : tmps.getD p undef = .pointer (some ⟨g, 0, none⟩)) (hq : tmps.getD q undef = v) (hg : w.heap[g]? = some (.cells cs t fr))
    (hu : P.underlying ty = some d) (hd : (match d with | .struct _ | .array _ _ => true | _ => false) = true) (hi : (P.info? ty).map (·.size) = some cs.size) :
    (results fn tmps).run P w = .ok (.tuple #[.agg cs, v]) w := by
  have hp' : tmps[p]?.getD undef = .pointer (some ⟨g, 0, none⟩) := by simpa using hp
  have hq' : tmps[q]?.getD undef = v := by simpa using hq
  simp [results, h, hp', hq', asAddr, run_loadVar_row w g t ty cs fr d hg hu hd hi]
set_option maxHeartbeats 3200000 in
set_option maxRecDepth 100000 in
theorem ref_any (v : Value) (L : List Nat) (w : World) (hv : Rows4 w v L) (hL : L.length ≤ 1000) :
    Calls Tryd.prog 18 #[v] w fun e w' =>
      e = .returned (.tuple #[.agg (arrI fun c => (cls (same L) c : Int)), .int .i64 (nh (same L) 256 : Nat)]) ∧ Below w.heap.size w w' := by
  obtain ⟨a, cap, rfl, hc⟩ := hv
  have hz := zeroI
  have hE := same_eqv L
  go_enter Tryd.func18, Tryd.ntmps18
  go_wp2
  go_loopw [4, 5] (fun m i wr => ∃ k : Nat, i = .int .i64 k ∧ k ≤ L.length ∧ wr.ownsRow (w.heap.size + 1) 57 256 m (L.take k).length (boolsL (L.take k)) ∧ Below w.heap.size w wr ∧ IntsAt wr w.heap.size (fun _ => 0) ∧ w.heap.size + 1 ≤ wr.heap.size) (fun _ i _ => (L.length - intOf i).toNat)
  case atStart => exact ⟨0, rfl, by omega, by simpa [boolsL] using World.ownsRow_nil _ (w.heap.size + 1) 57 256, (Below.refl _ _).alloc (Nat.le_refl _) _, heap_alloc_new w _, by simp⟩
  case round =>
    obtain ⟨k, rfl, hk, hO, hB, hR, hS⟩ := hrel
    by_cases hkl : k < L.length
    · obtain ⟨b, rfl, hq⟩ := hc k hkl
      have q0 := (hB.cell (World.block_lt_of_cell? _ _ (hq 0 (by omega)))).trans (hq 0 (by omega))
      have q1 := (hB.cell (World.block_lt_of_cell? _ _ (hq 1 (by omega)))).trans (hq 1 (by omega))
      have q2 := (hB.cell (World.block_lt_of_cell? _ _ (hq 2 (by omega)))).trans (hq 2 (by omega))
      have q3 := (hB.cell (World.block_lt_of_cell? _ _ (hq 3 (by omega)))).trans (hq 3 (by omega))
      have HT := Lib.hid (take_snoc L k hkl)
      have HLn := Lib.hid (take_len L k hk)
      have hdk : decide ((k : Int) < (L.length : Int)) = true := decide_eq_true (by omega)
      clear hc hq
      generalize L.getD k 0 = S at *
      rw [Nat.add_zero] at q0
      go_wp2_with (first
        | (go_at_call 27; refine (mem_any S _).mono ?_; rintro e wm ⟨rfl, hbm⟩)
        | (refine wpList_buildRow rfl (.tmp 21) rfl S.testBit rfl ?_)
        | (refine wpList_append_row rfl (.tmp 16) (.tmp 22) rfl (w.heap.size + 1) u4 (L.take k) S rfl (owns_below hO hbm) rfl (by rw [HLn.out]; omega) (Nat.le_trans hS hbm.size) ?_; intro v' w' hO' hb'))
      have hb2 : Below w.heap.size w w' := (hB.trans (hbm.mono hB.size)).trans (hb'.mono (by omega))
      have hR2 : IntsAt w' w.heap.size (fun _ => 0) := (hR.kept hbm (by omega)).kept hb' (by omega)
      exact ⟨⟨k + 1, by go_num, by omega, by rw [HT.out]; exact hO', hb2, hR2, by have := hbm.size; have := hb'.size; omega⟩, by simp [intOf]; omega⟩
    · have hkL : k = L.length := by omega
      subst hkL
      rw [List.take_length] at hO
      clear hc hk hkl
      have hM := owns_bools hO
      clear hO
      go_wp2
      have hI0 : IntsAt (wr.alloc (.cells (arrI fun _ => 0) 41)) wr.heap.size (fun _ => 0) := heap_alloc_new wr _
      have hb0 : Below wr.heap.size wr (wr.alloc (.cells (arrI fun _ => 0) 41)) := (Below.refl _ _).alloc (Nat.le_refl _) _
      have hs0 : (wr.alloc (.cells (arrI fun _ => 0) 41)).heap.size = wr.heap.size + 1 := by simp
      generalize wr.alloc (.cells (arrI fun _ => 0) 41) = w0 at *
      obtain ⟨O, hOe⟩ : ∃ O, O = wr.heap.size := ⟨_, rfl⟩
      rw [← hOe] at hI0 hb0 hs0 hS ⊢
      have HO := Lib.hid hOe
      have hs1 : O + 1 ≤ w0.heap.size := by omega
      obtain ⟨wq, rfl⟩ : ∃ x : World, x = wr := ⟨_, rfl⟩
      have HMk : ∀ w', Below O wq w' → BoolRows w' u4 L := fun w' h => hM.kept (hOe ▸ h)
      clear hz hOe hs0
      go_loopw [7, 8] (fun lv i wi => ∃ c : Nat, i = .int .i64 c ∧ c ≤ 256 ∧ wi.ownsRow (O + 1) 3 1 lv (heads (same L) c).length (i64s (heads (same L) c)) ∧ IntsAt wi O (ptI (same L) c) ∧ Below O wq wi ∧ O + 1 ≤ wi.heap.size) (fun _ i _ => (256 - intOf i).toNat)
      case atStart => exact ⟨0, rfl, by omega, by simpa [heads, i64s] using World.ownsRow_nil w0 (O + 1) 3 1, hI0.congr (fun d _ => by simp [ptI]), hb0, hs1⟩
      case round =>
        obtain ⟨c, rfl, hc, hO, hI, hb, hsz⟩ := hrel
        by_cases hlt : c < 256
        · have hdk : decide ((c : Int) < 256) = true := decide_eq_true (by omega)
          have hcell := hI.cell c hlt
          have hfree := hI.free c
          obtain ⟨la, lcap, rfl, hlc⟩ := owns_i64 hO
          clear hlc
          go_wp2
          have hI1 := (hI.set c (-1)).congr (g := fun d => if d = c then kv (same L) c 0 else ptI (same L) c d) (fun d _ => by rw [kv_zero])
          have hO1 := owns_set hO ⟨O, c, none⟩ (by simp) (.int .i64 (-1))
          have hb1 := hb.setCell (p := ⟨O, c, none⟩) (Nat.le_refl _) (.int .i64 (-1))
          have hs1 : O + 1 ≤ (wr.setCell ⟨O, c, none⟩ (.int .i64 (-1))).heap.size := by simpa using hsz
          generalize wr.setCell ⟨O, c, none⟩ (.int .i64 (-1)) = w1 at *
          clear hI hO hcell hfree hb hsz hI0 hb0
          have HHL := Lib.hid (heads_length (same L) c)
          obtain ⟨N, HN⟩ : ∃ N, Hid (N = (heads (same L) c).length) := ⟨_, Lib.hid rfl⟩
          have hN256 : N ≤ 256 := by rw [HN.out, HHL.out]; have := nh_le (same L) c; omega
          rw [← HN.out] at hO1 ⊢
          go_loopw [9] (fun i wi => ∃ k : Nat, i = .int .i64 k ∧ k ≤ N ∧ IntsAt wi O (fun d => if d = c then kv (same L) c k else ptI (same L) c d) ∧ wi.ownsRow (O + 1) 3 1 (.slice la N lcap) N (i64s (heads (same L) c)) ∧ Below O wq wi ∧ O + 1 ≤ wi.heap.size) (fun i _ => (N - intOf i).toNat)
          case atStart => exact ⟨0, rfl, by omega, hI1, hO1, hb1, hs1⟩
          case round =>
            obtain ⟨k, rfl, hk, hI2, hO2, hb2, hs2⟩ := hrel
            by_cases hkl : k < N
            · obtain ⟨wi, rfl⟩ : ∃ x : World, x = wr := ⟨_, rfl⟩
              have hO2' := hO2
              rw [HN.out] at hO2'
              obtain ⟨a2, cap2, e2, hlc⟩ := owns_i64 hO2'
              obtain ⟨g, hg1, hg2, hg3, hg4⟩ := hlc k (by rw [← HN.out]; exact hkl)
              cases e2
              subst hg1
              obtain ⟨s1, -, s3⟩ := hdc_spec (same L) c k (by rw [← HHL.out, ← HN.out]; exact hkl)
              have hhit := fun h => kv_hit (same L) hE c k (by rw [← HHL.out, ← HN.out]; exact hkl) h
              have hmiss := fun h => kv_miss (same L) hE c k (by rw [← HHL.out, ← HN.out]; exact hkl) h
              have hg4' : wi.cell? ⟨g, k, none⟩ = some (.int .i64 (hdc (same L) c k : Nat)) := hg4
              have hap := apart_any u4 L (hdc (same L) c k) c wi (HMk _ hb2) (by omega) hlt hL
              have HH := Lib.hid hhit
              have HM := Lib.hid hmiss
              clear hlc hg4 hO2' hhit hmiss s3
              have hkN : decide ((k : Int) < (N : Int)) = true := decide_eq_true (by omega)
              have hlN : k < N := hkl
              cases hsm : same L (hdc (same L) c k) c
              · rw [hsm] at hap
                have hkv := HM.out hsm
                clear HH HM hsm
                generalize hdc (same L) c k = dk at *
                have HKV := Lib.hid hkv
                clear hkv
                go_wp2_with (go_at_call 28; refine hap.mono ?_; rintro e wa ⟨rfl, hba⟩; have hIa := hI2.kept hba (by omega); have hOa := owns_below hO2 hba)
                exact ⟨⟨k + 1, by go_num, by omega, by rw [HKV.out]; exact hIa, hOa, hb2.trans (hba.mono (by omega)), by have := hba.size; omega⟩, by simp [intOf]; omega⟩
              · rw [hsm] at hap
                have hkv := HH.out hsm
                clear HH HM hsm
                generalize hdc (same L) c k = dk at *
                have HKV := Lib.hid hkv
                clear hkv
                go_wp2_with (go_at_call 28; refine hap.mono ?_; rintro e wa ⟨rfl, hba⟩; have hIa := hI2.kept hba (by omega); have hOa := owns_below hO2 hba; have hca := hIa.cell c hlt; have hfa := hIa.free c)
                refine ⟨⟨k + 1, by go_num, by omega, (hIa.set c k).congr (fun d _ => ?_), owns_set hOa ⟨O, c, none⟩ (by simp) _, (hb2.trans (hba.mono (by omega))).setCell (p := ⟨O, c, none⟩) (Nat.le_refl _) _, by have := hba.size; simp; omega⟩, by simp [intOf]; omega⟩
                by_cases hd : d = c
                · rw [if_pos hd, if_pos hd, HKV.out]
                · simp only [hd, if_false]
            · have hkN : k = N := by omega
              subst hkN
              obtain ⟨wi, rfl⟩ : ∃ x : World, x = wr := ⟨_, rfl⟩
              have hci := hI2.cell c hlt
              rw [if_pos rfl] at hci
              clear hI1 hO1 hb1 hs1 hk hkl
              cases hh : head (same L) c
              · have hv := kv_not (same L) hE c hh
                rw [← HHL.out, ← HN.out] at hv
                rw [hv] at hci hI2
                have HD := Lib.hid (show heads (same L) (c + 1) = heads (same L) c from by rw [heads_succ, hh]; rfl)
                have hneg : decide ((cls (same L) c : Int) < 0) = false := decide_eq_false (by omega)
                clear hv
                go_wp2
                have hP := hI2.congr (fun d _ => ptI_next (same L) c d)
                exact ⟨⟨c + 1, by go_num, by omega, by rw [HD.out, ← HN.out]; exact hO2, hP, hb2, hs2⟩, by simp [intOf]; omega⟩
              · rw [kv_head (same L) c _ hh] at hci hI2
                have HD := Lib.hid (show heads (same L) (c + 1) = heads (same L) c ++ [c] from by rw [heads_succ, hh]; rfl)
                have HC := Lib.hid (cls_head (same L) hE c hh)
                have hfi := hI2.free c
                have hO3 : ∀ n, n = (heads (same L) c).length → wi.ownsRow (O + 1) 3 1 (.slice la k lcap) n (i64s (heads (same L) c)) → wi.ownsRow (O + 1) 3 1 (.slice la k lcap) (heads (same L) c).length (i64s (heads (same L) c)) := by rintro n rfl h; exact h
                have hO4 := owns_set (hO3 k HN.out hO2) ⟨O, c, none⟩ (by simp) (.int .i64 k)
                have hI4 := (hI2.set c k).congr (g := ptI (same L) (c + 1)) (fun d _ => by
                  rw [← ptI_next (same L) c d, HC.out, ← HHL.out, ← HN.out]
                  by_cases hd : d = c
                  · rw [if_pos hd, if_pos hd]
                  · simp only [hd, if_false])
                have hb4 := hb2.setCell (p := ⟨O, c, none⟩) (Nat.le_refl _) (.int .i64 k)
                have hs4 : O + 1 ≤ (wi.setCell ⟨O, c, none⟩ (.int .i64 k)).heap.size := by simpa using hs2
                have hlt4 : (heads (same L) c).length + 1 ≤ 17592186044416 := by rw [← HN.out]; omega
                clear hI2 hO2 hb2 hO3
                generalize heads (same L) c = D at *
                go_wp2_with (refine wpList_append_i64 rfl (.tmp 55) (.tmp 57) rfl (O + 1) (.slice la k lcap) D c rfl hO4 (by simp [Act.eval]) hlt4 hs4 ?_; intro v' w' hO5 hg5)
                have hI5 := hI4.grown hg5 (fun e => by have := (hO4.lt _ e.symm).1; omega)
                have hb5 : Below O wq w' := hb4.grown hg5 (by omega) (fun j hj => by have := (hO4.lt _ hj).1; omega)
                exact ⟨⟨c + 1, by go_num, by omega, by rw [HD.out]; exact hO5, hI5, hb5, Nat.le_trans hs4 hg5.size⟩, by simp [intOf]; omega⟩
        · have hc' : c = 256 := by omega
          subst hc'
          obtain ⟨la, lcap, rfl, -⟩ := owns_i64 hO
          have hR1 : IntsAt wr w.heap.size (fun _ => 0) := hR.kept hb (by omega)
          have HL' := Lib.hid (heads_length (same L) 256)
          have HB : Below w.heap.size w wr := hB.trans (hb.mono (by omega))
          have hI' : IntsAt wr O (fun c => (cls (same L) c : Int)) := hI.congr (fun d hd => by simp [ptI, hd])
          clear hI hO hlt hR hM hI0 hb0
          generalize (heads (same L) 256).length = N at *
          go_wp2_with (first
            | (refine wpList_load_row rfl 41 (.tmp 6) rfl O rfl 41 (arrI fun c => (cls (same L) c : Int)) (0, 0) _ hI' Tryd.underlying41 rfl (sizeI _) ?_)
            | (refine wpList_store_row rfl 41 (.tmp 2) _ rfl w.heap.size (arrI fun c => (cls (same L) c : Int)) rfl rfl 41 (arrI fun _ => 0) hR1 (sizeI _) (by rw [arrI_size, arrI_size]) (arrI_one _) ?_))
          have h3 : IntsAt (wr.setRow w.heap.size (arrI fun c => (cls (same L) c : Int))) w.heap.size (fun c => (cls (same L) c : Int)) := setRow_heap wr _ _ _ _ _ hR1
          refine bodyPost_ret (v := .tuple #[.agg (arrI fun c => (cls (same L) c : Int)), .int .i64 N]) (results_cell_tmp (p := 2) (q := 3) Tryd.results18 _ _ w.heap.size 41 _ (0, 0) _ _ rfl rfl h3 Tryd.underlying41 rfl (sizeI _)) rfl ⟨by rw [HL'.out], ?_⟩
          exact HB.trans ⟨rfl, rfl, rfl, by simp, fun k hk => setRow_other wr _ _ _ (by omega)⟩
end Go.Proofs.YtdhnaldjofpeeaaDoor
