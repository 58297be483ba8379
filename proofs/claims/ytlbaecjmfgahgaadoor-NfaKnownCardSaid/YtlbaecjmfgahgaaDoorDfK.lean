/- nfa.Sets: the sets of a machine's spots, each once. -/
import Derived.Test.YtlbaecjmfgahgaaDoorPsC
import Derived.Test.YtlbaecjmfgahgaaDoorPsA
namespace Go.Proofs.YtlbaecjmfgahgaaDoor
open Go.RowKit Sets Nf Cls Df
namespace DfK
def ents : Nat → List Nat → List MapEntry
  | _, [] => []
  | i, k :: l => { key := .agg (setC k), val := .agg #[], born := i } :: ents (i + 1) l
theorem ents_length : ∀ (l : List Nat) (i : Nat), (ents i l).length = l.length
  | [], _ => rfl
  | _ :: l, i => by simp [ents, ents_length l (i + 1)]
theorem ents_snoc (k : Nat) : ∀ (l : List Nat) (i : Nat), ents i (l ++ [k]) = ents i l ++ [{ key := .agg (setC k), val := .agg #[], born := i + l.length }]
  | [], i => by simp [ents]
  | a :: l, i => by
    simp only [List.cons_append, ents, ents_snoc k l (i + 1), List.length_cons]
    rw [show i + 1 + l.length = i + (l.length + 1) from by omega]
theorem checkS (em : Bool) (x : Nat) (w : World) : (Instr.checkKey em 10000 39 (.agg (setC x))).run Tryd.prog w = .ok () w := by kernel_rfl
theorem eqSS (x y : Nat) (hx : x < 2 ^ 256) (hy : y < 2 ^ 256) (w : World) : (Op.equal 39 (.agg (setC x)) (.agg (setC y))).run Tryd.prog w = .ok (decide (x = y)) w := by
  rw [← beq_w hx hy]
  exact eqSet _ _ _ _ _ _ _ _ w
theorem find_ask (k : Nat) (hk : k < 2 ^ 256) (w : World) : ∀ (l : List Nat) (i : Nat), (∀ x ∈ l, x < 2 ^ 256) → (Instr.findAsking 39 (.agg (setC k)) (ents i l) i).run Tryd.prog w = .ok (if k ∈ l then some (i + ix l k, Value.agg #[]) else none) w
  | [], i, _ => by simp [ents, Instr.findAsking]
  | q :: l, i, hl => by
    have hq := hl q (List.mem_cons_self ..)
    simp only [ents, Instr.findAsking, Sem.run_bind]
    rw [eqSS k q hk hq w]
    simp only [Result.andThen_ok, Sem.run_ite, Sem.run_pure]
    have ih := find_ask k hk w l (i + 1) (fun x hx => hl x (List.mem_cons_of_mem _ hx))
    by_cases h : k = q
    · subst h
      simp [ix]
    · rw [if_neg (by simpa using h), ih]
      have h2 : ¬ q = k := fun e => h e.symm
      have e1 : ix (q :: l) k = ix l k + 1 := by show (if q = k then 0 else ix l k + 1) = _; rw [if_neg h2]
      rw [e1]
      by_cases hm : k ∈ l
      · rw [if_pos hm, if_pos (List.mem_cons_of_mem _ hm), show i + 1 + ix l k = i + (ix l k + 1) from by omega]
      · rw [if_neg hm, if_neg (by simp [h, hm])]
theorem find_key (k : Nat) (hk : k < 2 ^ 256) (w : World) (l : List Nat) (hl : ∀ x ∈ l, x < 2 ^ 256) : (Instr.findKey 39 (.agg (setC k)) (ents 0 l)).run Tryd.prog w = .ok (if k ∈ l then some (ix l k, Value.agg #[]) else none) w := by
  unfold Instr.findKey
  simp only [Sem.run_bind, run_underlying Tryd.underlying39, Result.andThen_ok]
  have h := find_ask k hk w l 0 hl
  simp only [Nat.zero_add] at h
  cases l with
  | nil => simp [ents, Instr.findNow]
  | cons q l =>
    have : ∀ d, Instr.findNow (.array d 37) (.agg (setC k)) (ents 0 (q :: l)) 0 = none := by
      simp [ents, Instr.findNow, Instr.sameNow]
    rw [this]
    exact h
structure MapAt (w : World) (g : Nat) (l : List Nat) : Prop where
  row : w.heap[g]? = some (.map (ents 0 l).toArray l.length)
  ok : ∀ x ∈ l, x < 2 ^ 256
theorem MapAt.lt {w : World} {g : Nat} {l : List Nat} (h : MapAt w g l) : g < w.heap.size := (Array.getElem?_eq_some_iff.1 h.row).1
theorem MapAt.of {w w' : World} {g : Nat} {l : List Nat} (h : MapAt w g l) (e : w'.heap[g]? = w.heap[g]?) : MapAt w' g l := ⟨e.trans h.row, h.ok⟩
theorem MapAt.made (w : World) : MapAt (w.alloc (.map #[] 0)) w.heap.size [] := ⟨heap_alloc_new w _, fun x hx => by cases hx⟩
theorem zeroE (w : World) : (zeroValue 67).run Tryd.prog w = .ok (.agg #[]) w := by kernel_rfl
theorem MapAt.look {w : World} {g : Nat} {l : List Nat} (h : MapAt w g l) (k : Nat) (hk : k < 2 ^ 256) :
    (Instr.lookup 66 (.map (some g)) (.agg (setC k)) true).run Tryd.prog w =
      .ok (.tuple #[.agg #[], .bool (decide (k ∈ l))]) w := by
  unfold Instr.lookup
  have hc := fun em => checkS em k w
  have hf := find_key k hk w l h.ok
  have hz := zeroE w
  simp only [Sem.run_bind, run_underlying Tryd.underlying66, Result.andThen_ok, getObj_run h.row, Sem.run_pure, hc, hf]
  by_cases hm : k ∈ l
  · simp [hm]
  · simp [hm, hz]
theorem MapAt.put {w : World} {g : Nat} {l : List Nat} (h : MapAt w g l) (k : Nat) (hk : k < 2 ^ 256) (hn : k ∉ l) :
    ∃ w', (Instr.mapUpdate 66 (.map (some g)) (.agg (setC k)) (.agg #[])).run Tryd.prog w = .ok () w' ∧ MapAt w' g (l ++ [k]) ∧ But g w w' := by
  have hc := fun em => checkS em k w
  have hf := find_key k hk w l h.ok
  rw [if_neg hn] at hf
  have hg := h.row
  refine ⟨ChangeMaps.setBlock w g (.map ((ents 0 l).toArray.push { key := .agg (setC k), val := .agg #[], born := l.length }) (l.length + 1)), ?_, ⟨?_, ?_⟩, ⟨rfl, rfl, rfl, by simp [ChangeMaps.setBlock], fun i _ hi => ChangeMaps.heap_setBlock_other hg _ hi⟩⟩
  · unfold Instr.mapUpdate
    simp only [Sem.run_bind, run_underlying Tryd.underlying66, Result.andThen_ok, getObj_run hg, hc, hf]
    exact MapKept.run_setObj_map _ hg
  · rw [ChangeMaps.heap_setBlock_same hg _, ents_snoc]
    simp
  · intro x hx
    rcases List.mem_append.1 hx with hx | hx
    · exact h.ok x hx
    · rw [List.mem_singleton] at hx; rw [hx]; exact hk
/-- The sets of m's spots, of the first k, each once. -/
def stTo (m : Mc) (k : Nat) : List Nat := puts (stN m) [] k
set_option maxHeartbeats 6400000 in
set_option maxRecDepth 100000 in
theorem nsets_any (x : Ma) (m : Mc) (w : World) (h : MAt w x m) (hf : Fine m) :
    Calls Tryd.prog 16 #[.agg (mc x m)] w fun e w' => ∃ a c, e = .returned (.slice a (stTo m m.sp.length).length c) ∧ w'.ownsRow w.heap.size 39 4 (.slice a (stTo m m.sp.length).length c) (stTo m m.sp.length).length (setsL (stTo m m.sp.length)) ∧ Below w.heap.size w w' := by
  have HM0 := Lib.hid h
  have HF := Lib.hid hf
  clear h hf
  have hmm := @run_makeMap Tryd.prog
  go_enter Tryd.func16, Tryd.ntmps16
  go_upto_region 3 with fail
  obtain ⟨s, hs⟩ : ∃ s, Hid (w.heap.size = s) := ⟨_, Lib.hid rfl⟩
  have hz1 : (w.alloc (.cells (mc x m) 27)).heap.size = w.heap.size + 1 := by simp
  have hal1 := (Below.refl w.heap.size w).alloc (Nat.le_refl _) (.cells (mc x m) 27)
  have hal2 := (Below.refl (w.alloc (.cells (mc x m) 27)).heap.size (w.alloc (.cells (mc x m) 27))).alloc (Nat.le_refl _) (.map #[] 0)
  have HX1 := Lib.hid ((BoxM.new w x m).kept hal2 (BoxM.new w x m).lt)
  have HG1 := Lib.hid (MapAt.made (w.alloc (.cells (mc x m) 27)))
  have HB1 := Lib.hid (hal1.trans (hal2.mono hal1.size))
  rw [hz1] at HG1
  clear hal1 hal2 hz1
  generalize (w.alloc (.cells (mc x m) 27)).alloc (.map #[] 0) = w1 at *
  rw [hs.out] at HX1 HG1 HB1 ⊢
  have c0 := HX1.out.c0
  go_upto_region 4 with fail
  clear c0 hmm
  have HO1 : Hid (w1.ownsRow s 39 4 (.slice none 0 0) (stTo m 0).length (setsL (stTo m 0))) := Lib.hid (World.ownsRow_nil _ _ _ _)
  go_loopw [3, 13] (fun v i wr => ∃ (j : Nat) (u : Value), v = u ∧ i = .int .i64 j ∧ j ≤ m.sp.length ∧ Hid (wr.ownsRow s 39 4 u (stTo m j).length (setsL (stTo m j))) ∧ Hid (MapAt wr (s + 1) (stTo m j)) ∧ Hid (BoxM wr s x m) ∧ Hid (Below s w wr)) (fun _ i _ => ((m.sp.length : Int) - intOf i).toNat)
  case atStart => exact ⟨0, _, rfl, rfl, Nat.zero_le _, HO1, HG1, HX1, HB1⟩
  case round =>
    clear HO1 HG1 HX1 HB1
    obtain ⟨j, v0, hvq, rfl, hj, HO, HG, HX, HB⟩ := hrel
    replace hvq := hvq.symm
    subst hvq
    generalize hwr : wr = w2 at *
    clear hwr wr w1
    by_cases hlt : j < m.sp.length
    · have hdd : decide ((j : Int) < (m.sp.length : Int)) = true := decide_eq_true (by omega)
      have hd2 : decide (j < m.sp.length) = true := decide_eq_true hlt
      have HJ := Lib.hid hlt
      have hjn : (j : Int) < (m.sp.length : Int) := by omega
      have HWJ : Hid (wrap64 ((j : Int) + 1) = ((j + 1 : Nat) : Int)) := Lib.hid (nat_wrap (by have := HF.out.sp; omega))
      obtain ⟨b, o, hsa, hrg⟩ := (HM0.out.kept (hs.out ▸ HB.out)).sp j hlt
      rw [hsa]
      have HRG := Lib.hid hrg
      have HSB := Lib.hid (HF.out.set _ (getD_mem (d := (0, 0)) hlt)).1
      have HPU : Hid (stTo m (j + 1) = put (stTo m j) (m.sp.getD j (0, 0)).1) := Lib.hid rfl
      have HLN : Hid ((stTo m j).length ≤ 1000) := Lib.hid (by
        have : ∀ k, (stTo m k).length ≤ k := fun k => by
          induction k with
          | zero => exact Nat.le_refl _
          | succ k ih =>
            show (put (stTo m k) (stN m k)).length ≤ k + 1
            by_cases hm : stN m k ∈ stTo m k
            · rw [put_old hm]; omega
            · rw [put_new hm, List.length_append, List.length_singleton]; omega
        have h1 := this j
        have h2 := HF.out.sp
        omega)
      generalize stTo m j = L at *
      generalize m.sp.getD j (0, 0) = S at *
      clear hsa hrg hlt
      go_upto_region 6 with (first
        | (refine wpList_load_spot rfl (.tmp 15) rfl b (o + j * 5) S rfl HRG.out ?_)
        | (refine wpList_store_spot rfl (.tmp 6) (.tmp 16) rfl S rfl rfl ?_; unfold row5))
      rw [show ∀ a : Act, a.put none undef = a from fun _ => rfl]
      have hal := (Below.refl w2.heap.size w2).alloc (Nat.le_refl _) (.cells #[.int .u64 (wd S.1 0), .int .u64 (wd S.1 1), .int .u64 (wd S.1 2), .int .u64 (wd S.1 3), .int .u8 S.2] 41)
      have HSW : Hid (s < w2.heap.size) := Lib.hid HX.out.lt
      have HSP : Hid ((w2.alloc (.cells #[.int .u64 (wd S.1 0), .int .u64 (wd S.1 1), .int .u64 (wd S.1 2), .int .u64 (wd S.1 3), .int .u8 S.2] 41)).heap[w2.heap.size]? = some (.cells #[.int .u64 (wd S.1 0), .int .u64 (wd S.1 1), .int .u64 (wd S.1 2), .int .u64 (wd S.1 3), .int .u8 S.2] 41 (0, 0))) := Lib.hid (heap_alloc_new w2 _)
      have HO3 := Lib.hid (own_stay HO.out hal)
      have HG3 := Lib.hid (HG.out.of (hal.block _ HG.out.lt))
      have HX3 := Lib.hid (HX.out.kept hal HX.out.lt)
      have HB3 := Lib.hid (HB.out.trans (hal.mono (Nat.le_of_lt HSW.out)))
      have HSL : Hid (w2.heap.size < (w2.alloc (.cells #[.int .u64 (wd S.1 0), .int .u64 (wd S.1 1), .int .u64 (wd S.1 2), .int .u64 (wd S.1 3), .int .u8 S.2] 41)).heap.size) := Lib.hid (by simp)
      clear hal HRG HO HG HX HB HSW
      obtain ⟨sb, hsb⟩ : ∃ sb, Hid (w2.heap.size = sb) := ⟨_, Lib.hid rfl⟩
      rw [hsb.out] at HSP HSL ⊢
      generalize w2.alloc (.cells #[.int .u64 (wd S.1 0), .int .u64 (wd S.1 1), .int .u64 (wd S.1 2), .int .u64 (wd S.1 3), .int .u8 S.2] 41) = w3 at *
      clear hsb w2
      have HRS : Hid (∀ W : World, W.heap[sb]? = w3.heap[sb]? → W.rangeAt sb 0 (setC S.1).toList) := Lib.hid (fun W hW j v hj => by
        have hj4 : j < 4 := by have := (List.getElem?_eq_some_iff.1 hj).1; simpa [setC] using this
        rw [Nat.zero_add, cell_of_row _ _ j _ _ _ (hW.trans HSP.out), ← hj]
        have : j = 0 ∨ j = 1 ∨ j = 2 ∨ j = 3 := by omega
        rcases this with rfl | rfl | rfl | rfl <;> rfl)
      have hlk := HG3.out.look S.1 HSB.out
      by_cases hm : S.1 ∈ L
      · rw [decide_eq_true hm] at hlk
        rw [put_old hm] at HPU
        clear hm
        have hal := (Below.refl w3.heap.size w3).alloc (Nat.le_refl _) (.cells #[] 67)
        have HO4 := Lib.hid (own_stay HO3.out hal)
        have HG4 := Lib.hid (HG3.out.of (hal.block _ HG3.out.lt))
        have HX4 := Lib.hid (HX3.out.kept hal HX3.out.lt)
        have HB4 := Lib.hid (HB3.out.trans (hal.mono (Nat.le_of_lt HX3.out.lt)))
        clear hal
        go_wp2_with (refine wpList_load_setm rfl _ rfl sb 0 S.1 rfl (HRS.out w3 rfl) ?_)
        go_roundw
        case rel => exact ⟨j + 1, _, rfl, by rw [HWJ.out], HJ.out, Lib.hid (by rw [HPU.out]; exact HO4.out), Lib.hid (by rw [HPU.out]; exact HG4.out), HX4, HB4⟩
        case measure => rw [HWJ.out]; exact meas9 HJ.out
      · rw [decide_eq_false hm] at hlk
        have HNM := Lib.hid hm
        rw [put_new hm] at HPU
        clear hm
        have hal := (Below.refl w3.heap.size w3).alloc (Nat.le_refl _) (.cells #[] 67)
        have HO4 := Lib.hid (own_stay HO3.out hal)
        have HG4 := Lib.hid (HG3.out.of (hal.block _ HG3.out.lt))
        have HX4 := Lib.hid (HX3.out.kept hal HX3.out.lt)
        have HB4 := Lib.hid (HB3.out.trans (hal.mono (Nat.le_of_lt HX3.out.lt)))
        have HS4 : Hid ((w3.alloc (.cells #[] 67)).heap[sb]? = w3.heap[sb]?) := Lib.hid (hal.block sb HSL.out)
        clear hal
        go_upto_region 8 with (refine wpList_load_setm rfl _ rfl sb 0 S.1 rfl (HRS.out w3 rfl) ?_)
        clear HO3 HG3 HX3 HB3 hlk
        generalize w3.alloc (.cells #[] 67) = w4 at *
        obtain ⟨w5, hrun, hG5, hbu5⟩ := HG4.out.put S.1 HSB.out HNM.out
        have hxl := HX4.out.lt
        have hsg : s ≠ s + 1 := by omega
        have HBU := Lib.hid hbu5
        have HG5 := Lib.hid hG5
        have HO5 : Hid (w5.ownsRow s 39 4 v0 L.length (setsL L)) := Lib.hid (own_kept HO4.out fun g hg => HBU.out.block g (HO4.out.lt g hg).2 (fun e => by
          obtain ⟨cs, hc⟩ := own_type HO4.out hg
          rw [e, HG4.out.row] at hc; cases hc))
        have HX5 : Hid (BoxM w5 s x m) := Lib.hid ⟨(HBU.out.block s hxl hsg).trans HX4.out.row⟩
        have HB5 := Lib.hid (But.below HB4.out HBU.out (by omega) (Nat.le_of_lt hxl))
        have HS5 : Hid (w5.heap[sb]? = w3.heap[sb]?) := Lib.hid ((HBU.out.block sb (Array.getElem?_eq_some_iff.1 (HS4.out.trans HSP.out)).1 (fun e => by
          have h1 := HS4.out.trans HSP.out
          rw [e, HG4.out.row] at h1; cases h1)).trans HS4.out)
        clear hG5 hbu5 hxl hsg
        go_upto_region 9 with (first
          | (refine wpList_load_setm rfl _ rfl sb 0 S.1 rfl (HRS.out w4 HS4.out) ?_)
          | (refine wpList_put rfl _ _ _ 66 rfl (.map (some (s + 1))) (.agg (setC S.1)) (.agg #[]) rfl rfl rfl hrun ?_))
        clear hrun HO4 HG4 HX4 HB4 HS4 HBU
        have HSW : Hid (s ≤ w5.heap.size) := Lib.hid (Nat.le_of_lt HX5.out.lt)
        go_wp2_with (first
          | (refine wpList_load_setm rfl _ rfl sb 0 S.1 rfl (HRS.out w5 HS5.out) ?_; unfold setC)
          | (refine wpList_push 43 39 (.agg #[.int .u64 0, .int .u64 0, .int .u64 0, .int .u64 0]) 4 32 Tryd.underlying43 infoS rfl (by decide) rfl (.tmp 30) (.tmp 33) rfl s v0 L.length (setsL L) rfl HO5.out (set4 S.1) _ rfl rfl (fun u hu => by simp [set4] at hu; rcases hu with rfl | rfl | rfl | rfl <;> rfl) rfl (Nat.le_trans HLN.out (by decide)) (by decide) HSW.out ?_; intro v2 w6 ho6 hb6 ha6; have HO6 := Lib.hid ho6; have HB6 := Lib.hid hb6; have HA6 := Lib.hid ha6; clear ho6 hb6 ha6))
        go_roundw
        case rel =>
          refine ⟨j + 1, _, rfl, by rw [HWJ.out], HJ.out, Lib.hid ?_, Lib.hid ?_, Lib.hid ⟨?_⟩, Lib.hid (HB5.out.trans HB6.out)⟩
          · rw [HPU.out, List.length_append, List.length_singleton, show setsL (L ++ [S.1]) = setsL L ++ set4 S.1 from by unfold setsL; simp]
            exact HO6.out
          · rw [HPU.out]
            refine HG5.out.of (HA6.out.block _ HG5.out.lt (fun e => ?_))
            obtain ⟨cs, hc⟩ := own_type HO5.out e
            rw [HG5.out.row] at hc; cases hc
          · refine (HA6.out.block _ HX5.out.lt (fun e => ?_)).trans HX5.out.row
            obtain ⟨cs, hc⟩ := own_type HO5.out e
            rw [HX5.out.row] at hc; injection hc with hc; injection hc with _ hc; exact absurd hc (by decide)
        case measure => rw [HWJ.out]; exact meas9 HJ.out
    · have hdd : decide ((j : Int) < (m.sp.length : Int)) = false := decide_eq_false (by omega)
      have hd2 : decide (j < m.sp.length) = false := decide_eq_false hlt
      have HE : Hid (j = m.sp.length) := Lib.hid (by omega)
      rw [HE.out] at HO
      obtain ⟨a0, c0, rfl, -⟩ := own_slice HO.out
      clear hlt
      go_wp2_with fail
      go_ret
      exact ⟨a0, c0, rfl, by rw [hs.out]; exact HO.out, by rw [hs.out]; exact HB.out⟩
end DfK
end Go.Proofs.YtlbaecjmfgahgaaDoor
