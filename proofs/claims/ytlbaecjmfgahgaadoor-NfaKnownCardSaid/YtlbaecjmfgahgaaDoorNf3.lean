/- A set in a block of its own: add, group, groups. -/
import Derived.Test.YtlbaecjmfgahgaaDoorNf0
import Derived.Test.YtlbaecjmfgahgaaDoorBut
import Derived.Deep.Cut
import Derived.Deep.CutRange
import Derived.StillTailTactics
namespace Go.Proofs.YtlbaecjmfgahgaaDoor
open Go.RowKit Sets Nf
namespace Nf
theorem meas9 {j n : Nat} (h : j < n) : ((n : Int) - ((j + 1 : Nat) : Int)).toNat < ((n : Int) - (j : Int)).toNat := by omega
def setC (S : Nat) : Array Value := #[.int .u64 (wd S 0), .int .u64 (wd S 1), .int .u64 (wd S 2), .int .u64 (wd S 3)]
/-- A set lies in block B, and nothing else. -/
structure SetB (w : World) (B S : Nat) : Prop where
  row : w.heap[B]? = some (.cells (setC S) 39 (0, 0))
theorem SetB.lt {w : World} {B S : Nat} (h : SetB w B S) : B < w.heap.size := (Array.getElem?_eq_some_iff.1 h.row).1
theorem SetB.new (w : World) (S : Nat) : SetB (w.alloc (.cells (setC S) 39)) w.heap.size S := ⟨heap_alloc_new w _⟩
theorem zeroC : #[Value.int .u64 0, .int .u64 0, .int .u64 0, .int .u64 0] = setC 0 := by unfold setC; rw [wd_zero, wd_zero, wd_zero, wd_zero]; rfl
theorem SetB.of {w w' : World} {B S : Nat} (h : SetB w B S) (e : w'.heap[B]? = w.heap[B]?) : SetB w' B S := ⟨e.trans h.row⟩
theorem SetB.kept {w w' : World} {A B S : Nat} (h : SetB w B S) (hb : Below A w w') (hA : B < A) : SetB w' B S := h.of (hb.block _ hA)
theorem SetB.stay {w w' : World} {B S : Nat} (h : SetB w B S) (hb : Below w.heap.size w w') : SetB w' B S := h.kept hb h.lt
theorem SetB.but {w w' : World} {A B S : Nat} (h : SetB w B S) (hb : But A w w') (hA : B ≠ A) : SetB w' B S := h.of (hb.block _ h.lt hA)
theorem SetB.cell {w : World} {B S : Nat} (h : SetB w B S) {q : Nat} (hq : q < 4) : w.cell? ⟨B, q, none⟩ = some (.int .u64 (wd S q)) := by
  rw [cell_of_row w B q _ _ _ h.row]
  have : q = 0 ∨ q = 1 ∨ q = 2 ∨ q = 3 := by omega
  rcases this with rfl | rfl | rfl | rfl <;> rfl
theorem SetB.frozen {w : World} {B S : Nat} (h : SetB w B S) (q : Nat) : w.frozen? ⟨B, q, none⟩ = false := by
  unfold World.frozen?
  simp [h.row]
theorem setC_or (S k : Nat) (hk : k < 256) (q : Nat) (hq : k / 64 = q) : (setC S).setIfInBounds q (.int .u64 (wd (S ||| 2 ^ k) q)) = setC (S ||| 2 ^ k) := by
  have : q = 0 ∨ q = 1 ∨ q = 2 ∨ q = 3 := by omega
  unfold setC
  rcases this with rfl | rfl | rfl | rfl
  · rw [wd_keep _ k 1 (by omega), wd_keep _ k 2 (by omega), wd_keep _ k 3 (by omega)]; rfl
  · rw [wd_keep _ k 0 (by omega), wd_keep _ k 2 (by omega), wd_keep _ k 3 (by omega)]; rfl
  · rw [wd_keep _ k 0 (by omega), wd_keep _ k 1 (by omega), wd_keep _ k 3 (by omega)]; rfl
  · rw [wd_keep _ k 0 (by omega), wd_keep _ k 1 (by omega), wd_keep _ k 2 (by omega)]; rfl
theorem SetB.or {w : World} {B S k q : Nat} (h : SetB w B S) (hk : k < 256) (hq : k / 64 = q) : SetB (w.setCell ⟨B, q, none⟩ (.int .u64 (wd (S ||| 2 ^ k) q))) B (S ||| 2 ^ k) :=
  ⟨by rw [heap_setCell_same _ _ _ _ _ _ h.row, setC_or S k hk q hq]⟩
theorem sizeSet (S : Nat) : (Tryd.prog.info? 39).map (·.size) = some (setC S).size := by
  show _ = some 4
  kernel_rfl
theorem oneSet (S : Nat) : (setC S).all (·.oneCell') = true := by simp [setC, Value.oneCell']
theorem shl_one (k : Nat) : IntKind.u64.wrap (2 ^ ((k : Int) % 64).toNat) = (bitN k : Int) := by
  have := bitN_lt k
  have e : ((k : Int) % 64).toNat = k % 64 := by omega
  unfold bitN at *
  rw [e, IntKind.wrap_u64]
  have h2 : ((2 ^ (k % 64) : Nat) : Int) < 18446744073709551616 := by omega
  rw [Int.natCast_pow] at *
  exact Int.emod_eq_of_lt (Int.le_of_lt (Int.pow_pos (by decide))) h2
set_option maxHeartbeats 3200000 in
set_option maxRecDepth 100000 in
theorem add_any (B S k : Nat) (w : World) (h : SetB w B S) (hk : k < 256) :
    Calls Tryd.prog 40 #[.pointer (some ⟨B, 0, none⟩), .int .i64 k] w fun e w' => (∃ v, e = .returned v) ∧ SetB w' B (S ||| 2 ^ k) ∧ But B w w' := by
  have hq : k / 64 = 0 ∨ k / 64 = 1 ∨ k / 64 = 2 ∨ k / 64 = 3 := by omega
  have HB := Lib.hid h
  have c0 := h.cell (q := 0) (by decide)
  have c1 := h.cell (q := 1) (by decide)
  have c2 := h.cell (q := 2) (by decide)
  have c3 := h.cell (q := 3) (by decide)
  have z := h.frozen
  have HK := Lib.hid hk
  clear h
  have h64 : (k : Int).tmod 64 = (k : Int) % 64 := Int.tmod_eq_emod_of_nonneg (by omega)
  have h65 : 0 ≤ (k : Int) % 64 := by omega
  have hsh := shl_one k
  rcases hq with hq | hq | hq | hq
  all_goals
    have HQ := Lib.hid hq
    have hq2 : (k : Int).tdiv 64 = (k : Int) / 64 := Int.tdiv_eq_ediv_of_nonneg (by omega)
    have hq3 : (k : Int) / 64 = ((k / 64 : Nat) : Int) := by omega
    rw [hq3, hq] at hq2
    have hz0 : IntKind.i64.wrap 0 = 0 := by decide
    have hz1 : IntKind.i64.wrap 1 = 1 := by decide
    have hz2 : IntKind.i64.wrap 2 = 2 := by decide
    have hz3 : IntKind.i64.wrap 3 = 3 := by decide
    go_enter Tryd.func40, Tryd.ntmps40
    refine region_tail 12 (by kernel_rfl) (by kernel_rfl) ?_
    simp only [List.take_succ_cons, List.take_zero, List.drop_succ_cons, List.drop_zero]
    repeat still_step
    refine wpStill_nil ?_
    try rw [hsh]
    first
      | rw [bor_bit S k 0 HQ.out]
      | rw [bor_bit S k 1 HQ.out]
      | rw [bor_bit S k 2 HQ.out]
      | rw [bor_bit S k 3 HQ.out]
    go_wp2
    go_end0
    exact ⟨⟨_, rfl⟩, (HB.out.or HK.out HQ.out).of rfl, (But.set _ _ _ _).drew⟩
theorem quiet_load_mid {C : World → Prop} {a : Act} {K : Act → Prop} {o : Oper} (ty : TypeId) (x : Operand) (ho : o.op = .load ty x) (b q : Nat) (hx : a.eval x = .pointer (some ⟨b, q, none⟩)) (cs : List Value) (d : TypeDesc)
    (hc : ∀ w, C w → w.rangeAt b q cs) (hu : Tryd.prog.underlying ty = some d) (hd : d.isRow = true) (hi : (Tryd.prog.info? ty).map (·.size) = some cs.length) (h : K (a.put o.dst (.agg cs.toArray))) : o.quiet Tryd.prog a C K := by
  refine ⟨.agg cs.toArray, fun w hw => ?_, h⟩
  unfold Oper.quietAt execOp
  simp only [ho, hx, run_loadAt_mid w b q ty cs d (hc w hw) hu hd hi, Sem.run_bind, Sem.run_pure, Result.andThen_ok]
  exact ⟨rfl, rfl⟩
theorem spot_set {w : World} {b o : Nat} {s : Nat × Nat} (h : w.rangeAt b o (sp5 s)) : w.rangeAt b o (setC s.1).toList := by
  intro j v hv
  have hj : j < 4 := by have := (List.getElem?_eq_some_iff.1 hv).1; simpa [setC] using this
  refine h j v ?_
  rw [← hv]
  have : j = 0 ∨ j = 1 ∨ j = 2 ∨ j = 3 := by omega
  rcases this with rfl | rfl | rfl | rfl <;> rfl
theorem range_below {w w' : World} {b o : Nat} {l : List Value} (h : w.rangeAt b o l) (hb : Below w.heap.size w w') : w'.rangeAt b o l := fun j v hv => (hb.cell (World.block_lt_of_cell? _ _ (h j v hv))).trans (h j v hv)
theorem sizeSetL (S : Nat) : (Tryd.prog.info? 39).map (·.size) = some (setC S).toList.length := by
  show _ = some 4
  kernel_rfl
/-- a set is loaded out of its block -/
theorem wpList_load_set {ops : Array Oper} {rest : List Oper} {o : Oper} {a : Act} {w : World} {Q : Exit → Act → World → Prop} (hgd : o.guard = none) (X : Operand) (ho : o.op = .load 39 X)
    (B S : Nat) (hx : a.eval X = .pointer (some ⟨B, 0, none⟩)) (hc : SetB w B S) (h : wpList Tryd.prog ops Q rest (a.put o.dst (.agg (setC S))) w) : wpList Tryd.prog ops Q (o :: rest) a w :=
  wpList_load_row hgd 39 X ho B hx 39 (setC S) (0, 0) _ hc.row Tryd.underlying39 rfl (sizeSet S) h
/-- and stored into one -/
theorem wpList_store_set {ops : Array Oper} {rest : List Oper} {o : Oper} {a : Act} {w : World} {Q : Exit → Act → World → Prop} (hgd : o.guard = none) (X Y : Operand) (ho : o.op = .store 39 X Y)
    (B S T : Nat) (hx : a.eval X = .pointer (some ⟨B, 0, none⟩)) (hy : a.eval Y = .agg (setC T)) (hc : SetB w B S) (h : wpList Tryd.prog ops Q rest (a.put o.dst undef) (w.setRow B (setC T))) : wpList Tryd.prog ops Q (o :: rest) a w :=
  wpList_store_row hgd 39 X Y ho B (setC T) hx hy 39 (setC S) hc.row (sizeSet T) rfl (oneSet T) h
theorem SetB.put {w : World} {B S : Nat} (h : SetB w B S) (T : Nat) : SetB (w.setRow B (setC T)) B T := ⟨setRow_heap w _ _ _ _ _ h.row⟩
theorem But.setRow (B : Nat) (w : World) (cs : Array Value) : But B w (w.setRow B cs) := ⟨rfl, rfl, rfl, by simp, fun k _ hn => setRow_other _ _ _ _ hn⟩
set_option maxHeartbeats 3200000 in
set_option maxRecDepth 100000 in
theorem group_any (a : Option Addr) (cap : Nat) (l : List Int) (w : World) (h : NumsIn w a l) (hl : l.length ≤ 1000) (hn : ∀ k ∈ l, 0 ≤ k ∧ k < 256) :
    Calls Tryd.prog 33 #[.slice a l.length cap] w fun e w' => e = .returned (.agg (setC (grp l))) ∧ Below w.heap.size w w' := by
  have HN := Lib.hid h
  have HL := Lib.hid hl
  have HK := Lib.hid hn
  clear h hl hn
  go_enter Tryd.func33, Tryd.ntmps33
  go_upto_region 2 with fail
  rw [zeroC]
  have hB0 : SetB ((w.alloc (.cells (setC 0) 39)).alloc (.cells (setC 0) 39)) w.heap.size 0 := (SetB.new w 0).stay ((Below.refl _ _).alloc (Nat.le_refl _) _)
  have hB1 : SetB ((w.alloc (.cells (setC 0) 39)).alloc (.cells (setC 0) 39)) (w.heap.size + 1) 0 := by have := SetB.new (w.alloc (.cells (setC 0) 39)) 0; simpa using this
  have hbl : Below w.heap.size w ((w.alloc (.cells (setC 0) 39)).alloc (.cells (setC 0) 39)) := ((Below.refl _ _).alloc (Nat.le_refl _) _).alloc (by simp) _
  have HB0 := Lib.hid hB0
  have HB1 := Lib.hid hB1
  have HBL := Lib.hid hbl
  clear hB0 hB1 hbl
  generalize (w.alloc (.cells (setC 0) 39)).alloc (.cells (setC 0) 39) = w1 at *
  go_wp2_with fail
  go_loopw [8] (fun i wr => ∃ j : Nat, i = .int .i64 j ∧ j ≤ l.length ∧ Hid (SetB wr (w.heap.size + 1) (grp (l.take j))) ∧ Hid (SetB wr w.heap.size 0) ∧ Hid (Below w.heap.size w wr)) (fun i _ => ((l.length : Int) - intOf i).toNat)
  case atStart => exact ⟨0, rfl, Nat.zero_le _, HB1, HB0, HBL⟩
  case round =>
    obtain ⟨j, rfl, hj, HS, HZ, HB⟩ := hrel
    generalize hwr : wr = w2 at *
    clear hwr wr HB0 HB1 HBL w1
    have HN2 := Lib.hid (HN.out.kept HB.out)
    by_cases hlt : j < l.length
    · have hdd : decide ((j : Int) < (l.length : Int)) = true := decide_eq_true (by omega)
      have hd2 : decide (j < l.length) = true := decide_eq_true hlt
      obtain ⟨b, o, rfl, hc⟩ := HN2.out j hlt
      have HX := Lib.hid (HK.out _ (getD_mem (d := 0) hlt))
      have HT : Hid (grp (l.take (j + 1)) = grp (l.take j) ||| 2 ^ (l.getD j 0).toNat) := Lib.hid (by
        unfold grp
        rw [List.take_succ_eq_append_getElem hlt, List.map_append, List.map_cons, List.map_nil, ofN_snoc, List.getD_eq_getElem?_getD, List.getElem?_eq_getElem hlt]; rfl)
      have HW1 : Hid (wrap64 ((j : Int) + 1) = ((j + 1 : Nat) : Int)) := Lib.hid (by have := HL.out; unfold wrap64; omega)
      generalize l.getD j 0 = k at *
      obtain ⟨n, rfl⟩ := Int.eq_ofNat_of_zero_le HX.out.1
      have HA := Lib.hid (add_any (w.heap.size + 1) (grp (l.take j)) n w2 HS.out (by have := HX.out; omega))
      rw [show ((n : Int)).toNat = n from by omega] at HT
      go_wp2_with (go_at_call 40; refine HA.out.mono ?_; rintro e w3 ⟨⟨v, rfl⟩, hs3, hb3⟩; have HS3 := Lib.hid hs3; have HB3 := Lib.hid hb3; clear hs3 hb3)
      go_roundw
      case rel => exact ⟨j + 1, by rw [HW1.out], hlt, Lib.hid (by rw [HT.out]; exact HS3.out), Lib.hid (HZ.out.but HB3.out (by omega)), Lib.hid (But.below HB.out HB3.out (by omega) HB.out.size)⟩
      case measure => rw [HW1.out]; exact meas9 hlt
    · have hdd : decide ((j : Int) < (l.length : Int)) = false := decide_eq_false (by omega)
      have hd2 : decide (j < l.length) = false := decide_eq_false hlt
      have HT : Hid (l.take j = l) := Lib.hid (List.take_of_length_le (by omega))
      rw [HT.out] at HS
      go_wp2_with (first
        | (refine wpList_load_set rfl (.tmp 3) rfl (w.heap.size + 1) (grp l) rfl HS.out ?_)
        | (refine wpList_store_set rfl (.tmp 2) (.tmp 15) rfl w.heap.size 0 (grp l) rfl rfl HZ.out ?_))
      refine bodyPost_ret (v := .agg (setC (grp l))) (results_cell_row (p := 2) Tryd.results33 _ _ w.heap.size 39 _ (0, 0) _ rfl (HZ.out.put (grp l)).row Tryd.underlying39 rfl (sizeSet _)) rfl ⟨rfl, But.below HB.out (But.setRow _ _ _) (Nat.le_refl _) HB.out.size⟩
end Nf
end Go.Proofs.YtlbaecjmfgahgaaDoor
