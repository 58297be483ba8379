/- Several texts in one. -/
import Derived.Test.YtlbaecjmfgahgaaDoorPsA
import Derived.RangeFuncNested
import Derived.RangeFuncBound
import Derived.RangeFuncCalls
import Derived.RangeFuncLeaves
import Derived.Shelf.Abstract
import Derived.Shelf.RegionOpen
import Derived.OwnWalkIn
import Derived.TacticsInMore
import Derived.LoopNIn
import Derived.LoopIn
import Derived.Test.YtlbaecjmfgahgaaDoorNfG
namespace Go.Proofs.YtlbaecjmfgahgaaDoor
open Go.RowKit Sets Cls
/-- v is a slice of these sets. -/
def SetsIn (w : World) (v : Value) (L : List Nat) : Prop :=
  L.length ≤ maxLen ∧ ∃ a cap, v = .slice a L.length cap ∧ L.length ≤ cap ∧ ∀ i, i < L.length → ∃ b o, a = some ⟨b, o, none⟩ ∧ ∀ q, q < 4 → w.cell? ⟨b, o + i * 4 + q, none⟩ = some (.int .u64 (wd (L.getD i 0) q))
theorem SetsIn.kept {w w' : World} {v : Value} {L : List Nat} (h : SetsIn w v L) (hb : Below w.heap.size w w') : SetsIn w' v L := by
  obtain ⟨hm, a, cap, rfl, hcap, hc⟩ := h
  refine ⟨hm, a, cap, rfl, hcap, fun i hi => ?_⟩
  obtain ⟨b, o, rfl, hq⟩ := hc i hi
  exact ⟨b, o, rfl, fun q hq4 => (hb.cell (World.block_lt_of_cell? _ _ (hq q hq4))).trans (hq q hq4)⟩
theorem has_nat (S c : Nat) (w : World) (h : c < 256) :
    Calls Tryd.prog 48 #[.agg #[.int .u64 (wd S 0), .int .u64 (wd S 1), .int .u64 (wd S 2), .int .u64 (wd S 3)], .int .u8 c] w fun e w' =>
      e = .returned (.bool (S.testBit c)) ∧ Below w.heap.size w w' := by
  have := has_any S (c : Int) w (by omega) (by omega)
  simpa using this
theorem bor_shl (X j : Nat) (h : X < 2 ^ j) (hj : j < 64) : bits .or .u64 (X : Int) (IntKind.u64.wrap (2 ^ j)) = ((X ||| 2 ^ j : Nat) : Int) := by
  have hp : 2 ^ j < 18446744073709551616 := Nat.pow_lt_pow_right (n := 64) (by decide) hj
  have e : IntKind.u64.wrap (2 ^ j) = ((2 ^ j : Nat) : Int) := by
    rw [IntKind.wrap_u64, show ((2 : Int) ^ j) = ((2 ^ j : Nat) : Int) from by simp]
    generalize 2 ^ j = x at hp
    omega
  rw [e, bits_or_u64_nat _ _ (by generalize 2 ^ j = x at *; omega) hp]
theorem findIdx_congr {α : Type} (p q : α → Bool) (h : ∀ x, p x = q x) (l : List α) : l.findIdx? p = l.findIdx? q := by rw [show p = q from funext h]
theorem keys_some (f : Nat → Nat × Nat) (c : Nat) (h : head (byKey f) c = false) : (keysTo f c).findIdx? (fun x => x == f c) = some (cls (byKey f) c) := by
  rw [← keysTo_some f c h]
  exact findIdx_congr _ _ (fun x => Bool.eq_iff_iff.2 ⟨fun h => @beq_iff_eq _ instBEqOfDecidableEq _ _ _ |>.2 (beq_iff_eq.1 h), fun h => beq_iff_eq.2 (@beq_iff_eq _ instBEqOfDecidableEq _ _ _ |>.1 h)⟩) _
theorem keys_none (f : Nat → Nat × Nat) (c : Nat) (h : head (byKey f) c = true) : (keysTo f c).findIdx? (fun x => x == f c) = none := by
  rw [← keysTo_none f c h]
  exact findIdx_congr _ _ (fun x => Bool.eq_iff_iff.2 ⟨fun h => @beq_iff_eq _ instBEqOfDecidableEq _ _ _ |>.2 (beq_iff_eq.1 h), fun h => beq_iff_eq.2 (@beq_iff_eq _ instBEqOfDecidableEq _ _ _ |>.1 h)⟩) _
/-- The classes of the bytes below c. -/
def ptN (E : Nat → Nat → Bool) (c d : Nat) : Nat := if d < c then cls E d else 0
end Go.Proofs.YtlbaecjmfgahgaaDoor
namespace Go.Proofs.YtlbaecjmfgahgaaDoor
open Go.RowKit Go.Shelf Sets Cls
attribute [local go_sem] Oper.semAt_some
/-- The k-th part of a slice. -/
def chunkV (a : Option Addr) (len k : Nat) : Value :=
  match a with
  | none => .slice none 0 0
  | some x => .slice (some ⟨x.block, x.off + 64 * k * 4, none⟩) (min 64 (len - 64 * k)) (min 64 (len - 64 * k))
def chunkL (L : List Nat) (k : Nat) : List Nat := (L.drop (64 * k)).take 64
theorem chunkL_length (L : List Nat) (k : Nat) : (chunkL L k).length = min 64 (L.length - 64 * k) := by simp [chunkL]
theorem chunkL_get (L : List Nat) (k i : Nat) (h : i < (chunkL L k).length) : (chunkL L k).getD i 0 = L.getD (64 * k + i) 0 ∧ 64 * k + i < L.length := by
  rw [chunkL_length] at h
  refine ⟨?_, by omega⟩
  unfold chunkL
  rw [List.getD_eq_getElem?_getD, List.getD_eq_getElem?_getD, List.getElem?_take_of_lt (by omega), List.getElem?_drop]
theorem chunk_in {w : World} {a : Option Addr} {cap : Nat} {L : List Nat} (h : SetsIn w (.slice a L.length cap) L) (k : Nat) : SetsIn w (chunkV a L.length k) (chunkL L k) := by
  obtain ⟨hm, a', cap', he, hcap, hc⟩ := h
  injection he with h1 h2 h3
  subst h1 h3
  have hl := chunkL_length L k
  refine ⟨by omega, ?_⟩
  cases a with
  | none =>
    have : L.length = 0 := by
      rcases Nat.eq_zero_or_pos L.length with h | h
      · exact h
      · obtain ⟨b, o, e, -⟩ := hc 0 h; cases e
    have h0 : (chunkL L k).length = 0 := by omega
    exact ⟨none, 0, by unfold chunkV; rw [h0], by omega, fun i hi => by omega⟩
  | some x =>
    refine ⟨some ⟨x.block, x.off + 64 * k * 4, none⟩, _, by unfold chunkV; rw [hl], by omega, fun i hi => ?_⟩
    obtain ⟨e, hlt⟩ := chunkL_get L k i hi
    obtain ⟨b, o, hx, hq⟩ := hc _ hlt
    injection hx with hx
    subst hx
    refine ⟨_, _, rfl, fun q hq4 => ?_⟩
    have := hq q hq4
    rw [e]
    rw [show o + 64 * k * 4 + i * 4 + q = o + (64 * k + i) * 4 + q from by omega]
    exact this
/-- What a round keeps: the slice's and the number's variables. -/
def KeepC (Bs Bn : Nat) (A B : World) : Prop := B.cell? ⟨Bs, 0, none⟩ = A.cell? ⟨Bs, 0, none⟩ ∧ B.cell? ⟨Bn, 0, none⟩ = A.cell? ⟨Bn, 0, none⟩
theorem KeepC.trans {Bs Bn : Nat} {A B C : World} (h : KeepC Bs Bn A B) (k : KeepC Bs Bn B C) : KeepC Bs Bn A C := ⟨k.1.trans h.1, k.2.trans h.2⟩
def upto (k : Nat) : List Nat := List.range k
end Go.Proofs.YtlbaecjmfgahgaaDoor
namespace Go.Proofs.YtlbaecjmfgahgaaDoor
open Go.RowKit Go.Shelf Sets Cls
attribute [local go_sem] Oper.semAt_some
theorem wpListIn_load_row {F : Fence} {n l : Nat} {P : Program} {ops : Array Oper} {rest : List Oper} {o : Oper} {a : Act} {w : World} {Q : Exit → Act → World → Prop} (hF : F.round = some l) (hgd : o.guard = none) (ty : TypeId) (x : Operand) (ho : o.op = .load ty x)
    (g : Nat) (hx : a.eval x = .pointer (some ⟨g, 0, none⟩)) (t : TypeId) (cs : Array Value) (fr : Nat × Nat) (d : TypeDesc) (hg : w.heap[g]? = some (.cells cs t fr))
    (hu : P.underlying ty = some d) (hd : (match d with | .struct _ | .array _ _ => true | _ => false) = true) (hi : (P.info? ty).map (·.size) = some cs.size)
    (h : wpListIn F n P ops Q rest (a.put o.dst (.agg cs)) w) : wpListIn F n P ops Q (o :: rest) a w := by
  refine wpListIn_plain hgd fun K hK => ⟨fun f hf => (by unfold Oper.about at hf; simp only [ho] at hf; cases hf), ?_⟩
  rw [hF, Oper.semAt_some l _ o (fun c e => by rw [ho] at e; cases e)]
  unfold execOp
  simp only [ho, hx, Instr.loadAt, Instr.sureAddr, Sem.run_bind, Sem.run_pure, Result.andThen_ok, run_loadVar_row w g t ty cs fr d hg hu hd hi]
  exact hK _ _ h
theorem wpListIn_store_row {F : Fence} {n l : Nat} {P : Program} {ops : Array Oper} {rest : List Oper} {o : Oper} {a : Act} {w : World} {Q : Exit → Act → World → Prop} (hF : F.round = some l) (hgd : o.guard = none) (ty : TypeId) (x y : Operand) (ho : o.op = .store ty x y)
    (g : Nat) (cells : Array Value) (hx : a.eval x = .pointer (some ⟨g, 0, none⟩)) (hy : a.eval y = .agg cells)
    (t : TypeId) (old : Array Value) (hg : w.heap[g]? = some (.cells old t (0, 0))) (hi : (P.info? ty).map (·.size) = some cells.size)
    (hold : old.size = cells.size) (h1 : cells.all (·.oneCell') = true)
    (h : wpListIn F n P ops Q rest (a.put o.dst undef) (w.setRow g cells)) : wpListIn F n P ops Q (o :: rest) a w := by
  refine wpListIn_plain hgd fun K hK => ⟨fun f hf => (by unfold Oper.about at hf; simp only [ho] at hf; cases hf), ?_⟩
  rw [hF, Oper.semAt_some l _ o (fun c e => by rw [ho] at e; cases e)]
  unfold execOp
  simp only [ho, hx, hy, Instr.storeAt, Instr.sureAddr, Sem.run_bind, Sem.run_pure, Result.andThen_ok, run_storeVar_row w g t ty old cells hg hi hold h1]
  exact hK _ _ h
/-- The relation of the parts that have come. -/
def partsE (L : List Nat) (pre : List Nat) (a b : Nat) : Bool := pre.all fun k => same (chunkL L k) a b
theorem partsE_eqv (L pre : List Nat) : Eqv (partsE L pre) :=
  ⟨fun a => by unfold partsE; rw [List.all_eq_true]; exact fun k _ => (same_eqv _).refl a,
   fun a b h => by unfold partsE at *; rw [List.all_eq_true] at *; exact fun k hk => (same_eqv _).symm a b (h k hk),
   fun a b c h g => by unfold partsE at *; rw [List.all_eq_true] at *; exact fun k hk => (same_eqv _).trans a b c (h k hk) (g k hk)⟩
theorem partsE_snoc (L pre : List Nat) (k : Nat) : byKey (keyC (partsE L pre) (chunkL L k)) = partsE L (pre ++ [k]) := by
  funext a b
  rw [byKey_keyC _ (partsE_eqv L pre)]
  unfold partsE
  simp
theorem partsE_all (L : List Nat) (k : Nat) (h : L.length ≤ 64 * k) : partsE L (upto k) = same L := by
  funext a b
  rw [Bool.eq_iff_iff]
  unfold partsE
  rw [List.all_eq_true, same_iff]
  constructor
  · intro hp S hS
    obtain ⟨i, hi, rfl⟩ := List.mem_iff_getElem.1 hS
    have := hp (i / 64) (by unfold upto; rw [List.mem_range]; omega)
    rw [same_iff] at this
    refine this _ ?_
    unfold chunkL
    rw [List.mem_iff_getElem?]
    exact ⟨i % 64, by rw [List.getElem?_take_of_lt (by omega), List.getElem?_drop, show 64 * (i / 64) + i % 64 = i from by omega, List.getElem?_eq_getElem hi]⟩
  · intro hp j _
    rw [same_iff]
    intro S hS
    exact hp S (List.mem_of_mem_drop (List.mem_of_mem_take hS))
theorem partsE_nil (L : List Nat) : (∀ c, cls (partsE L []) c = 0) ∧ nh (partsE L []) 256 = 1 := by
  have hh : ∀ c, head (partsE L []) c = decide (c = 0) := by
    intro c
    rw [Bool.eq_iff_iff, head_iff, decide_eq_true_iff]
    constructor
    · intro h; rcases Nat.eq_zero_or_pos c with h0 | h0
      · exact h0
      · have := h 0 h0; cases this
    · rintro rfl d hd; omega
  have h1 : ∀ c, nh (partsE L []) (c + 1) = 1 := by
    intro c
    induction c with
    | zero => simp [nh, hh]
    | succ c ih => rw [nh, ih, hh]; simp
  refine ⟨fun c => ?_, h1 255⟩
  have hE := partsE_eqv L []
  have := cls_lt_nh (partsE L []) hE c (c + 1) (by omega)
  rw [h1] at this; omega
theorem keeps_of_below {w w' : World} (h : Below w.heap.size w w') : KeepsOthers w w' := ⟨h.size, fun k _ hk _ => (h.block k (Array.getElem?_eq_some_iff.1 hk).1).trans hk⟩
theorem keeps_setRow {w : World} {g : Nat} {t : TypeId} {old cs : Array Value} (hg : w.heap[g]? = some (.cells old t (0, 0))) : KeepsOthers w (w.setRow g cs) :=
  ⟨by simp, fun k o hk ho => by
    by_cases e : k = g
    · subst e; rw [hg] at hk; cases hk; cases ho
    · rw [setRow_other _ _ _ _ e]; exact hk⟩
theorem wpList_build {P : Program} {ops : Array Oper} {rest : List Oper} {o : Oper} {a : Act} {w : World} {Q : Exit → Act → World → Prop} (hgd : o.guard = none) (t : TypeId) (parts : Array (Nat × Operand)) (ho : o.op = .build t parts)
    (vs : Array (Nat × Value)) (hv : (parts.map fun (i, x) => (i, a.eval x)) = vs) (v : Value) (hrun : (Instr.build t vs).run P w = .ok v w) (h : wpList P ops Q rest (a.put o.dst v) w) : wpList P ops Q (o :: rest) a w := by
  refine wpList_plain hgd fun K hK => ?_
  unfold Oper.wp execOp
  simp only [ho, hv, Sem.run_bind, Sem.run_pure, hrun, Result.andThen_ok]
  exact hK _ _ h
theorem cell_putObj (W : World) (l : Nat) (o : Obj) (p : Addr) (h : p.block ≠ l) : (W.putObj l o).cell? p = W.cell? p := by
  unfold World.cell?
  rw [World.putObj_heap_other h]
theorem cell_setRow (W : World) (g : Nat) (cs : Array Value) (p : Addr) (h : p.block ≠ g) : (W.setRow g cs).cell? p = W.cell? p := by
  unfold World.cell?
  rw [setRow_other _ _ _ _ h]
end Go.Proofs.YtlbaecjmfgahgaaDoor
namespace Go.Proofs.YtlbaecjmfgahgaaDoor
open Go.RowKit Sets Cls
theorem BytesAt.nil (w : World) : BytesAt w (.slice none 0 0) [] := ⟨by simp, by simp, none, 0, rfl, by simp⟩
theorem BytesAt.take {w : World} {a : Option Addr} {n cap : Nat} {l : List Nat} (h : BytesAt w (.slice a n cap) l) (m : Nat) (hm : m ≤ n) : BytesAt w (.slice a m cap) (l.take m) := by
  obtain ⟨hl, hmx, a', cap', he, hc⟩ := h
  injection he with h1 h2 h3
  subst h1 h2
  have hlen : (l.take m).length = m := by simp; omega
  refine ⟨fun x hx => hl x (List.mem_of_mem_take hx), by omega, a, cap, by rw [hlen], fun i hi => ?_⟩
  rw [hlen] at hi
  obtain ⟨b, o, rfl, hq⟩ := hc i (by omega)
  refine ⟨b, o, rfl, ?_⟩
  rw [List.getD_eq_getElem?_getD, List.getElem?_take_of_lt hi, ← List.getD_eq_getElem?_getD]
  exact hq
/-- Block g is a row of slices of bytes. -/
def BytesRow (w : World) (g : Nat) (Ls : List (List Nat)) : Prop :=
  ∃ vs : List Value, w.heap[g]? = some (.cells vs.toArray 69 (0, 0)) ∧ vs.length = Ls.length ∧ ∀ i, i < Ls.length → BytesAt w (vs.getD i undef) (Ls.getD i [])
theorem BytesRow.lt {w : World} {g : Nat} {Ls : List (List Nat)} (h : BytesRow w g Ls) : g < w.heap.size := by
  obtain ⟨vs, h, -⟩ := h; exact (Array.getElem?_eq_some_iff.1 h).1
theorem BytesRow.kept {w w' : World} {g : Nat} {Ls : List (List Nat)} (h : BytesRow w g Ls) (hb : Below w.heap.size w w') : BytesRow w' g Ls := by
  have hl := h.lt
  obtain ⟨vs, h1, h2, h3⟩ := h
  exact ⟨vs, by rw [hb.block _ hl]; exact h1, h2, fun i hi => (h3 i hi).kept hb⟩
theorem BytesRow.at {w : World} {g : Nat} {Ls : List (List Nat)} (h : BytesRow w g Ls) (i : Nat) (hi : i < Ls.length) : ∃ v, w.cell? ⟨g, i, none⟩ = some v ∧ BytesAt w v (Ls.getD i []) := by
  obtain ⟨vs, h1, h2, h3⟩ := h
  refine ⟨vs.getD i undef, ?_, h3 i hi⟩
  rw [cell_of_row w g _ _ _ _ h1, List.getElem?_toArray, List.getElem?_eq_getElem (by omega), List.getD_eq_getElem?_getD, List.getElem?_eq_getElem (by omega)]
  rfl
theorem BytesRow.free {w : World} {g : Nat} {Ls : List (List Nat)} (h : BytesRow w g Ls) (j : Nat) : w.frozen? ⟨g, j, none⟩ = false := by
  obtain ⟨vs, h1, -⟩ := h; exact frozen_of_row w g j _ _ h1
/-- Bytes that do not lie in block g. -/
theorem bytes_setCell {w : World} {g i : Nat} {u v : Value} {l : List Nat} {vs : List Value} (hg : w.heap[g]? = some (.cells vs.toArray 69 (0, 0))) (hvs : ∀ x ∈ vs, ∃ a n c, x = .slice a n c) (h : BytesAt w v l) : BytesAt (w.setCell ⟨g, i, none⟩ u) v l := by
  obtain ⟨hl, hm, a, cap, rfl, hc⟩ := h
  refine ⟨hl, hm, a, cap, rfl, fun j hj => ?_⟩
  obtain ⟨b, o, rfl, hq⟩ := hc j hj
  refine ⟨b, o, rfl, ?_⟩
  have hbg : b ≠ g := by
    rintro rfl
    rw [cell_of_row w b _ _ _ _ hg, List.getElem?_toArray] at hq
    obtain ⟨x, n, c, e⟩ := hvs _ (List.mem_of_getElem? hq)
    cases e
  unfold World.cell?
  rw [heap_setCell_other _ _ _ _ hbg]
  exact hq
theorem bytes_slice {w : World} {v : Value} {l : List Nat} (h : BytesAt w v l) : ∃ a n c, v = .slice a n c := by
  obtain ⟨-, -, a, c, h, -⟩ := h; exact ⟨a, _, c, h⟩
theorem BytesRow.set {w : World} {g : Nat} {Ls : List (List Nat)} (h : BytesRow w g Ls) (i : Nat) (v : Value) (l : List Nat) (hv : BytesAt w v l) : BytesRow (w.setCell ⟨g, i, none⟩ v) g (Ls.set i l) := by
  obtain ⟨vs, h1, h2, h3⟩ := h
  have hvs : ∀ x ∈ vs, ∃ a n c, x = .slice a n c := by
    intro x hx
    obtain ⟨j, hj, rfl⟩ := List.mem_iff_getElem.1 hx
    have := bytes_slice (h3 j (by omega))
    rw [List.getD_eq_getElem?_getD, List.getElem?_eq_getElem hj] at this
    exact this
  refine ⟨vs.set i v, ?_, by simp [h2], fun j hj => ?_⟩
  · have := heap_setCell_same w g i _ _ v h1
    rw [this, List.setIfInBounds_toArray]
  · rw [List.length_set] at hj
    refine bytes_setCell h1 hvs ?_
    by_cases e : i = j
    · subst e
      rw [List.getD_eq_getElem?_getD, List.getElem?_set_self (by omega), List.getD_eq_getElem?_getD, List.getElem?_set_self (by omega)]
      exact hv
    · rw [List.getD_eq_getElem?_getD, List.getElem?_set_ne e, List.getD_eq_getElem?_getD, List.getElem?_set_ne e, ← List.getD_eq_getElem?_getD, ← List.getD_eq_getElem?_getD]
      exact h3 j hj
theorem len_bytes (a : Option Addr) (len cap : Nat) (w : World) : (Builtin.len_ #[69] 3 #[.slice a len cap]).run Tryd.prog w = .ok (.int .i64 len) w := by go_simp
theorem infoR : (Tryd.prog.info? 69).map (fun i => (i.zero, i.size, i.bytes)) = some (some (.slice none 0 0), 1, 24) := by kernel_rfl
theorem made_bytes {w w' : World} {B n : Nat} (h : w'.ownsRow B 69 1 (.slice (some ⟨w.heap.size, 0, none⟩) n n) n (madeCells #[Value.slice none 0 0] n).toList) :
    BytesRow w' w.heap.size (List.replicate n []) := by
  have key : (madeCells #[Value.slice none 0 0] n).toList = List.replicate n (Value.slice none 0 0) := by
    apply List.ext_getElem
    · simp [size_madeCells]
    · intro j h1 h2
      simp [madeCells, Nat.mod_one]
  obtain ⟨h1, h2⟩ := h
  rcases h2 with ⟨h2, -⟩ | ⟨g, cap, cur, h2, -, hg, -, -, hs, ht⟩
  · cases h2
  · injection h2 with h2 h3 h4
    injection h2 with h2
    injection h2 with h2 _ _
    subst h2 h4
    rw [key] at ht
    rw [List.take_of_length_le (by rw [Array.length_toList, hs]; exact Nat.le_refl _)] at ht
    refine ⟨List.replicate n (.slice none 0 0), by rw [hg, ← ht], by simp, fun i hi => ?_⟩
    rw [List.length_replicate] at hi
    rw [List.getD_eq_getElem?_getD, List.getElem?_replicate, if_pos hi, List.getD_eq_getElem?_getD, List.getElem?_replicate, if_pos hi]
    exact BytesAt.nil _
/-- The least k of each class, of the first i classes. -/
def leastN (of : Nat → Nat) (n : Nat) (k : Int) (i : Nat) : List (List Nat) := (List.range n).map fun j => if j < i then (listN (clsSet of 256 j)).take k.toNat else []
theorem leastN_length (of : Nat → Nat) (n : Nat) (k : Int) (i : Nat) : (leastN of n k i).length = n := by simp [leastN]
theorem leastN_zero (of : Nat → Nat) (n : Nat) (k : Int) : leastN of n k 0 = List.replicate n [] := by unfold leastN; simp [List.map_const']
theorem leastN_succ (of : Nat → Nat) (n : Nat) (k : Int) (i : Nat) : leastN of n k (i + 1) = (leastN of n k i).set i ((listN (clsSet of 256 i)).take k.toNat) := by
  unfold leastN
  apply List.ext_getElem
  · simp
  · intro j h1 h2
    rw [List.getElem_set]
    simp only [List.getElem_map, List.getElem_range]
    by_cases e : i = j
    · subst e; simp
    · rw [if_neg e]
      by_cases e2 : j < i
      · rw [if_pos e2, if_pos (by omega)]
      · rw [if_neg e2, if_neg (by omega)]
theorem leastN_all (of : Nat → Nat) (n : Nat) (k : Int) : leastN of n k n = (List.range n).map fun j => (listN (clsSet of 256 j)).take k.toNat := by
  unfold leastN
  apply List.map_congr_left
  intro j hj
  rw [if_pos (by simpa using hj)]
end Go.Proofs.YtlbaecjmfgahgaaDoor
namespace Go.Proofs.YtlbaecjmfgahgaaDoor
open Go.RowKit Sets Nf
namespace Df
theorem bytes_one (w : World) (c : Nat) (hc : c < 256) : BytesAt (w.alloc (.cells #[.int .u8 c] 5)) (.slice (some ⟨w.heap.size, 0, none⟩) 1 1) [c] := by
  refine ⟨by simp [hc], by simp [maxLen], _, 1, rfl, fun i hi => ?_⟩
  have : i = 0 := by simpa using hi
  subst this
  exact ⟨w.heap.size, 0, rfl, by simp⟩
theorem u8_wrap (k : Nat) (h : k < 256) : IntKind.u8.wrap (k : Int) = k := by
  have : (k : Int) < 256 := by omega
  simp [IntKind.wrap, IntKind.bits, IntKind.signed]
  omega
end Df
end Go.Proofs.YtlbaecjmfgahgaaDoor
