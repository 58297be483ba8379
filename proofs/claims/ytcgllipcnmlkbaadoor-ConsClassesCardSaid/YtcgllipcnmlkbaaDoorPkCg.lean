/- Several texts in one. -/
import Derived.Test.YtcgllipcnmlkbaaDoorPkCf
import Derived.Laws.StructEq
import Derived.Maps.OwnOps
import Derived.Maps.Own
import Derived.RangeFuncNested
import Derived.RangeFuncBound
import Derived.RangeFuncCalls
import Derived.RangeFuncLeaves
import Derived.Shelf.Abstract
import Derived.Shelf.RegionOpen
import Derived.OwnWalkIn
import Derived.TacticsInMore
import Derived.LoopNIn
import Derived.LoopIn
namespace Go.Proofs.YtcgllipcnmlkbaaDoor
open Go.RowKit Sets Cls
def keyV (k : Nat × Nat) : Value := .agg #[.int .u8 k.1, .int .u64 k.2]
/-- The entries of the keys l, the first one numbered i. -/
def ents : Nat → List (Nat × Nat) → List MapEntry
  | _, [] => []
  | i, k :: l => { key := keyV k, val := .int .u8 i, born := i } :: ents (i + 1) l
theorem ents_length : ∀ (l : List (Nat × Nat)) (i : Nat), (ents i l).length = l.length
  | [], _ => rfl
  | _ :: l, i => by simp [ents, ents_length l (i + 1)]
theorem ents_snoc (k : Nat × Nat) : ∀ (l : List (Nat × Nat)) (i : Nat), ents i (l ++ [k]) = ents i l ++ [{ key := keyV k, val := .int .u8 (i + l.length : Nat), born := i + l.length }]
  | [], i => by simp [ents]
  | a :: l, i => by
    simp only [List.cons_append, ents, ents_snoc k l (i + 1), List.length_cons]
    rw [show i + 1 + l.length = i + (l.length + 1) from by omega]
set_option maxRecDepth 100000 in
theorem eqTrait (a b a' b' : Int) (w : World) : (Op.equal 118 (.agg #[.int .u8 a, .int .u64 b]) (.agg #[.int .u8 a', .int .u64 b'])).run Tryd.prog w = .ok (a == a' && b == b') w := by
  have u1 := Tryd.underlying5
  have u2 := Tryd.underlying24
  have hp : Tryd.prog.stoodInHeld 118 = false := by kernel_rfl
  unfold Op.equal Op.maxDepth
  rw [show (10000 : Nat) = 9999 + 1 from rfl, run_equalIn_agg w 9999 _ _ _ Tryd.underlying118 hp]
  simp only [Program.fieldsOf, Tryd.underlying118]
  go_simp
  by_cases h1 : a = a' <;> by_cases h2 : b = b' <;> simp [h1, h2]
theorem check_traitD (d : Nat) (em : Bool) (a b : Int) (w : World) : (Instr.checkKey em (d + 1 + 1) 118 (.agg #[.int .u8 a, .int .u64 b])).run Tryd.prog w = .ok () w := by
  have u1 := Tryd.underlying5
  have u2 := Tryd.underlying24
  have a1 := Tryd.isAgg5
  have a2 := Tryd.isAgg24
  rw [Instr.checkKey]
  simp only [Sem.run_bind, run_underlying Tryd.underlying118, Result.andThen_ok]
  rw [← Array.forIn_toList]
  go_simp
  simp [Instr.checkKey, Sem.run_bind, run_underlying u1, run_underlying u2, Result.andThen_ok]
theorem check_trait (em : Bool) (a b : Int) (w : World) : (Instr.checkKey em 10000 118 (.agg #[.int .u8 a, .int .u64 b])).run Tryd.prog w = .ok () w := check_traitD 9998 em a b w
set_option maxRecDepth 100000 in
theorem find_asking (k : Nat × Nat) (w : World) : ∀ (l : List (Nat × Nat)) (i : Nat), (Instr.findAsking 118 (keyV k) (ents i l) i).run Tryd.prog w = .ok ((l.findIdx? (· == k)).map fun j => (i + j, Value.int .u8 (i + j : Nat))) w
  | [], i => by simp [ents, Instr.findAsking]
  | q :: l, i => by
    simp only [ents, Instr.findAsking, Sem.run_bind]
    have e := eqTrait k.1 k.2 q.1 q.2 w
    unfold keyV at *
    rw [e]
    simp only [Result.andThen_ok, Sem.run_ite, Sem.run_pure]
    have ih := find_asking k w l (i + 1)
    unfold keyV at ih
    by_cases h : q = k
    · subst h
      simp [List.findIdx?_cons]
    · have hb : ((k.1 : Int) == q.1 && (k.2 : Int) == q.2) = false := by
        rw [Bool.eq_false_iff]; intro h'
        simp at h'
        exact h (Prod.ext (by omega) (by omega))
      rw [hb, if_neg (by simp), ih, List.findIdx?_cons]
      simp only [beq_iff_eq, h, if_false, Option.map_map]
      congr 2
      funext j
      simp only [Function.comp, Prod.mk.injEq]
      exact ⟨by omega, by congr 1; omega⟩
theorem find_key (k : Nat × Nat) (w : World) (l : List (Nat × Nat)) : (Instr.findKey 118 (keyV k) (ents 0 l)).run Tryd.prog w = .ok ((l.findIdx? (· == k)).map fun j => (j, Value.int .u8 (j : Nat))) w := by
  unfold Instr.findKey
  simp only [Sem.run_bind, run_underlying Tryd.underlying118, Result.andThen_ok]
  have h := find_asking k w l 0
  simp only [Nat.zero_add] at h
  cases l with
  | nil => simp [ents, Instr.findNow]
  | cons q l =>
    have : Instr.findNow (.struct #[{ name := "class", type := 5, offset := 0, embedded := false, tag := "", pkgPath := "shibboleth/classes", byteOffset := 0 }, { name := "in", type := 24, offset := 1, embedded := false, tag := "", pkgPath := "shibboleth/classes", byteOffset := 8 }]) (keyV k) (ents 0 (q :: l)) 0 = none := by
      simp [ents, Instr.findNow, Instr.sameNow]
    rw [this]
    exact h
/-- Block g is the map of the keys l, each with its number. -/
def TraitMap (w : World) (g : Nat) (l : List (Nat × Nat)) : Prop := w.heap[g]? = some (.map (ents 0 l).toArray l.length)
theorem TraitMap.lt {w : World} {g : Nat} {l : List (Nat × Nat)} (h : TraitMap w g l) : g < w.heap.size := (Array.getElem?_eq_some_iff.1 h).1
theorem TraitMap.kept {w w' : World} {A g : Nat} {l : List (Nat × Nat)} (h : TraitMap w g l) (hb : Below A w w') (hA : g < A) : TraitMap w' g l := by
  unfold TraitMap at *; rw [hb.block _ hA]; exact h
theorem TraitMap.made (w : World) : TraitMap (w.alloc (.map #[] 0)) w.heap.size [] := heap_alloc_new w _
theorem zeroB (w : World) : (zeroValue 5).run Tryd.prog w = .ok (.int .u8 0) w := by kernel_rfl
theorem getObj_run {P : Program} {w : World} {g : Nat} {es : Array MapEntry} {clock : Nat} (h : w.heap[g]? = some (.map es clock)) : (getObj g).run P w = .ok (.map es clock) w := MapKept.run_getObj_map h
theorem TraitMap.look {w : World} {g : Nat} {l : List (Nat × Nat)} (h : TraitMap w g l) (k : Nat × Nat) :
    (Instr.lookup 116 (.map (some g)) (.agg #[.int .u8 k.1, .int .u64 k.2]) true).run Tryd.prog w =
      .ok (match l.findIdx? (· == k) with | some j => .tuple #[.int .u8 (j : Nat), .bool true] | none => .tuple #[.int .u8 0, .bool false]) w := by
  unfold Instr.lookup
  have hc := fun em => check_trait em k.1 k.2 w
  have hf := find_key k w l
  unfold keyV at hf
  simp only [Sem.run_bind, run_underlying Tryd.underlying116, Result.andThen_ok, getObj_run h, Sem.run_pure, hc, hf]
  cases l.findIdx? (· == k) with
  | none => simp
  | some j => simp
theorem TraitMap.put {w : World} {g : Nat} {l : List (Nat × Nat)} (h : TraitMap w g l) (k : Nat × Nat) (hk : l.findIdx? (· == k) = none) :
    ∃ w', (Instr.mapUpdate 116 (.map (some g)) (.agg #[.int .u8 k.1, .int .u64 k.2]) (.int .u8 l.length)).run Tryd.prog w = .ok () w' ∧ TraitMap w' g (l ++ [k]) ∧ w.grownBy w' (some g) := by
  have hc := fun em => check_trait em k.1 k.2 w
  have hf := find_key k w l
  rw [hk] at hf
  unfold keyV at hf
  have hg : w.heap[g]? = some (.map (ents 0 l).toArray l.length) := h
  refine ⟨ChangeMaps.setBlock w g (.map ((ents 0 l).toArray.push { key := .agg #[.int .u8 k.1, .int .u64 k.2], val := .int .u8 l.length, born := l.length }) (l.length + 1)), ?_, ?_, ⟨rfl, rfl, rfl, by simp [ChangeMaps.setBlock], fun i _ hi => ChangeMaps.heap_setBlock_other hg _ (fun e => hi (by rw [e]))⟩⟩
  · unfold Instr.mapUpdate
    simp only [Sem.run_bind, run_underlying Tryd.underlying116, Result.andThen_ok, getObj_run h, hc, hf, Option.map_none]
    exact MapKept.run_setObj_map _ hg
  · unfold TraitMap
    rw [ChangeMaps.heap_setBlock_same hg _, ents_snoc]
    simp [keyV]
theorem wpList_put {P : Program} {w : World} {ops : Array Oper} {rest : List Oper} {o : Oper} {a : Act} {Q : Exit → Act → World → Prop}
    (hg : o.guard = none) (m x v : Operand) (t : TypeId) (hop : o.op = Op.mapUpdate t m x v) (mv xv vv : Value) (hm : a.eval m = mv) (hx : a.eval x = xv) (hv : a.eval v = vv) {w' : World}
    (hrun : (Instr.mapUpdate t mv xv vv).run P w = .ok () w') (hK : wpList P ops Q rest (a.put o.dst undef) w') : wpList P ops Q (o :: rest) a w := by
  refine wpList_plain hg fun K' hK' => ?_
  unfold Oper.wp
  simp [execOp, hop, hm, hx, hv, hrun, Result.andThen]
  exact hK' _ _ hK
/-- len(m). -/
theorem TraitMap.len {w : World} {g : Nat} {l : List (Nat × Nat)} (h : TraitMap w g l) (ty : TypeId) : (Builtin.len_ #[116] ty #[.map (some g)]).run Tryd.prog w = .ok (.int .i64 l.length) w := by
  unfold Builtin.len_
  have hg : w.heap[g]? = some (.map (ents 0 l).toArray l.length) := h
  simp [run_underlying Tryd.underlying116, getObj_run hg, goInt, Result.andThen, ents_length]
end Go.Proofs.YtcgllipcnmlkbaaDoor
namespace Go.Proofs.YtcgllipcnmlkbaaDoor
open Go.RowKit Sets Cls
/-- v is a slice of these sets. -/
def SetsIn (w : World) (v : Value) (L : List Nat) : Prop :=
  L.length ≤ maxLen ∧ ∃ a cap, v = .slice a L.length cap ∧ L.length ≤ cap ∧ ∀ i, i < L.length → ∃ b o, a = some ⟨b, o, none⟩ ∧ ∀ q, q < 4 → w.cell? ⟨b, o + i * 4 + q, none⟩ = some (.int .u64 (wd (L.getD i 0) q))
theorem SetsIn.kept {w w' : World} {v : Value} {L : List Nat} (h : SetsIn w v L) (hb : Below w.heap.size w w') : SetsIn w' v L := by
  obtain ⟨hm, a, cap, rfl, hcap, hc⟩ := h
  refine ⟨hm, a, cap, rfl, hcap, fun i hi => ?_⟩
  obtain ⟨b, o, rfl, hq⟩ := hc i hi
  exact ⟨b, o, rfl, fun q hq4 => (hb.cell (World.block_lt_of_cell? _ _ (hq q hq4))).trans (hq q hq4)⟩
theorem zeroP (w : World) : (zeroValue 63).run Tryd.prog w = .ok (.agg (partC (fun _ => 0) 0)) w := by
  rw [show partC (fun _ => 0) 0 = (List.replicate 256 (Value.int .u8 0) ++ [Value.int .i64 0]).toArray from by unfold partC ofL; rw [List.map_const', List.length_range]; rfl]
  kernel_rfl
theorem PartAt.congr {w : World} {B : Nat} {of g : Nat → Nat} {n : Int} (h : PartAt w B of n) (e : ∀ c, c < 256 → of c = g c) : PartAt w B g n := by
  unfold PartAt at *; rw [← partC_congr of g n e]; exact h
theorem has_nat (S c : Nat) (w : World) (h : c < 256) :
    Calls Tryd.prog 53 #[.agg #[.int .u64 (wd S 0), .int .u64 (wd S 1), .int .u64 (wd S 2), .int .u64 (wd S 3)], .int .u8 c] w fun e w' =>
      e = .returned (.bool (S.testBit c)) ∧ Below w.heap.size w w' := by
  have := has_any S (c : Int) w (by omega) (by omega)
  simpa using this
/-- Block T is a trait. -/
def TraitAt (w : World) (T a b : Nat) : Prop := w.heap[T]? = some (.cells #[.int .u8 a, .int .u64 b] 118 (0, 0))
theorem TraitAt.lt {w : World} {T a b : Nat} (h : TraitAt w T a b) : T < w.heap.size := (Array.getElem?_eq_some_iff.1 h).1
theorem TraitAt.new (w : World) (a b : Nat) : TraitAt (w.alloc (.cells #[.int .u8 a, .int .u64 b] 118)) w.heap.size a b := heap_alloc_new w _
theorem TraitAt.kept {w w' : World} {A T a b : Nat} (h : TraitAt w T a b) (hb : Below A w w') (hA : T < A) : TraitAt w' T a b := by
  unfold TraitAt at *; rw [hb.block _ hA]; exact h
theorem TraitAt.c0 {w : World} {T a b : Nat} (h : TraitAt w T a b) : w.cell? ⟨T, 0, none⟩ = some (.int .u8 a) := by rw [cell_of_row w T 0 _ _ _ h]; rfl
theorem TraitAt.c1 {w : World} {T a b : Nat} (h : TraitAt w T a b) : w.cell? ⟨T, 1, none⟩ = some (.int .u64 b) := by rw [cell_of_row w T 1 _ _ _ h]; rfl
theorem TraitAt.free {w : World} {T a b : Nat} (h : TraitAt w T a b) (j : Nat) : w.frozen? ⟨T, j, none⟩ = false := frozen_of_row w T j _ _ h
theorem TraitAt.set {w : World} {T a b : Nat} (h : TraitAt w T a b) (b' : Nat) : TraitAt (w.setCell ⟨T, 1, none⟩ (.int .u64 b')) T a b' := by
  unfold TraitAt at *
  exact heap_setCell_same w T 1 _ _ _ h
theorem bor_shl (X j : Nat) (h : X < 2 ^ j) (hj : j < 64) : bits .or .u64 (X : Int) (IntKind.u64.wrap (2 ^ j)) = ((X ||| 2 ^ j : Nat) : Int) := by
  have hp : 2 ^ j < 18446744073709551616 := Nat.pow_lt_pow_right (n := 64) (by decide) hj
  have e : IntKind.u64.wrap (2 ^ j) = ((2 ^ j : Nat) : Int) := by
    rw [IntKind.wrap_u64, show ((2 : Int) ^ j) = ((2 ^ j : Nat) : Int) from by simp]
    generalize 2 ^ j = x at hp
    omega
  rw [e, bits_or_u64_nat _ _ (by generalize 2 ^ j = x at *; omega) hp]
theorem findIdx_congr {α : Type} (p q : α → Bool) (h : ∀ x, p x = q x) (l : List α) : l.findIdx? p = l.findIdx? q := by rw [show p = q from funext h]
theorem keys_some (f : Nat → Nat × Nat) (c : Nat) (h : head (byKey f) c = false) : (keysTo f c).findIdx? (fun x => x == f c) = some (cls (byKey f) c) := by
  rw [← keysTo_some f c h]
  exact findIdx_congr _ _ (fun x => Bool.eq_iff_iff.2 ⟨fun h => @beq_iff_eq _ instBEqOfDecidableEq _ _ _ |>.2 (beq_iff_eq.1 h), fun h => beq_iff_eq.2 (@beq_iff_eq _ instBEqOfDecidableEq _ _ _ |>.1 h)⟩) _
theorem keys_none (f : Nat → Nat × Nat) (c : Nat) (h : head (byKey f) c = true) : (keysTo f c).findIdx? (fun x => x == f c) = none := by
  rw [← keysTo_none f c h]
  exact findIdx_congr _ _ (fun x => Bool.eq_iff_iff.2 ⟨fun h => @beq_iff_eq _ instBEqOfDecidableEq _ _ _ |>.2 (beq_iff_eq.1 h), fun h => beq_iff_eq.2 (@beq_iff_eq _ instBEqOfDecidableEq _ _ _ |>.1 h)⟩) _
/-- The classes of the bytes below c. -/
def ptN (E : Nat → Nat → Bool) (c d : Nat) : Nat := if d < c then cls E d else 0
set_option maxHeartbeats 3200000 in
set_option maxRecDepth 100000 in
theorem refine_any (E : Nat → Nat → Bool) (hE : Eqv E) (n : Int) (v : Value) (L : List Nat) (w : World) (hv : SetsIn w v L) (hL : L.length ≤ 64) :
    Calls Tryd.prog 38 #[.agg (partC (cls E) n), v] w fun e w' =>
      e = .returned (.agg (partC (cls (byKey (keyC E L))) (nh (byKey (keyC E L)) 256 : Nat))) ∧ Below w.heap.size w w' := by
  have hz := zeroP
  have hmm := @run_makeMap Tryd.prog
  have hP : PartAt ((((w.alloc (.cells (partC (cls E) n) 63)).alloc (.cells (partC (fun _ => 0) 0) 63)).alloc (.cells (partC (fun _ => 0) 0) 63)).alloc (.map #[] 0)) w.heap.size (cls E) n := (((PartAt.new w (cls E) n).alloc _).alloc _).alloc _
  have hr := hP.range
  obtain ⟨hLm, a, cap, rfl, hcap, hvc⟩ := hv
  go_enter Tryd.func38, Tryd.ntmps38
  go_wp2_with (refine wpList_load_mid rfl 61 (.tmp 15) rfl w.heap.size 0 rfl (ofL (cls E)) _ hr Tryd.underlying61 rfl (sizeO (cls E)) ?_)
  have hF := byKey_eqv (keyC E L)
  have hQ : PartAt ((((w.alloc (.cells (partC (cls E) n) 63)).alloc (.cells (partC (fun _ => 0) 0) 63)).alloc (.cells (partC (fun _ => 0) 0) 63)).alloc (.map #[] 0)) (w.heap.size + 1 + 1) (fun _ => 0) 0 := by
    have := (PartAt.new ((w.alloc (.cells (partC (cls E) n) 63)).alloc (.cells (partC (fun _ => 0) 0) 63)) (fun _ => 0) 0).alloc (.map #[] 0)
    simpa using this
  have hR : PartAt ((((w.alloc (.cells (partC (cls E) n) 63)).alloc (.cells (partC (fun _ => 0) 0) 63)).alloc (.cells (partC (fun _ => 0) 0) 63)).alloc (.map #[] 0)) (w.heap.size + 1) (fun _ => 0) 0 := by
    have := ((PartAt.new (w.alloc (.cells (partC (cls E) n) 63)) (fun _ => 0) 0).alloc (.cells (partC (fun _ => 0) 0) 63)).alloc (.map #[] 0)
    simpa using this
  have hM : TraitMap ((((w.alloc (.cells (partC (cls E) n) 63)).alloc (.cells (partC (fun _ => 0) 0) 63)).alloc (.cells (partC (fun _ => 0) 0) 63)).alloc (.map #[] 0)) (w.heap.size + 1 + 1 + 1) [] := by
    have := TraitMap.made (((w.alloc (.cells (partC (cls E) n) 63)).alloc (.cells (partC (fun _ => 0) 0) 63)).alloc (.cells (partC (fun _ => 0) 0) 63))
    simpa using this
  have hB0 : Below w.heap.size w ((((w.alloc (.cells (partC (cls E) n) 63)).alloc (.cells (partC (fun _ => 0) 0) 63)).alloc (.cells (partC (fun _ => 0) 0) 63)).alloc (.map #[] 0)) := by
    repeat (first | refine Below.alloc ?_ (by simp <;> omega) _)
    exact Below.refl _ _
  generalize ((((w.alloc (.cells (partC (cls E) n) 63)).alloc (.cells (partC (fun _ => 0) 0) 63)).alloc (.cells (partC (fun _ => 0) 0) 63)).alloc (.map #[] 0)) = W0 at *
  clear hP hr hmm
  obtain ⟨R, hRe⟩ : ∃ R, R = w.heap.size + 1 := ⟨_, rfl⟩
  obtain ⟨q, hqe⟩ : ∃ q, q = R + 1 := ⟨_, rfl⟩
  obtain ⟨M, hMe⟩ : ∃ M, M = q + 1 := ⟨_, rfl⟩
  rw [← hRe] at hR hQ hM ⊢
  rw [← hqe] at hQ hM ⊢
  rw [← hMe] at hM ⊢
  have hRw : w.heap.size < R := by omega
  have hRq : R < q := by omega
  have hqM : q < M := by omega
  clear hRe hqe hMe
  replace hQ := hQ.congr (g := ptN (byKey (keyC E L)) 0) (fun c _ => by simp [ptN])
  go_loopw [17] (fun i wr => ∃ c : Nat, i = .int .i64 c ∧ c ≤ 256 ∧ PartAt wr q (ptN (byKey (keyC E L)) c) 0 ∧ PartAt wr R (fun _ => 0) 0 ∧ TraitMap wr M (keysTo (keyC E L) c) ∧ Below w.heap.size w wr) (fun i _ => (256 - intOf i).toNat)
  case atStart => exact ⟨0, rfl, by omega, hQ, hR, hM, hB0⟩
  case round =>
    obtain ⟨c, rfl, hc, hQ, hR, hM, hB⟩ := hrel
    have hMl := hM.lt
    by_cases hlt : c < 256
    · have hx := index_of (cls E) c hlt
      have hcE : cls E c ≤ c := cls_le E hE c
      have hdk : decide ((c : Int) < 256) = true := decide_eq_true (by omega)
      go_wp2
      obtain ⟨wo, rfl⟩ : ∃ wo : World, wo = wr := ⟨_, rfl⟩
      have hT0 := TraitAt.new wo (cls E c) 0
      have hBo : Below wo.heap.size wo (wo.alloc (.cells #[.int .u8 (cls E c), .int .u64 0] 118)) := (Below.refl _ _).alloc (Nat.le_refl _) _
      generalize wo.alloc (.cells #[.int .u8 (cls E c), .int .u64 0] 118) = w1 at *
      obtain ⟨T, hT⟩ : ∃ T, T = wo.heap.size := ⟨_, rfl⟩
      rw [← hT] at hT0 hBo hMl ⊢
      have hTw : w.heap.size ≤ T := by have := hB.size; omega
      have HT := Lib.hid hT
      clear hT
      go_loopw [25] (fun i wi => ∃ j : Nat, i = .int .i64 j ∧ j ≤ L.length ∧ TraitAt wi T (cls E c) (inb L c j) ∧ Below T wo wi) (fun i _ => (L.length - intOf i).toNat)
      case atStart => exact ⟨0, rfl, Nat.zero_le _, hT0, hBo⟩
      case round =>
        obtain ⟨j, rfl, hj, hTi, hBi⟩ := hrel
        have hTl := hTi.lt
        by_cases hjl : j < L.length
        · obtain ⟨b, o, rfl, hq⟩ := hvc j hjl
          have hBw : Below w.heap.size w wr := hB.trans (hBi.mono hTw)
          have s0 := (hBw.cell (World.block_lt_of_cell? _ _ (hq 0 (by omega)))).trans (hq 0 (by omega))
          have s1 := (hBw.cell (World.block_lt_of_cell? _ _ (hq 1 (by omega)))).trans (hq 1 (by omega))
          have s2 := (hBw.cell (World.block_lt_of_cell? _ _ (hq 2 (by omega)))).trans (hq 2 (by omega))
          have s3 := (hBw.cell (World.block_lt_of_cell? _ _ (hq 3 (by omega)))).trans (hq 3 (by omega))
          rw [Nat.add_zero] at s0
          clear hq
          have hin : inb L c (j + 1) = if (L.getD j 0).testBit c then inb L c j ||| 2 ^ j else inb L c j := rfl
          have hil := inb_lt L c j
          generalize L.getD j 0 = S at *
          have HI := Lib.hid hin
          clear hin
          go_wp2_with (go_at_call 53; refine (has_nat _ _ _ hlt).mono ?_; rintro e w5 ⟨rfl, hb5⟩)
          · have hBi5 : Below T wo w5 := (hBi.alloc (by omega) _).trans (hb5.mono (by simp; omega))
            have hT5 : TraitAt w5 T (cls E c) (inb L c j) := (hTi.kept ((Below.refl _ _).alloc (Nat.le_refl _) _) hTl).kept hb5 (by simp; omega)
            have HS : Hid (S.testBit c = true) := Lib.hid (by assumption)
            have k0 := hT5.c1
            have k1 := hT5.free 1
            have hTl5 := hT5.lt
            refine region_mix [(false, 0), (false, 1), (false, 2), (false, 3), (false, 4), (false, 5)] (fun w' => Below w5.heap.size w5 w') (by kernel_rfl) (by kernel_rfl) ((Below.refl _ _).drew) ?_
            simp only [planOps, List.map_cons, List.map_nil, List.getD_cons_zero, List.getD_cons_succ, List.length_cons, List.length_nil, List.drop_succ_cons, List.drop_zero]
            refine mix_seg (seg := [_, _, _, _, _, _]) (rest := []) rfl ((Below.refl _ _).drew) ?_
            intro ι hι F hF'
            have f0 := fun n => ((hF' n).cell (p := ⟨T, 1, none⟩) hTl5).trans k0
            repeat (go_big_quiet_step (fail))
            refine wpQuiet_nil ?_
            clear f0 hF' hι F
            show wpList _ _ _ _ _ _
            go_wp2
            refine NoPanic.normal ?_
            rw [bor_shl _ _ hil (by omega)]
            have hI := HI.out
            rw [if_pos HS.out] at hI
            rw [← hI]
            have hT6 := hT5.set (inb L c (j + 1))
            have hB6 : Below T wo (w5.setCell ⟨T, 1, none⟩ (.int .u64 (inb L c (j + 1)))) := hBi5.setCell (p := ⟨T, 1, none⟩) (Nat.le_refl _) _
            clear hI k0 k1
            generalize w5.setCell ⟨T, 1, none⟩ (.int .u64 (inb L c (j + 1))) = w6 at *
            go_wp2
            exact ⟨⟨j + 1, by go_num, by omega, hT6, hB6.drew⟩, by simp [intOf]; omega⟩
          · have hBi5 : Below T wo w5 := (hBi.alloc (by omega) _).trans (hb5.mono (by simp; omega))
            have hT5 : TraitAt w5 T (cls E c) (inb L c j) := (hTi.kept ((Below.refl _ _).alloc (Nat.le_refl _) _) hTl).kept hb5 (by simp; omega)
            have HS : Hid (S.testBit c = false) := Lib.hid (by assumption)
            have hI := HI.out
            rw [if_neg (by rw [HS.out]; exact Bool.false_ne_true)] at hI
            rw [← hI] at hT5
            exact ⟨⟨j + 1, by go_num, by omega, hT5, hBi5⟩, by simp [intOf]; omega⟩
        · have hjl' : j = L.length := by omega
          subst hjl'
          have hQ1 := hQ.kept hBi (by omega)
          have hR1 := hR.kept hBi (by omega)
          have hM1 := hM.kept hBi (by omega)
          have hBw : Below w.heap.size w wr := hB.trans (hBi.mono hTw)
          have t0 := hTi.c0
          have t1 := hTi.c1
          have cq := hQ1.cell c hlt
          have fq := hQ1.free c
          have hfin : ∀ (w' : World) (k : Nat), PartAt w' q (ptN (byKey (keyC E L)) c) 0 → cls (byKey (keyC E L)) c = k → PartAt (w'.setCell ⟨q, c, none⟩ (.int .u8 k)) q (ptN (byKey (keyC E L)) (c + 1)) 0 := by
            intro w' k h hk
            refine (h.set c k hlt).congr (fun d hd => ?_)
            unfold ptN
            by_cases e : d = c
            · subst e; rw [if_pos rfl, if_pos (by omega), hk]
            · rw [if_neg e]
              by_cases e2 : d < c
              · rw [if_pos e2, if_pos (by omega)]
              · rw [if_neg e2, if_neg (by omega)]
          have HF := Lib.hid hfin
          have HM1 := Lib.hid hM1
          clear hfin hM hQ hR hvc
          have hix : 0 ≤ (c : Int) := by omega
          cases hd : head (byKey (keyC E L)) c
          · have hl : (Instr.lookup 116 (.map (some M)) (.agg #[.int .u8 (cls E c), .int .u64 (inb L c L.length)]) true).run Tryd.prog wr = .ok (.tuple #[.int .u8 (cls (byKey (keyC E L)) c), .bool true]) wr := by
              have := HM1.out.look (keyC E L c)
              rw [keys_some _ _ hd] at this
              exact this
            have HK : Hid (keysTo (keyC E L) (c + 1) = keysTo (keyC E L) c) := Lib.hid (keysTo_old _ _ hd)
            clear hd
            go_wp2
            go_roundw
            case rel =>
              refine ⟨c + 1, by go_num, by omega, HF.out _ _ hQ1 rfl, hR1.kept (A := q) ((Below.refl _ _).setCell (p := ⟨q, c, none⟩) (Nat.le_refl _) _) (by omega), ?_, hBw.setCell (p := ⟨q, c, none⟩) (by simp; omega) _⟩
              rw [HK.out]
              unfold TraitMap
              rw [heap_setCell_other _ _ _ _ (by simp; omega)]
              exact HM1.out
            case measure => simp [intOf]; omega
          · have hl : (Instr.lookup 116 (.map (some M)) (.agg #[.int .u8 (cls E c), .int .u64 (inb L c L.length)]) true).run Tryd.prog wr = .ok (.tuple #[.int .u8 0, .bool false]) wr := by
              have := HM1.out.look (keyC E L c)
              rw [keys_none _ _ hd] at this
              exact this
            have HK : Hid (keysTo (keyC E L) (c + 1) = keysTo (keyC E L) c ++ [keyC E L c]) := Lib.hid (keysTo_new _ _ hd)
            have hlen := HM1.out.len 3
            obtain ⟨w7, hput, hM7, hg7⟩ := HM1.out.put (keyC E L c) (keys_none _ _ hd)
            have hnl : (keysTo (keyC E L) c).length = cls (byKey (keyC E L)) c := by rw [keysTo_length, cls_head _ hF c hd]
            have hcl := cls_le _ hF c
            rw [hnl] at hput hlen
            have hb7 : Below M wr w7 := (Below.refl _ _).grown hg7 (by omega) (by simp)
            have hQ7 := hQ1.kept hb7 (by omega)
            have hR7 := hR1.kept hb7 (by omega)
            have hB7 : Below w.heap.size w w7 := hBw.trans (hb7.mono (by omega))
            have cq7 := hQ7.cell c hlt
            have fq7 := hQ7.free c
            have HM7 := Lib.hid hM7
            have hw8 : IntKind.u8.wrap (cls (byKey (keyC E L)) c : Int) = (cls (byKey (keyC E L)) c : Int) := by
              simp [IntKind.wrap, IntKind.bits, IntKind.signed]; omega
            clear hd hnl hM7 hg7 hb7 hE hF
            go_wp2_with (at_mapUpdate; refine wpList_put rfl _ _ _ _ rfl _ _ _ rfl rfl rfl hput ?_)
            refine ⟨⟨c + 1, by go_num, by omega, HF.out _ _ hQ7 rfl, hR7.kept (A := q) ((Below.refl _ _).setCell (p := ⟨q, c, none⟩) (Nat.le_refl _) _) (by omega), ?_, hB7.setCell (p := ⟨q, c, none⟩) (by simp; omega) _⟩, by simp [intOf]; omega⟩
            rw [HK.out]
            unfold TraitMap
            rw [heap_setCell_other _ _ _ _ (by simp; omega)]
            exact HM7.out
    · have hc' : c = 256 := by omega
      subst hc'
      have hlen := hM.len 3
      rw [keysTo_length] at hlen
      have hQ' := hQ.congr (g := cls (byKey (keyC E L))) (fun d hd => by unfold ptN; rw [if_pos hd])
      have cN := hQ'.cellN
      have fN := hQ'.free 256
      have hQ8 := hQ'.setN (nh (byKey (keyC E L)) 256 : Nat)
      have hb8 : Below q wr (wr.setCell ⟨q, 256, none⟩ (.int .i64 (nh (byKey (keyC E L)) 256 : Nat))) := (Below.refl _ _).setCell (p := ⟨q, 256, none⟩) (Nat.le_refl _) _
      have hR8 := hR.kept hb8 hRq
      have hB8 : Below w.heap.size w (wr.setCell ⟨q, 256, none⟩ (.int .i64 (nh (byKey (keyC E L)) 256 : Nat))) := hB.trans (hb8.mono (by omega))
      have HQ8 := Lib.hid hQ8
      have HR8 := Lib.hid hR8
      clear hQ hM hQ' hb8 hR hQ8 hR8
      go_wp2_with (first
        | (refine wpList_load_row rfl 63 (.tmp 5) rfl q rfl 63 (partC (cls (byKey (keyC E L))) (nh (byKey (keyC E L)) 256 : Nat)) (0, 0) _ HQ8.out Tryd.underlying63 rfl (sizeP _ _) ?_)
        | (refine wpList_store_row rfl 63 (.tmp 4) (.tmp 63) rfl R (partC (cls (byKey (keyC E L))) (nh (byKey (keyC E L)) 256 : Nat)) rfl rfl 63 (partC (fun _ => 0) 0) HR8.out (sizeP _ _) (by rw [partC_size, partC_size]) (partC_one _ _) ?_))
      have h3 : ((wr.setCell ⟨q, 256, none⟩ (.int .i64 (nh (byKey (keyC E L)) 256 : Nat))).setRow R (partC (cls (byKey (keyC E L))) (nh (byKey (keyC E L)) 256 : Nat))).heap[R]? = some (.cells (partC (cls (byKey (keyC E L))) (nh (byKey (keyC E L)) 256 : Nat)) 63 (0, 0)) := setRow_heap _ _ _ _ _ _ HR8.out
      refine bodyPost_ret (v := .agg (partC (cls (byKey (keyC E L))) (nh (byKey (keyC E L)) 256 : Nat))) (results_cell_row (p := 4) Tryd.results38 _ _ R 63 _ (0, 0) _ rfl h3 Tryd.underlying63 rfl (sizeP _ _)) rfl ⟨rfl, ?_⟩
      exact hB8.trans ⟨rfl, rfl, rfl, by simp, fun k hk => setRow_other _ _ _ _ (by omega)⟩
end Go.Proofs.YtcgllipcnmlkbaaDoor
namespace Go.Proofs.YtcgllipcnmlkbaaDoor
open Go.RowKit Go.Shelf Sets Cls
attribute [local go_sem] Oper.semAt_some
/-- The k-th part of a slice. -/
def chunkV (a : Option Addr) (len k : Nat) : Value :=
  match a with
  | none => .slice none 0 0
  | some x => .slice (some ⟨x.block, x.off + 64 * k * 4, none⟩) (min 64 (len - 64 * k)) (min 64 (len - 64 * k))
def chunkL (L : List Nat) (k : Nat) : List Nat := (L.drop (64 * k)).take 64
theorem chunkL_length (L : List Nat) (k : Nat) : (chunkL L k).length = min 64 (L.length - 64 * k) := by simp [chunkL]
theorem chunkL_get (L : List Nat) (k i : Nat) (h : i < (chunkL L k).length) : (chunkL L k).getD i 0 = L.getD (64 * k + i) 0 ∧ 64 * k + i < L.length := by
  rw [chunkL_length] at h
  refine ⟨?_, by omega⟩
  unfold chunkL
  rw [List.getD_eq_getElem?_getD, List.getD_eq_getElem?_getD, List.getElem?_take_of_lt (by omega), List.getElem?_drop]
theorem chunk_in {w : World} {a : Option Addr} {cap : Nat} {L : List Nat} (h : SetsIn w (.slice a L.length cap) L) (k : Nat) : SetsIn w (chunkV a L.length k) (chunkL L k) := by
  obtain ⟨hm, a', cap', he, hcap, hc⟩ := h
  injection he with h1 h2 h3
  subst h1 h3
  have hl := chunkL_length L k
  refine ⟨by omega, ?_⟩
  cases a with
  | none =>
    have : L.length = 0 := by
      rcases Nat.eq_zero_or_pos L.length with h | h
      · exact h
      · obtain ⟨b, o, e, -⟩ := hc 0 h; cases e
    have h0 : (chunkL L k).length = 0 := by omega
    exact ⟨none, 0, by unfold chunkV; rw [h0], by omega, fun i hi => by omega⟩
  | some x =>
    refine ⟨some ⟨x.block, x.off + 64 * k * 4, none⟩, _, by unfold chunkV; rw [hl], by omega, fun i hi => ?_⟩
    obtain ⟨e, hlt⟩ := chunkL_get L k i hi
    obtain ⟨b, o, hx, hq⟩ := hc _ hlt
    injection hx with hx
    subst hx
    refine ⟨_, _, rfl, fun q hq4 => ?_⟩
    have := hq q hq4
    rw [e]
    rw [show o + 64 * k * 4 + i * 4 + q = o + (64 * k + i) * 4 + q from by omega]
    exact this
/-- What a round keeps: the slice's and the number's variables. -/
def KeepC (Bs Bn : Nat) (A B : World) : Prop := B.cell? ⟨Bs, 0, none⟩ = A.cell? ⟨Bs, 0, none⟩ ∧ B.cell? ⟨Bn, 0, none⟩ = A.cell? ⟨Bn, 0, none⟩
theorem KeepC.trans {Bs Bn : Nat} {A B C : World} (h : KeepC Bs Bn A B) (k : KeepC Bs Bn B C) : KeepC Bs Bn A C := ⟨k.1.trans h.1, k.2.trans h.2⟩
def upto (k : Nat) : List Nat := List.range k
set_option maxRecDepth 100000 in
set_option maxHeartbeats 2000000 in
theorem chunk1_in (n : Nat) (hn : 1 ≤ n) (l Bs Bn b o cap : Nat) (len : Nat) (hlen : len * 32 ≤ 140737488351232) (hcap : len ≤ cap) (J Jx : List Nat → World → Prop) (hJd : ∀ s w, J s w → J s w.drew)
    (hY : ∀ pre x W, J pre W → pre.length < len → YieldAt Fence.wide (n - 1) Tryd.prog l #[chunkV (some ⟨b, o, none⟩) len x] W fun e W' =>
      (e = .returned (.bool true) ∧ J (pre ++ [x]) W' ∧ KeepC Bs Bn W W') ∨ (e = .returned (.bool false) ∧ Jx (pre ++ [x]) W'))
    (W : World) (hs : W.cell? ⟨Bs, 0, none⟩ = some (.slice (some ⟨b, o, none⟩) len cap)) (hN : W.cell? ⟨Bn, 0, none⟩ = some (.int .i64 64)) (h0 : J [] W) :
    CallsIn Fence.wide n Tryd.prog 52 #[.func (.yield l) #[] #[], .pointer (some ⟨Bs, 0, none⟩), .pointer (some ⟨Bn, 0, none⟩)] W fun e W' => (∃ v, e = .returned v) ∧
      ((∃ ys, (∃ k, 64 * k < len + 64 ∧ len ≤ 64 * k ∧ ys = upto k) ∧ J ys W') ∨ (∃ pre, Jx pre W')) := by
  refine callsIn_of_wp Tryd.func52 rfl trivial ?_ rfl
  simp only [Tryd.ntmps52, List.size_toArray, List.length_cons, List.length_nil, Nat.reduceAdd, Nat.reduceSub, Array.replicate_succ, Array.replicate_zero, List.push_toArray, List.append_toArray, List.nil_append, List.cons_append]
  gi_wp2
  gi_loopw [4] (fun i wr => ∃ k : Nat, 64 * k < len + 64 ∧ i = .int .i64 (64 * (k : Int)) ∧ J (upto k) wr ∧ KeepC Bs Bn W wr) (fun i _ => (len + 64) - (intOf i).toNat)
  case atStart => exact ⟨0, by omega, rfl, h0, rfl, rfl⟩
  case round =>
    obtain ⟨k, hk, rfl, hJs, hnx⟩ := hrel
    have s1 := hnx.1.trans hs
    have s2 := hnx.2.trans hN
    by_cases hlt : 64 * k < len
    · have hcp : 64 * (k : Int) < (cap : Int) := by omega
      have hcl : (len : Int) ≤ (cap : Int) := by omega
      have hll : 64 * (k : Int) ≤ (len : Int) := by omega
      have h0k : 0 ≤ 64 * (k : Int) := by omega
      have hbs := World.block_lt_of_cell? _ _ s1
      have hbn := World.block_lt_of_cell? _ _ s2
      gi_wp2
      refine wpIn_wide.2 ?_
      refine region_mix [(false, 0), (false, 1), (false, 2), (false, 3), (false, 4), (false, 5)] (fun w' => Below wr.heap.size wr w') (by kernel_rfl) (by kernel_rfl) ((Below.refl _ _).drew) ?_
      simp only [planOps, List.map_cons, List.map_nil, List.getD_cons_zero, List.getD_cons_succ, List.length_cons, List.length_nil, List.drop_succ_cons, List.drop_zero]
      refine mix_seg (seg := [_, _, _, _, _, _]) (rest := []) rfl ((Below.refl _ _).drew) ?_
      intro ι hι F hF
      have f1 := fun n => ((hF n).cell (p := ⟨Bs, 0, none⟩) hbs).trans s1
      have f2 := fun n => ((hF n).cell (p := ⟨Bn, 0, none⟩) hbn).trans s2
      repeat (go_big_quiet_step (fail))
      refine wpQuiet_nil ?_
      clear f1 f2 hF hι F
      obtain ⟨m, hm⟩ : ∃ m : Nat, m = min 64 (len - 64 * k) := ⟨_, rfl⟩
      rw [show (if ((len - 64 * k : Nat) : Int) < 64 then ((len - 64 * k : Nat) : Int) else 64) = (m : Int) from by split <;> omega]
      have hm0 : 0 < m := by omega
      have hm64 : m ≤ 64 := by omega
      have hmc : 64 * (k : Int) + (m : Int) ≤ (cap : Int) := by omega
      have hmc2 : (64 * (k : Int) + (m : Int)).toNat = 64 * k + m := by omega
      show wpList _ _ _ _ _ _
      go_wp2
      refine NoPanic.normal ?_
      have hch : chunkV (some ⟨b, o, none⟩) len k = .slice (some ⟨b, o + 64 * k * 4, none⟩) m m := by unfold chunkV; rw [hm]
      obtain ⟨fn, tmps, assign, body, hy, hR⟩ := hY _ k wr.drew (hJd _ _ hJs) (by rw [upto, List.length_range]; omega)
      rw [hch] at hy
      have HM := Lib.hid hm
      clear hm hch
      gi_wp2
      refine hR.mono ?_
      rintro e W3 (⟨rfl, hJ3, hk3⟩ | ⟨rfl, hJx3⟩)
      · have s3 := hk3.2.trans ((World.cell?_drew _ _).trans s2)
        have hsum : 64 * (k : Int) + 64 ≤ 9223372036854775807 := by omega
        gi_wp2
        go_roundw
        case rel => exact ⟨k + 1, by omega, by rw [show 64 * ((k + 1 : Nat) : Int) = 64 * (k : Int) + 64 from by omega], by rw [show upto (k + 1) = upto k ++ [k] from List.range_succ]; exact hJ3, hnx.trans hk3⟩
        case measure => simp [intOf]; omega
      · gi_wp2
        refine bodyPost_ret (results_none rfl _ _ _) rfl ?_
        exact ⟨⟨_, rfl⟩, .inr ⟨_, hJx3⟩⟩
    · gi_wp2
      go_end0
      exact ⟨⟨_, rfl⟩, .inl ⟨_, ⟨k, hk, by omega, rfl⟩, hJs⟩⟩
set_option maxRecDepth 100000 in
set_option maxHeartbeats 1000000 in
theorem chunk1_nil (n : Nat) (l Bs Bn cap : Nat) (a : Option Addr) (J : List Nat → World → Prop) (W : World) (hs : W.cell? ⟨Bs, 0, none⟩ = some (.slice a 0 cap)) (h0 : J [] W) :
    CallsIn Fence.wide n Tryd.prog 52 #[.func (.yield l) #[] #[], .pointer (some ⟨Bs, 0, none⟩), .pointer (some ⟨Bn, 0, none⟩)] W fun e W' => (∃ v, e = .returned v) ∧ J [] W' := by
  refine callsIn_of_wp Tryd.func52 rfl trivial ?_ rfl
  simp only [Tryd.ntmps52, List.size_toArray, List.length_cons, List.length_nil, Nat.reduceAdd, Nat.reduceSub, Array.replicate_succ, Array.replicate_zero, List.push_toArray, List.append_toArray, List.nil_append, List.cons_append]
  gi_wp2
  gi_loopw [4] (fun i wr => i = .int .i64 0 ∧ J [] wr ∧ Below W.heap.size W wr) (fun _ _ => 0)
  case atStart => exact ⟨rfl, h0, Below.refl _ _⟩
  case round =>
    obtain ⟨rfl, hJs, hnx⟩ := hrel
    have s1 := (hnx.cell (p := ⟨Bs, 0, none⟩) (World.block_lt_of_cell? _ _ hs)).trans hs
    gi_wp2
    go_end0
    exact ⟨⟨_, rfl⟩, hJs⟩
set_option maxHeartbeats 1000000 in
theorem chunk_any (a : Option Addr) (len cap : Nat) (w : World) :
    Calls Tryd.prog 37 #[.slice a len cap, .int .i64 64] w fun e w' =>
      e = .returned (.func (.func 52) #[] #[.pointer (some ⟨w.heap.size, 0, none⟩), .pointer (some ⟨w.heap.size + 1, 0, none⟩)]) ∧ w' = (w.alloc (.cells #[.slice a len cap] 29)).alloc (.cells #[.int .i64 64] 3) := by
  go_enter Tryd.func37, Tryd.ntmps37
  go_wp2
  go_ret
  exact ⟨rfl, rfl⟩
theorem chunk_stops (n : Nat) (hn : 1 ≤ n) (Bs Bn : Nat) (a : Option Addr) (cap : Nat) (L : List Nat) (hreach : L.length * 32 ≤ 140737488351232) (w : World) (hBs : Bs < w.heap.size) (hBn : Bn < w.heap.size)
    (hs : w.cell? ⟨Bs, 0, none⟩ = some (.slice a L.length cap)) (hN : w.cell? ⟨Bn, 0, none⟩ = some (.int .i64 64)) (hI : SetsIn w (.slice a L.length cap) L) :
    SeqStopsK Fence.wide n Tryd.prog 52 #[.pointer (some ⟨Bs, 0, none⟩), .pointer (some ⟨Bn, 0, none⟩)] (fun k : Nat => #[chunkV a L.length k]) (KeepC Bs Bn)
      (fun ys => ∃ k, 64 * k < L.length + 64 ∧ L.length ≤ 64 * k ∧ ys = upto k) (fun _ => True) L.length w := fun l J Jx W hW hJ hJx hY h0 => by
  have hs' := (hW.cell (p := ⟨Bs, 0, none⟩) hBs).trans hs
  have hN' := (hW.cell (p := ⟨Bn, 0, none⟩) hBn).trans hN
  obtain ⟨hm, a', cap', he, hcap, hc⟩ := hI
  injection he with h1 h2 h3
  subst h1 h3
  by_cases hl0 : L.length = 0
  · rw [hl0] at hs'
    exact (chunk1_nil n l Bs Bn cap a J W hs' h0).mono fun e W' ⟨he, hj⟩ => ⟨he, .inl ⟨[], ⟨0, by omega, by omega, rfl⟩, hj⟩⟩
  · obtain ⟨b, o, rfl, -⟩ := hc 0 (by omega)
    refine (chunk1_in n hn l Bs Bn b o cap L.length hreach hcap J Jx (fun s w' hj => hJ s w' _ none hj ⟨rfl, rfl, rfl, Nat.le_refl _, fun _ _ _ => rfl⟩ (fun r e => by cases e)) hY W hs' hN' h0).mono ?_
    rintro e W' ⟨he, ⟨ys, ⟨k, h1, h2, rfl⟩, hj⟩ | ⟨pre, hj⟩⟩
    · exact ⟨he, .inl ⟨_, ⟨k, h1, h2, rfl⟩, hj⟩⟩
    · exact ⟨he, .inr ⟨pre, trivial, hj⟩⟩
end Go.Proofs.YtcgllipcnmlkbaaDoor
