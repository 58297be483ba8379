/- The map from traits (a struct of a byte and a word) to classes: found, not found, put. -/
import Derived.Test.YtdhnaldjofpeeaaDoorCls0
import Derived.Laws.StructEq
import Derived.Maps.OwnOps
import Derived.Maps.Own
namespace Go.Proofs.YtdhnaldjofpeeaaDoor
open Go.RowKit Sets Cls
def keyV (k : Nat × Nat) : Value := .agg #[.int .u8 k.1, .int .u64 k.2]
/-- The entries of the keys l, the first one numbered i. -/
def ents : Nat → List (Nat × Nat) → List MapEntry
  | _, [] => []
  | i, k :: l => { key := keyV k, val := .int .u8 i, born := i } :: ents (i + 1) l
theorem ents_length : ∀ (l : List (Nat × Nat)) (i : Nat), (ents i l).length = l.length
  | [], _ => rfl
  | _ :: l, i => by simp [ents, ents_length l (i + 1)]
theorem ents_snoc (k : Nat × Nat) : ∀ (l : List (Nat × Nat)) (i : Nat), ents i (l ++ [k]) = ents i l ++ [{ key := keyV k, val := .int .u8 (i + l.length : Nat), born := i + l.length }]
  | [], i => by simp [ents]
  | a :: l, i => by
    simp only [List.cons_append, ents, ents_snoc k l (i + 1), List.length_cons]
    rw [show i + 1 + l.length = i + (l.length + 1) from by omega]
theorem eqTrait (a b a' b' : Int) (w : World) : (Op.equal 63 (.agg #[.int .u8 a, .int .u64 b]) (.agg #[.int .u8 a', .int .u64 b'])).run Tryd.prog w = .ok (a == a' && b == b') w := by
  have u1 := Tryd.underlying5
  have u2 := Tryd.underlying29
  have hp : Tryd.prog.stoodInHeld 63 = false := by kernel_rfl
  unfold Op.equal Op.maxDepth
  rw [show (10000 : Nat) = 9999 + 1 from rfl, run_equalIn_agg w 9999 _ _ _ Tryd.underlying63 hp]
  simp only [Program.fieldsOf, Tryd.underlying63]
  go_simp
  by_cases h1 : a = a' <;> by_cases h2 : b = b' <;> simp [h1, h2]
theorem check_traitD (d : Nat) (em : Bool) (a b : Int) (w : World) : (Instr.checkKey em (d + 1 + 1) 63 (.agg #[.int .u8 a, .int .u64 b])).run Tryd.prog w = .ok () w := by
  have u1 := Tryd.underlying5
  have u2 := Tryd.underlying29
  have a1 := Tryd.isAgg5
  have a2 := Tryd.isAgg29
  rw [Instr.checkKey]
  simp only [Sem.run_bind, run_underlying Tryd.underlying63, Result.andThen_ok]
  rw [← Array.forIn_toList]
  go_simp
  simp [Instr.checkKey, Sem.run_bind, run_underlying u1, run_underlying u2, Result.andThen_ok]
theorem check_trait (em : Bool) (a b : Int) (w : World) : (Instr.checkKey em 10000 63 (.agg #[.int .u8 a, .int .u64 b])).run Tryd.prog w = .ok () w := check_traitD 9998 em a b w
theorem find_asking (k : Nat × Nat) (w : World) : ∀ (l : List (Nat × Nat)) (i : Nat), (Instr.findAsking 63 (keyV k) (ents i l) i).run Tryd.prog w = .ok ((l.findIdx? (· == k)).map fun j => (i + j, Value.int .u8 (i + j : Nat))) w
  | [], i => by simp [ents, Instr.findAsking]
  | q :: l, i => by
    simp only [ents, Instr.findAsking, Sem.run_bind]
    have e := eqTrait k.1 k.2 q.1 q.2 w
    unfold keyV at *
    rw [e]
    simp only [Result.andThen_ok, Sem.run_ite, Sem.run_pure]
    have ih := find_asking k w l (i + 1)
    unfold keyV at ih
    by_cases h : q = k
    · subst h
      simp [List.findIdx?_cons]
    · have hb : ((k.1 : Int) == q.1 && (k.2 : Int) == q.2) = false := by
        rw [Bool.eq_false_iff]; intro h'
        simp at h'
        exact h (Prod.ext (by omega) (by omega))
      rw [hb, if_neg (by simp), ih, List.findIdx?_cons]
      simp only [beq_iff_eq, h, if_false, Option.map_map]
      congr 2
      funext j
      simp only [Function.comp, Prod.mk.injEq]
      exact ⟨by omega, by congr 1; omega⟩
theorem find_key (k : Nat × Nat) (w : World) (l : List (Nat × Nat)) : (Instr.findKey 63 (keyV k) (ents 0 l)).run Tryd.prog w = .ok ((l.findIdx? (· == k)).map fun j => (j, Value.int .u8 (j : Nat))) w := by
  unfold Instr.findKey
  simp only [Sem.run_bind, run_underlying Tryd.underlying63, Result.andThen_ok]
  have h := find_asking k w l 0
  simp only [Nat.zero_add] at h
  cases l with
  | nil => simp [ents, Instr.findNow]
  | cons q l =>
    have : Instr.findNow (.struct #[{ name := "class", type := 5, offset := 0, embedded := false, tag := "", pkgPath := "shibboleth/classes", byteOffset := 0 }, { name := "in", type := 29, offset := 1, embedded := false, tag := "", pkgPath := "shibboleth/classes", byteOffset := 8 }]) (keyV k) (ents 0 (q :: l)) 0 = none := by
      simp [ents, Instr.findNow, Instr.sameNow]
    rw [this]
    exact h
/-- Block g is the map of the keys l, each with its number. -/
def TraitMap (w : World) (g : Nat) (l : List (Nat × Nat)) : Prop := w.heap[g]? = some (.map (ents 0 l).toArray l.length)
theorem TraitMap.lt {w : World} {g : Nat} {l : List (Nat × Nat)} (h : TraitMap w g l) : g < w.heap.size := (Array.getElem?_eq_some_iff.1 h).1
theorem TraitMap.kept {w w' : World} {A g : Nat} {l : List (Nat × Nat)} (h : TraitMap w g l) (hb : Below A w w') (hA : g < A) : TraitMap w' g l := by
  unfold TraitMap at *; rw [hb.block _ hA]; exact h
theorem TraitMap.made (w : World) : TraitMap (w.alloc (.map #[] 0)) w.heap.size [] := heap_alloc_new w _
theorem zeroB (w : World) : (zeroValue 5).run Tryd.prog w = .ok (.int .u8 0) w := by kernel_rfl
theorem getObj_run {P : Program} {w : World} {g : Nat} {es : Array MapEntry} {clock : Nat} (h : w.heap[g]? = some (.map es clock)) : (getObj g).run P w = .ok (.map es clock) w := MapKept.run_getObj_map h
theorem TraitMap.look {w : World} {g : Nat} {l : List (Nat × Nat)} (h : TraitMap w g l) (k : Nat × Nat) :
    (Instr.lookup 61 (.map (some g)) (.agg #[.int .u8 k.1, .int .u64 k.2]) true).run Tryd.prog w =
      .ok (match l.findIdx? (· == k) with | some j => .tuple #[.int .u8 (j : Nat), .bool true] | none => .tuple #[.int .u8 0, .bool false]) w := by
  unfold Instr.lookup
  have hc := fun em => check_trait em k.1 k.2 w
  have hf := find_key k w l
  unfold keyV at hf
  simp only [Sem.run_bind, run_underlying Tryd.underlying61, Result.andThen_ok, getObj_run h, Sem.run_pure, hc, hf]
  cases l.findIdx? (· == k) with
  | none => simp
  | some j => simp
theorem TraitMap.put {w : World} {g : Nat} {l : List (Nat × Nat)} (h : TraitMap w g l) (k : Nat × Nat) (hk : l.findIdx? (· == k) = none) :
    ∃ w', (Instr.mapUpdate 61 (.map (some g)) (.agg #[.int .u8 k.1, .int .u64 k.2]) (.int .u8 l.length)).run Tryd.prog w = .ok () w' ∧ TraitMap w' g (l ++ [k]) ∧ w.grownBy w' (some g) := by
  have hc := fun em => check_trait em k.1 k.2 w
  have hf := find_key k w l
  rw [hk] at hf
  unfold keyV at hf
  have hg : w.heap[g]? = some (.map (ents 0 l).toArray l.length) := h
  refine ⟨ChangeMaps.setBlock w g (.map ((ents 0 l).toArray.push { key := .agg #[.int .u8 k.1, .int .u64 k.2], val := .int .u8 l.length, born := l.length }) (l.length + 1)), ?_, ?_, ⟨rfl, rfl, rfl, by simp [ChangeMaps.setBlock], fun i _ hi => ChangeMaps.heap_setBlock_other hg _ (fun e => hi (by rw [e]))⟩⟩
  · unfold Instr.mapUpdate
    simp only [Sem.run_bind, run_underlying Tryd.underlying61, Result.andThen_ok, getObj_run h, hc, hf, Option.map_none]
    exact MapKept.run_setObj_map _ hg
  · unfold TraitMap
    rw [ChangeMaps.heap_setBlock_same hg _, ents_snoc]
    simp [keyV]
theorem wpList_put {P : Program} {w : World} {ops : Array Oper} {rest : List Oper} {o : Oper} {a : Act} {Q : Exit → Act → World → Prop}
    (hg : o.guard = none) (m x v : Operand) (t : TypeId) (hop : o.op = Op.mapUpdate t m x v) (mv xv vv : Value) (hm : a.eval m = mv) (hx : a.eval x = xv) (hv : a.eval v = vv) {w' : World}
    (hrun : (Instr.mapUpdate t mv xv vv).run P w = .ok () w') (hK : wpList P ops Q rest (a.put o.dst undef) w') : wpList P ops Q (o :: rest) a w := by
  refine wpList_plain hg fun K' hK' => ?_
  unfold Oper.wp
  simp [execOp, hop, hm, hx, hv, hrun, Result.andThen]
  exact hK' _ _ hK
/-- len(m). -/
theorem TraitMap.len {w : World} {g : Nat} {l : List (Nat × Nat)} (h : TraitMap w g l) (ty : TypeId) : (Builtin.len_ #[61] ty #[.map (some g)]).run Tryd.prog w = .ok (.int .i64 l.length) w := by
  unfold Builtin.len_
  have hg : w.heap[g]? = some (.map (ents 0 l).toArray l.length) := h
  simp [run_underlying Tryd.underlying61, getObj_run hg, goInt, Result.andThen, ents_length]
end Go.Proofs.YtdhnaldjofpeeaaDoor
