/- Several texts in one. -/
import Derived.Test.YtcgllipcnmlkbaaDoorPkA
import Derived.Test.YtcgllipcnmlkbaaDoorPkB
import Derived.Test.YtcgllipcnmlkbaaDoorPkC
import Derived.Maps.AppendAt
import Derived.Lib.AppendStr
import Derived.Lib.Bytealg
import Derived.Deep.QuietTactic
import Derived.BigQuiet
import Derived.Laws.IdiomStrings
import Derived.Laws.Strings
import Derived.Lib.Strings
import Derived.Test.YtcgllipcnmlkbaaDoorProg
import Derived.WalkKit
import Derived.WalkSpells
import Derived.WalkLawsBesides
import Derived.Lib.Hide
namespace Go.Proofs.YtcgllipcnmlkbaaDoor
open Go.RowKit Sets Tr
/-- v holds the bytes l, in memory of the call's own (from block B on). -/
def Out (B : Nat) (w : World) (v : Value) (l : List Nat) : Prop := w.ownsRow B 5 1 v l.length (u8s l)
theorem Out.nil (B : Nat) (w : World) : Out B w (.slice none 0 0) [] := World.ownsRow_nil _ _ _ _
theorem Out.slice {B : Nat} {w : World} {v : Value} {l : List Nat} (h : Out B w v l) : ∃ a c, v = .slice a l.length c ∧ l.length ≤ c := by
  rcases h.2 with ⟨h1, h2⟩ | ⟨g, cap, cur, h1, -, -, h2, -⟩
  · exact ⟨none, 0, by rw [h1, h2], by omega⟩
  · exact ⟨_, cap, h1, h2⟩
theorem Out.below {B : Nat} {w w' : World} {v : Value} {l : List Nat} (h : Out B w v l) (hb : Below w.heap.size w w') : Out B w' v l := by
  obtain ⟨h1, h2⟩ := h
  refine ⟨h1, ?_⟩
  rcases h2 with h2 | ⟨g, cap, cur, h3, h4, h5, h6⟩
  · exact .inl h2
  · exact .inr ⟨g, cap, cur, h3, h4, by rw [hb.block _ (Array.getElem?_eq_some_iff.1 h5).1]; exact h5, h6⟩
theorem u8s_append (D E : List Nat) : u8s (D ++ E) = u8s D ++ u8s E := List.map_append
theorem u8s_length (D : List Nat) : (u8s D).length = D.length := List.length_map _
theorem u8s_one (D : List Nat) : ∀ u ∈ u8s D, u.oneCell' = true := by
  intro u hu
  obtain ⟨x, -, rfl⟩ := List.mem_map.1 hu
  rfl
/-- What an append onto v leaves of w: all but v's own block; and v' lies there, or is new. -/
structure Ap (w : World) (v : Value) (w' : World) (v' : Value) : Prop where
  size : w.heap.size ≤ w'.heap.size
  block : ∀ k, k < w.heap.size → v.ownBlock ≠ some k → w'.heap[k]? = w.heap[k]?
  own : ∀ g, v'.ownBlock = some g → v.ownBlock = some g ∨ w.heap.size ≤ g
theorem Ap.refl (w : World) (v : Value) : Ap w v w v := ⟨Nat.le_refl _, fun _ _ _ => rfl, fun _ h => .inl h⟩
theorem Ap.of_below {w w' : World} (v : Value) (h : Below w.heap.size w w') : Ap w v w' v := ⟨h.size, fun k hk _ => h.block k hk, fun _ h => .inl h⟩
theorem Ap.trans {w w1 w2 : World} {v v1 v2 : Value} (h : Ap w v w1 v1) (k : Ap w1 v1 w2 v2) : Ap w v w2 v2 := by
  refine ⟨Nat.le_trans h.size k.size, fun i hi hn => ?_, fun g hg => ?_⟩
  · rw [k.block i (Nat.lt_of_lt_of_le hi h.size) (fun e => ?_), h.block i hi hn]
    rcases h.own i e with h1 | h1
    · exact hn h1
    · omega
  · rcases k.own g hg with h1 | h1
    · exact h.own g h1
    · exact .inr (Nat.le_trans h.size h1)
theorem Ap.bytes {w w' : World} {v v' x : Value} {l : List Nat} (h : Ap w v w' v') (hx : BytesAt w x l) (hn : ∀ g, x.ownBlock = some g → v.ownBlock ≠ some g) : BytesAt w' x l := by
  obtain ⟨h1, h2, a, cap, h3, h4⟩ := hx
  refine ⟨h1, h2, a, cap, h3, fun i hi => ?_⟩
  obtain ⟨b, o, e, hc⟩ := h4 i hi
  refine ⟨b, o, e, ?_⟩
  rw [← hc]
  exact World.cell?_of_block (w := w) (h.block b (World.block_lt_of_cell? _ _ hc) (hn b (by rw [h3, e]; rfl)))
/-- what such a call leaves, and what of the world it kept -/
def OutAp (B : Nat) (w : World) (v : Value) (l : List Nat) (e : Ending) (w' : World) : Prop := ∃ v', e = .returned v' ∧ Out B w' v' l ∧ Below B w w' ∧ Ap w v w' v'
/-- bytes that were just laid are appended -/
theorem wpList_out {ops : Array Oper} {rest : List Oper} {o : Oper} {a : Act} {w : World} {Q : Exit → Act → World → Prop} (hgd : o.guard = none) (s x : Operand)
    (ho : o.op = .call { callee := .builtin .append, args := #[s, x], argTypes := #[72, 72] }) (B : Nat) (v : Value) (D E : List Nat) (cs : Array Value) (hcs : cs = (u8s E).toArray) (hs : a.eval s = v)
    (hown : Out B w v D) (hx : a.eval x = .slice (some ⟨w.heap.size, 0, none⟩) E.length E.length) (hD : D.length + E.length ≤ 140737488355328) (hbase : B ≤ w.heap.size)
    (h : ∀ v' w', Out B w' v' (D ++ E) → Below B w w' → Ap w v w' v' → wpList Tryd.prog ops Q rest (a.put o.dst v') w') :
    wpList Tryd.prog ops Q (o :: rest) a (w.alloc (.cells cs 5)) := by
  subst hcs
  obtain ⟨i0, hi, hz0, hz1, hz2⟩ := info_parts infoB
  refine wpList_append_own_at _ hgd s x 72 ho B 5 i0 (.int .u8 0) 1 1 Tryd.underlying72 hi hz0 hz1 hz2 rfl (by decide) v _ _ hs (hown.alloc _) ⟨w.heap.size, 0, none⟩ E.length E.length (u8s E) hx (by rw [u8s_length, Nat.mul_one]) ?_ (u8s_one E) ?_ ?_ ?_ ?_
  · intro j u hj
    have e : (⟨w.heap.size, 0, none⟩ : Addr).add j = ⟨w.heap.size, 0 + j, none⟩ := by unfold Addr.add; split <;> simp_all
    rw [e, Nat.zero_add, World.cell?_alloc_new, List.getElem?_toArray]
    exact hj
  · unfold maxLen; omega
  · omega
  · simp; omega
  · intro v' w' h1 h2 _ h4
    refine h v' w' ?_ (((Below.refl _ _).alloc hbase _).grown h2 (by simp; omega) (fun j hj => (hown.lt j hj).1)) ⟨?_, ?_, ?_⟩
    · unfold Out
      rw [u8s_append, List.length_append]
      exact h1
    · have := h2.size; simp at this; omega
    · intro k hk hne
      rw [h2.block k (by simp; omega) (fun e => hne e.symm)]
      exact ((Below.refl w.heap.size w).alloc (Nat.le_refl _) _).block k hk
    · intro g hg
      rcases h4 with h4 | h4
      · exact .inl (by rw [← h4]; exact hg)
      · rw [h4] at hg
        simp at hg
        exact .inr (by omega)
theorem bytes_of (E : List Nat) (s : ByteArray) (h : s.data.toList = E.map fun x => x.toUInt8) (hE : ∀ x ∈ E, x < 256) : Lib.strCells s = u8s E := by
  unfold Lib.strCells u8s
  rw [h, List.map_map]
  refine List.map_congr_left (fun x hx => ?_)
  have := hE x hx
  simp only [Function.comp]
  have e : x.toUInt8.toNat = x := by show x % 256 = x; omega
  rw [e]
/-- where a string's append lies -/
theorem outS_own (w : World) (B : Nat) (ty : TypeId) (v v' : Value) (w' : World) (D : List Nat) (t : ByteArray) (hown : Out B w v D) (hD : D.length + t.size ≤ 140737488355328) (hr : (Builtin.append_ #[72, 9] ty #[v, .string t]).run Tryd.prog w = .ok v' w') :
    ∀ g, v'.ownBlock = some g → v.ownBlock = some g ∨ w.heap.size ≤ g := by
  obtain ⟨i0, hi, hz0, hz1, hz2⟩ := info_parts infoB
  have hml : D.length + t.size ≤ maxLen := by unfold maxLen; omega
  intro g hg
  rcases hown.2 with ⟨h1, h2⟩ | ⟨k, cap, cur, h1, hb, hk, hn, hc, hs, htake⟩
  · subst h1
    have hD0 : D = [] := List.eq_nil_of_length_eq_zero h2
    subst hD0
    obtain ⟨v2, w2, hr2, h3, -⟩ := Lib.run_append_own_string (P := Tryd.prog) w w.heap.size 72 9 ty 5 i0 Tryd.underlying72 Tryd.underlying9 hi hz0 hz1 hz2 (.slice none 0 0) 0 [] (World.ownsRow_nil _ _ _ _) t (by simpa using hml) (by simpa using hD) (Nat.le_refl _)
    rw [hr2] at hr
    injection hr with hv _
    subst hv
    exact .inr (h3.lt g hg).1
  · subst h1
    by_cases hroom : D.length + t.size ≤ cap
    · have hr2 := Lib.run_append_room_string (P := Tryd.prog) w 72 9 ty 5 i0 Tryd.underlying72 Tryd.underlying9 hi hz1 k D.length cap cur hk t hroom (by rw [hs]; omega)
      rw [hr2] at hr
      injection hr with hv _
      subst hv
      exact .inl hg
    · have hr2 := Lib.run_append_grow_string (P := Tryd.prog) w 72 9 ty 5 i0 _ Tryd.underlying72 Tryd.underlying9 hi hz0 ⟨k, 0, none⟩ D.length cap (u8s D) (by rw [u8s_length, hz1, Nat.mul_one]) (hown.cells (g := k) rfl) t (by omega) (by omega) (by rw [hz2]; exact growslice_fits (by omega) (by omega))
      rw [hr2] at hr
      injection hr with hv _
      subst hv
      have : w.heap.size = g := by simpa [Value.ownBlock] using hg
      exact .inr (by omega)
/-- a string is appended -/
theorem wpList_outS {ops : Array Oper} {rest : List Oper} {o : Oper} {a : Act} {w : World} {Q : Exit → Act → World → Prop} (hgd : o.guard = none) (s x : Operand)
    (ho : o.op = .call { callee := .builtin .append, args := #[s, x], argTypes := #[72, 9] }) (B : Nat) (v : Value) (D E : List Nat) (t : ByteArray) (hx : a.eval x = .string t) (ht : t.data.toList = E.map fun x => x.toUInt8) (hE : ∀ x ∈ E, x < 256)
    (hs : a.eval s = v) (hown : Out B w v D) (hD : D.length + E.length ≤ 140737488355328) (hbase : B ≤ w.heap.size)
    (h : ∀ v' w', Out B w' v' (D ++ E) → Below B w w' → Ap w v w' v' → wpList Tryd.prog ops Q rest (a.put o.dst v') w') : wpList Tryd.prog ops Q (o :: rest) a w := by
  obtain ⟨i0, hi, hz0, hz1, hz2⟩ := info_parts infoB
  have hsz : t.size = E.length := by
    show t.data.size = _
    rw [← Array.length_toList, ht, List.length_map]
  refine wpList_plain hgd fun K hK => ?_
  obtain ⟨v', w', hr, h1, h2, -⟩ := Lib.run_append_own_string (P := Tryd.prog) w B 72 9 o.type 5 i0 Tryd.underlying72 Tryd.underlying9 hi hz0 hz1 hz2 v D.length (u8s D) hown t (by rw [hsz]; unfold maxLen; omega) (by rw [hsz]; omega) hbase
  have h3 := outS_own w B o.type v v' w' D t hown (by rw [hsz]; omega) hr
  unfold Oper.wp execOp
  simp only [ho, resolve, invoke, builtin, Sem.run_bind, Sem.run_pure, Result.andThen_ok, List.map_toArray, List.map_cons, List.map_nil, hs, hx, hr]
  refine hK _ _ (h v' w' ?_ ((Below.refl _ _).grown h2 hbase (fun j hj => (hown.lt j hj).1)) ⟨h2.size, fun k hk hne => h2.block k hk (fun e => hne e.symm), h3⟩)
  unfold Out
  rw [bytes_of E t ht hE, hsz] at h1
  rw [u8s_append, List.length_append]
  exact h1
theorem index_bytes (s : ByteArray) (c : Int) (w : World) : Calls Tryd.prog 69 #[.string s, .int .u8 c] w fun e w' => e = .returned (.int .i64 (Lib.indexByte s.data.toList c.toNat.toUInt8)) ∧ w = w' := by
  have hi : (callFunc 80 #[.string s, .int .u8 c]).run Tryd.prog w = .ok (.value (.int .i64 (Lib.indexByte s.data.toList c.toNat.toUInt8))) w := by
    rw [run_callFunc_extern Tryd.func80 (by kernel_rfl) (by kernel_rfl) (by kernel_rfl) (e := Extern.BytealgIndexByte.indexByte) (by kernel_rfl), Lib.run_indexByteString]
    rfl
  go_enter Tryd.func69, Tryd.ntmps69
  go_wp2
  go_ret
  exact ⟨rfl, rfl⟩
def sMarks : ByteArray := ⟨#[38, 33, 124, 42, 43, 63, 123, 125, 91, 93, 40, 41, 46, 92]⟩
def sInner : ByteArray := ⟨#[92, 93, 94, 45]⟩
/-- the string s has just the bytes m -/
def HasB (s : ByteArray) (m : List Nat) : Prop := ∀ c : Nat, c < 256 → decide (0 ≤ Lib.indexByte s.data.toList ((c : Int)).toNat.toUInt8) = m.contains c
theorem hasMarks : HasB sMarks marks := by
  intro c hc
  rw [Int.toNat_natCast]
  revert c
  decide +kernel
theorem hasInner : HasB sInner inner := by
  intro c hc
  rw [Int.toNat_natCast]
  revert c
  decide +kernel
def sHex : ByteArray := ⟨#[48, 49, 50, 51, 52, 53, 54, 55, 56, 57, 97, 98, 99, 100, 101, 102]⟩
set_option maxRecDepth 100000 in
theorem index_hex (d : Nat) (h : d < 16) (w : World) : (Instr.index 9 (.string ⟨#[48, 49, 50, 51, 52, 53, 54, 55, 56, 57, 97, 98, 99, 100, 101, 102]⟩) (.int .u8 (d : Int))).run Tryd.prog w = .ok (.int .u8 (hex d : Nat)) w := by
  have : d = 0 ∨ d = 1 ∨ d = 2 ∨ d = 3 ∨ d = 4 ∨ d = 5 ∨ d = 6 ∨ d = 7 ∨ d = 8 ∨ d = 9 ∨ d = 10 ∨ d = 11 ∨ d = 12 ∨ d = 13 ∨ d = 14 ∨ d = 15 := by omega
  rcases this with rfl | rfl | rfl | rfl | rfl | rfl | rfl | rfl | rfl | rfl | rfl | rfl | rfl | rfl | rfl | rfl <;> rfl
end Go.Proofs.YtcgllipcnmlkbaaDoor
namespace Go.Proofs.YtcgllipcnmlkbaaDoor
open Go.RowKit Sets
set_option maxHeartbeats 800000 in
set_option maxRecDepth 100000 in
theorem range_any (f t : Int) (w : World) (hf : 0 ≤ f) (hf1 : f ≤ 255) (ht : 0 ≤ t) (ht1 : t ≤ 255) :
    Calls Tryd.prog 87 #[.int .u8 f, .int .u8 t] w fun e w' =>
      e = .returned (.agg #[.int .u64 (wd (rangeN f.toNat t.toNat) 0), .int .u64 (wd (rangeN f.toNat t.toNat) 1), .int .u64 (wd (rangeN f.toNat t.toNat) 2), .int .u64 (wd (rangeN f.toNat t.toNat) 3)]) ∧ Below w.heap.size w w' := by
  go_enter Tryd.func87, Tryd.ntmps87
  go_wp2
  go_loopw [6] (fun i wr => ∃ k n : Nat, i = .int .i64 (f + k) ∧ (k = 0 ∨ f + k ≤ t + 1) ∧ wr = ((w.alloc (.cells #[.int .u64 0, .int .u64 0, .int .u64 0, .int .u64 0] 52)).alloc (.cells #[.int .u64 (wd (partN f.toNat k) 0), .int .u64 (wd (partN f.toNat k) 1), .int .u64 (wd (partN f.toNat k) 2), .int .u64 (wd (partN f.toNat k) 3)] 52)).drewN n) (fun i _ => (t + 1 - intOf i).toNat)
  case atStart => exact ⟨0, 0, by simp, Or.inl rfl, by simp [partN, wd, World.drewN_zero]⟩
  case round =>
    obtain ⟨k, n, rfl, hk, rfl⟩ := hrel
    by_cases hle : f + k ≤ t
    · generalize hc : f + (k : Int) = c at *
      have hc0 : 0 ≤ c := by omega
      have hc1 : c ≤ 255 := by omega
      have HC := Lib.hid hc
      clear hc
      have hq : c / 64 = 0 ∨ c / 64 = 1 ∨ c / 64 = 2 ∨ c / 64 = 3 := by omega
      rcases hq with hq | hq | hq | hq
      all_goals
        have hq2 : c.tdiv 64 = c / 64 := Int.tdiv_eq_ediv_of_nonneg hc0
        rw [hq] at hq2
        have hz0 : IntKind.i64.wrap 0 = 0 := by decide
        have hz1 : IntKind.i64.wrap 1 = 1 := by decide
        have hz2 : IntKind.i64.wrap 2 = 2 := by decide
        have hz3 : IntKind.i64.wrap 3 = 3 := by decide
        have hw8 : IntKind.u8.wrap c = c := by simp [IntKind.wrap, IntKind.bits, IntKind.signed]; omega
        go_wp2
        refine region_tail 8 (by kernel_rfl) (by kernel_rfl) ?_
        simp only [List.take_succ_cons, List.take_zero, List.drop_succ_cons, List.drop_zero]
        repeat (first | still_step | still_call ((bit_any _ _ hc0 hc1).mono fun _ _ h => ⟨h.1, h.2.symm⟩))
        refine wpStill_nil ?_
        go_wp2
        have e : partN f.toNat (k + 1) = partN f.toNat k ||| 2 ^ c.toNat := by rw [partN_succ]; congr 2; have := HC.out; omega
        refine ⟨⟨k + 1, n + 1, by have := HC.out; rw [← this]; go_num, Or.inr (by have := HC.out; omega), ?_⟩, by simp [intOf]; omega⟩
        rw [e]
        first
          | rw [bor_bit _ _ 0 (by omega), wd_keep _ c.toNat 1 (by omega), wd_keep _ c.toNat 2 (by omega), wd_keep _ c.toNat 3 (by omega)]
          | rw [bor_bit _ _ 1 (by omega), wd_keep _ c.toNat 0 (by omega), wd_keep _ c.toNat 2 (by omega), wd_keep _ c.toNat 3 (by omega)]
          | rw [bor_bit _ _ 2 (by omega), wd_keep _ c.toNat 0 (by omega), wd_keep _ c.toNat 1 (by omega), wd_keep _ c.toNat 3 (by omega)]
          | rw [bor_bit _ _ 3 (by omega), wd_keep _ c.toNat 0 (by omega), wd_keep _ c.toNat 1 (by omega), wd_keep _ c.toNat 2 (by omega)]
    · have e : partN f.toNat k = rangeN f.toNat t.toNat := by
        by_cases hk0 : k = 0
        · subst hk0; rw [partN_zero, rangeN, if_neg (by omega)]
        · rw [← partN_range f.toNat t.toNat (by omega), show t.toNat + 1 - f.toNat = k from by omega]
      rw [e]
      have hle' : t < f + k := by omega
      go_wp2
      refine bodyPost_ret (v := .agg #[.int .u64 (wd (rangeN f.toNat t.toNat) 0), .int .u64 (wd (rangeN f.toNat t.toNat) 1), .int .u64 (wd (rangeN f.toNat t.toNat) 2), .int .u64 (wd (rangeN f.toNat t.toNat) 3)]) (by simp [results, Tryd.results87, go_sem]) rfl ⟨rfl, ?_⟩
      repeat (first | refine Below.drew ?_ | refine below_drewN ?_ _ | refine Below.alloc ?_ (by simp <;> omega) _)
      exact Below.refl _ _
theorem not_zero (w : World) :
    Calls Tryd.prog 84 #[.agg #[.int .u64 0, .int .u64 0, .int .u64 0, .int .u64 0]] w fun e w' =>
      e = .returned (.agg #[.int .u64 (wd full 0), .int .u64 (wd full 1), .int .u64 (wd full 2), .int .u64 (wd full 3)]) ∧ Below w.heap.size w w' := by
  have h := not_any 0 w
  simp only [wd_zero, Nat.xor_zero] at h
  exact h
set_option maxHeartbeats 400000 in
theorem all_any (w : World) :
    Calls Tryd.prog 76 #[] w fun e w' =>
      e = .returned (.agg #[.int .u64 (wd full 0), .int .u64 (wd full 1), .int .u64 (wd full 2), .int .u64 (wd full 3)]) ∧ Below w.heap.size w w' := by
  go_enter Tryd.func76, Tryd.ntmps76
  go_wp2_with fail
  refine (not_zero _).mono ?_
  rintro e w1 ⟨rfl, hb⟩
  have hc := hb.cell (p := ⟨w.heap.size, 0, none⟩) (by simp)
  have hc1 := hb.cell (p := ⟨w.heap.size, 1, none⟩) (by simp)
  have hc2 := hb.cell (p := ⟨w.heap.size, 2, none⟩) (by simp)
  have hc3 := hb.cell (p := ⟨w.heap.size, 3, none⟩) (by simp)
  have hf := hb.frozen (p := ⟨w.heap.size, 0, none⟩) (by simp)
  have hf1 := hb.frozen (p := ⟨w.heap.size, 1, none⟩) (by simp)
  have hf2 := hb.frozen (p := ⟨w.heap.size, 2, none⟩) (by simp)
  have hf3 := hb.frozen (p := ⟨w.heap.size, 3, none⟩) (by simp)
  go_wp2
  refine bodyPost_ret (v := .agg #[.int .u64 (wd full 0), .int .u64 (wd full 1), .int .u64 (wd full 2), .int .u64 (wd full 3)]) (by simp [results, Tryd.results76, go_sem, hc, hc1, hc2, hc3]) rfl ⟨rfl, ?_⟩
  have hb' : Below w.heap.size w w1 := ((Below.refl _ _).alloc (Nat.le_refl _) _).trans (hb.mono (by simp))
  exact (((hb'.setCell (by simp) _).setCell (by simp) _).setCell (by simp) _).setCell (by simp) _
set_option maxRecDepth 100000 in
set_option maxHeartbeats 400000 in
theorem of_any (v : Value) (l : List Nat) (w : World) (h : BytesAt w v l) :
    Calls Tryd.prog 77 #[v] w fun e w' =>
      e = .returned (.agg #[.int .u64 (wd (ofN l) 0), .int .u64 (wd (ofN l) 1), .int .u64 (wd (ofN l) 2), .int .u64 (wd (ofN l) 3)]) ∧ Below w.heap.size w w' := by
  obtain ⟨hl, hm, a, cap, rfl, hc⟩ := h
  unfold maxLen at hm
  go_enter Tryd.func77, Tryd.ntmps77
  go_wp2
  go_loopw [8] (fun i wr => ∃ k n : Nat, i = .int .i64 k ∧ k ≤ l.length ∧ wr = ((w.alloc (.cells #[.int .u64 0, .int .u64 0, .int .u64 0, .int .u64 0] 52)).alloc (.cells #[.int .u64 (wd (ofN (l.take k)) 0), .int .u64 (wd (ofN (l.take k)) 1), .int .u64 (wd (ofN (l.take k)) 2), .int .u64 (wd (ofN (l.take k)) 3)] 52)).drewN n) (fun i _ => (l.length - intOf i).toNat)
  case atStart => exact ⟨0, 0, rfl, Nat.zero_le _, by simp [ofN, wd, World.drewN_zero]⟩
  case round =>
    obtain ⟨k, n, rfl, hk, rfl⟩ := hrel
    by_cases hlt : k < l.length
    · obtain ⟨b, o, rfl, hcell⟩ := hc k hlt
      clear hc
      have hbk := World.block_lt_of_cell? _ _ hcell
      have hbk1 : b < w.heap.size + 1 := Nat.lt_succ_of_lt hbk
      have hx : l.getD k 0 < 256 := by
        rw [List.getD_eq_getElem?_getD, List.getElem?_eq_getElem hlt]; exact hl _ (List.getElem_mem hlt)
      have HT := Lib.hid (ofN_take l k hlt)
      generalize l.getD k 0 = c at *
      have hq : (c : Int) / 64 = 0 ∨ (c : Int) / 64 = 1 ∨ (c : Int) / 64 = 2 ∨ (c : Int) / 64 = 3 := by omega
      rcases hq with hq | hq | hq | hq
      all_goals
        have hq2 : (c : Int).tdiv 64 = (c : Int) / 64 := Int.tdiv_eq_ediv_of_nonneg (by omega)
        rw [hq] at hq2
        have hz0 : IntKind.u8.wrap 0 = 0 := by decide
        have hz1 : IntKind.u8.wrap 1 = 1 := by decide
        have hz2 : IntKind.u8.wrap 2 = 2 := by decide
        have hz3 : IntKind.u8.wrap 3 = 3 := by decide
        go_wp2
        refine region_tail 7 (by kernel_rfl) (by kernel_rfl) ?_
        simp only [List.take_succ_cons, List.take_zero, List.drop_succ_cons, List.drop_zero]
        repeat (first | still_step | still_call ((bit_any _ _ (by omega) (by omega)).mono fun _ _ h => ⟨h.1, h.2.symm⟩))
        refine wpStill_nil ?_
        go_wp2
        refine ⟨⟨k + 1, n + 1, by go_num, by omega, ?_⟩, by simp [intOf]; omega⟩
        rw [HT.out]
        first
          | rw [bor_bit _ _ 0 (by omega), wd_keep _ c 1 (by omega), wd_keep _ c 2 (by omega), wd_keep _ c 3 (by omega)]
          | rw [bor_bit _ _ 1 (by omega), wd_keep _ c 0 (by omega), wd_keep _ c 2 (by omega), wd_keep _ c 3 (by omega)]
          | rw [bor_bit _ _ 2 (by omega), wd_keep _ c 0 (by omega), wd_keep _ c 1 (by omega), wd_keep _ c 3 (by omega)]
          | rw [bor_bit _ _ 3 (by omega), wd_keep _ c 0 (by omega), wd_keep _ c 1 (by omega), wd_keep _ c 2 (by omega)]
    · have hkl : k = l.length := by omega
      subst hkl
      rw [List.take_length]
      go_wp2
      refine bodyPost_ret (v := .agg #[.int .u64 (wd (ofN l) 0), .int .u64 (wd (ofN l) 1), .int .u64 (wd (ofN l) 2), .int .u64 (wd (ofN l) 3)]) (by simp [results, Tryd.results77, go_sem]) rfl ⟨rfl, ?_⟩
      repeat (first | refine Below.drew ?_ | refine below_drewN ?_ _ | refine Below.alloc ?_ (by simp <;> omega) _)
      exact Below.refl _ _
end Go.Proofs.YtcgllipcnmlkbaaDoor
namespace Go.Proofs.YtcgllipcnmlkbaaDoor
open Go.RowKit Sets
/-- A set lies in block B. -/
structure SetAt (w : World) (B S : Nat) : Prop where
  c0 : w.cell? ⟨B, 0, none⟩ = some (.int .u64 (wd S 0))
  c1 : w.cell? ⟨B, 1, none⟩ = some (.int .u64 (wd S 1))
  c2 : w.cell? ⟨B, 2, none⟩ = some (.int .u64 (wd S 2))
  c3 : w.cell? ⟨B, 3, none⟩ = some (.int .u64 (wd S 3))
theorem SetAt.new (w : World) (S : Nat) (t : TypeId) : SetAt (w.alloc (.cells #[.int .u64 (wd S 0), .int .u64 (wd S 1), .int .u64 (wd S 2), .int .u64 (wd S 3)] t)) w.heap.size S :=
  ⟨by simp, by simp, by simp, by simp⟩
theorem SetAt.lt {w : World} {B S : Nat} (h : SetAt w B S) : B < w.heap.size := World.block_lt_of_cell? _ _ h.c0
theorem SetAt.kept {w w' : World} {A B S : Nat} (h : SetAt w B S) (hb : Below A w w') (hA : B < A) : SetAt w' B S :=
  ⟨(hb.cell hA).trans h.c0, (hb.cell hA).trans h.c1, (hb.cell hA).trans h.c2, (hb.cell hA).trans h.c3⟩
theorem SetAt.stay {w w' : World} {B S : Nat} (h : SetAt w B S) (hb : Below w.heap.size w w') : SetAt w' B S := h.kept hb h.lt
end Go.Proofs.YtcgllipcnmlkbaaDoor
namespace Go.Proofs.YtcgllipcnmlkbaaDoor
open Go.RowKit Sets
/-- The string of these bytes. -/
def strN (l : List Nat) : ByteArray := ⟨(l.map UInt8.ofNat).toArray⟩
theorem bytes_string {w : World} {v : Value} {l : List Nat} (h : BytesAt w v l) : (convert 72 9 v).run Tryd.prog w = .ok (.string (strN l)) w := by
  obtain ⟨hl, -, a, cap, rfl, hc⟩ := h
  by_cases h0 : l.length = 0
  · have hn : l = [] := List.length_eq_zero_iff.1 h0
    subst hn
    rw [run_convert_bytes_string w _ _ _ a _ cap Tryd.underlying72 Tryd.underlying5 Tryd.underlying9]
    cases a with
    | none => simp [Conv.bytesToString, strN]; rfl
    | some x =>
      exact run_bytesToString w x 0 cap [] rfl
  · obtain ⟨b, o, rfl, -⟩ := hc 0 (by omega)
    have := run_convert_bytes_back w _ _ _ ⟨b, o, none⟩ cap (l.map UInt8.ofNat) Tryd.underlying72 Tryd.underlying5 Tryd.underlying9 (fun j hj => by
      simp only [List.length_map] at hj
      obtain ⟨b', o', e, hq⟩ := hc j hj
      injection e with e
      injection e with e1 e2
      subst e1 e2
      rw [Addr.add_lit, hq]
      have hlt := hl _ (List.getElem_mem hj)
      rw [List.getD_eq_getElem?_getD, List.getElem?_eq_getElem hj, List.getElem_map, Option.getD_some]
      congr 2
      rw [UInt8.toNat_ofNat']
      omega)
    rw [List.length_map] at this
    exact this
end Go.Proofs.YtcgllipcnmlkbaaDoor
namespace Go.Proofs.YtcgllipcnmlkbaaDoor
namespace Pct
/-- The value of a hex digit. -/
def val (c : Nat) : Option Nat :=
  if 48 ≤ c ∧ c ≤ 57 then some (c - 48) else if 97 ≤ c ∧ c ≤ 102 then some (c - 87) else if 65 ≤ c ∧ c ≤ 70 then some (c - 55) else none
/-- The digit of a value, A to F great. -/
def dig (n : Nat) : UInt8 := if n < 10 then UInt8.ofNat (48 + n) else UInt8.ofNat (55 + n)
/-- What the escape at a text's beginning says. -/
def esc : List UInt8 → Option Nat
  | p :: a :: b :: _ => if p = 37 then (match val a.toNat, val b.toNat with | some x, some y => some (16 * x + y) | _, _ => none) else none
  | _ => none
def valid : List UInt8 → Bool
  | [] => true
  | c :: r => (c != 37 || (esc (c :: r)).isSome) && valid r
/-- The text decoded, its first k bytes left out. -/
def dec : List UInt8 → Nat → Option (List UInt8)
  | [], _ => some []
  | _ :: r, k + 1 => dec r k
  | c :: r, 0 => match esc (c :: r) with
    | some b => (dec r 2).map (UInt8.ofNat b :: ·)
    | none => if c = 37 then none else (dec r 0).map (c :: ·)
def encB (S : Nat) (c : UInt8) : List UInt8 := if c ≠ 37 ∧ S.testBit c.toNat = true then [c] else [37, dig (c.toNat / 16), dig (c.toNat % 16)]
def enc (S : Nat) (l : List UInt8) : List UInt8 := l.flatMap (encB S)
def up : List UInt8 → Nat → List UInt8
  | [], _ => []
  | _ :: r, k + 1 => up r k
  | c :: r, 0 => match esc (c :: r) with
    | some b => 37 :: dig (b / 16) :: dig (b % 16) :: up r 2
    | none => c :: up r 0
theorem val_lt {c x : Nat} (h : val c = some x) : x < 16 := by
  unfold val at h; split at h
  · simp at h; omega
  · split at h
    · simp at h; omega
    · split at h
      · simp at h; omega
      · simp at h
theorem val_37 : val 37 = none := by decide
theorem val_dig (n : Nat) (h : n < 16) : val (dig n).toNat = some n := by
  have : ∀ n, n < 16 → val (dig n).toNat = some n := by decide
  exact this n h
theorem esc_cons (p a b : UInt8) (r : List UInt8) : esc (p :: a :: b :: r) = if p = 37 then (match val a.toNat, val b.toNat with | some x, some y => some (16 * x + y) | _, _ => none) else none := rfl
theorem esc_some {l : List UInt8} {b : Nat} (h : esc l = some b) : ∃ a c r x y, l = 37 :: a :: c :: r ∧ val a.toNat = some x ∧ val c.toNat = some y ∧ b = 16 * x + y ∧ x < 16 ∧ y < 16 := by
  match l, h with
  | p :: a :: c :: r, h =>
    rw [esc_cons] at h
    by_cases hp : p = 37
    · rw [if_pos hp] at h
      subst hp
      cases hx : val a.toNat with
      | none => rw [hx] at h; simp at h
      | some x =>
        cases hy : val c.toNat with
        | none => rw [hx, hy] at h; simp at h
        | some y =>
          rw [hx, hy] at h
          simp at h
          exact ⟨a, c, r, x, y, rfl, hx, hy, h.symm, val_lt hx, val_lt hy⟩
    · rw [if_neg hp] at h; cases h
theorem esc_lt {l : List UInt8} {b : Nat} (h : esc l = some b) : b < 256 := by
  obtain ⟨_, _, _, x, y, -, -, -, rfl, h1, h2⟩ := esc_some h
  omega
theorem esc_mk (a c : UInt8) (r : List UInt8) (x y : Nat) (hx : val a.toNat = some x) (hy : val c.toNat = some y) : esc (37 :: a :: c :: r) = some (16 * x + y) := by simp [esc, hx, hy]
theorem esc_ne {c : UInt8} (h : c ≠ 37) (r : List UInt8) : esc (c :: r) = none := by
  match r with
  | [] => rfl
  | [_] => rfl
  | _ :: _ :: _ => simp [esc, h]
theorem esc_app {l : List UInt8} {b : Nat} (h : esc l = some b) (t : List UInt8) : esc (l ++ t) = some b := by
  obtain ⟨a, c, r, x, y, rfl, hx, hy, rfl, -, -⟩ := esc_some h
  exact esc_mk _ _ _ _ _ hx hy
theorem val_ne {c : UInt8} {x : Nat} (h : val c.toNat = some x) : c ≠ 37 := by
  rintro rfl
  rw [show (37 : UInt8).toNat = 37 from rfl, val_37] at h; cases h
theorem dec_skip : ∀ (l : List UInt8) (k : Nat), dec l k = dec (l.drop k) 0
  | [], 0 => rfl
  | [], _ + 1 => rfl
  | _ :: _, 0 => rfl
  | _ :: r, k + 1 => by rw [dec, dec_skip r k, List.drop_succ_cons]
theorem up_skip : ∀ (l : List UInt8) (k : Nat), up l k = up (l.drop k) 0
  | [], 0 => rfl
  | [], _ + 1 => rfl
  | _ :: _, 0 => rfl
  | _ :: r, k + 1 => by rw [up, up_skip r k, List.drop_succ_cons]
theorem dec_esc {l : List UInt8} {b : Nat} (h : esc l = some b) : dec l 0 = (dec (l.drop 3) 0).map (UInt8.ofNat b :: ·) := by
  obtain ⟨a, c, r, x, y, rfl, -⟩ := esc_some h
  rw [dec, h]
  simp only [dec_skip (a :: c :: r) 2, List.drop_succ_cons, List.drop_zero]
theorem dec_bad (r : List UInt8) (h : esc (37 :: r) = none) : dec (37 :: r) 0 = none := by
  rw [dec, h]; simp
theorem dec_plain {c : UInt8} (r : List UInt8) (h : c ≠ 37) : dec (c :: r) 0 = (dec r 0).map (c :: ·) := by
  rw [dec, esc_ne h]; simp [h]
theorem up_esc {l : List UInt8} {b : Nat} (h : esc l = some b) : up l 0 = 37 :: dig (b / 16) :: dig (b % 16) :: up (l.drop 3) 0 := by
  obtain ⟨a, c, r, x, y, rfl, -⟩ := esc_some h
  rw [up, h]
  simp only [up_skip (a :: c :: r) 2, List.drop_succ_cons, List.drop_zero]
theorem up_none {c : UInt8} {r : List UInt8} (h : esc (c :: r) = none) : up (c :: r) 0 = c :: up r 0 := by rw [up, h]
theorem dec_valid (l : List UInt8) : (dec l 0).isSome = valid l := by
  induction hn : l.length using Nat.strongRecOn generalizing l with
  | _ n ih =>
  match l with
  | [] => rfl
  | c :: r =>
    cases h : esc (c :: r) with
    | some b =>
      obtain ⟨a, d, t, x, y, he, hx, hy, -⟩ := esc_some h
      injection he with h1 h2
      subst h1 h2
      rw [dec_esc h, Option.isSome_map, List.drop_succ_cons, List.drop_succ_cons, List.drop_succ_cons, List.drop_zero, ih t.length (by subst hn; simp; omega) t rfl]
      have n1 := val_ne hx; have n2 := val_ne hy
      have b1 : (a != 37) = true := bne_iff_ne.2 n1
      have b2 : (d != 37) = true := bne_iff_ne.2 n2
      rw [valid, valid, valid, h, b1, b2]; simp
    | none =>
      by_cases hc : c = 37
      · subst hc; rw [dec_bad r h, valid, h]; rfl
      · rw [dec_plain r hc, Option.isSome_map, ih r.length (by subst hn; simp) r rfl, valid]; simp [hc]
theorem dec_app (s t a : List UInt8) (h : dec s 0 = some a) : dec (s ++ t) 0 = (dec t 0).map (a ++ ·) := by
  induction hn : s.length using Nat.strongRecOn generalizing s a with
  | _ n ih =>
  match s with
  | [] => rw [dec] at h; simp only [Option.some.injEq] at h; subst h; cases ht : dec t 0 <;> simp [ht]
  | c :: r =>
    cases he : esc (c :: r) with
    | some b =>
      obtain ⟨a', d, t', x, y, hl, -⟩ := esc_some he
      rw [dec_esc he] at h
      rw [dec_esc (esc_app he t)]
      injection hl with h1 h2
      subst h1 h2
      simp only [List.drop_succ_cons, List.drop_zero, List.cons_append, Option.map_eq_some_iff] at h ⊢
      obtain ⟨q, hq, rfl⟩ := h
      rw [ih t'.length (by subst hn; simp; omega) t' q hq rfl]
      cases dec t 0 <;> rfl
    | none =>
      by_cases hc : c = 37
      · subst hc; rw [dec_bad r he] at h; cases h
      · rw [dec_plain r hc] at h
        obtain ⟨q, hq, rfl⟩ := Option.map_eq_some_iff.1 h
        rw [List.cons_append, dec_plain _ hc, ih r.length (by subst hn; simp) r q hq rfl]
        cases dec t 0 <;> rfl
theorem enc_cons (S : Nat) (c : UInt8) (l : List UInt8) : enc S (c :: l) = encB S c ++ enc S l := rfl
theorem enc_app (S : Nat) (a b : List UInt8) : enc S (a ++ b) = enc S a ++ enc S b := by simp [enc]
theorem u8_lt (c : UInt8) : c.toNat < 256 := c.toNat_lt
theorem esc_dig (c : UInt8) (r : List UInt8) : esc (37 :: dig (c.toNat / 16) :: dig (c.toNat % 16) :: r) = some c.toNat := by
  have := u8_lt c
  rw [esc_mk _ _ _ _ _ (val_dig _ (by omega)) (val_dig _ (by omega))]
  congr 1; omega
theorem dec_enc (S : Nat) : ∀ l : List UInt8, dec (enc S l) 0 = some l
  | [] => rfl
  | c :: l => by
    rw [enc_cons, encB]
    split
    · rename_i h
      rw [List.cons_append, List.nil_append, dec_plain _ h.1, dec_enc S l]; rfl
    · rw [List.cons_append, List.cons_append, List.cons_append, List.nil_append, dec_esc (esc_dig c _)]
      simp only [List.drop_succ_cons, List.drop_zero, dec_enc S l, Option.map_some, UInt8.ofNat_toNat]
theorem up_enc (S : Nat) : ∀ l : List UInt8, up (enc S l) 0 = enc S l
  | [] => rfl
  | c :: l => by
    rw [enc_cons, encB]
    split
    · rename_i h
      rw [List.cons_append, List.nil_append, up_none (esc_ne h.1 _), up_enc S l]
    · rw [List.cons_append, List.cons_append, List.cons_append, List.nil_append, up_esc (esc_dig c _)]
      simp only [List.drop_succ_cons, List.drop_zero, up_enc S l]
theorem enc_valid (S : Nat) (l : List UInt8) : valid (enc S l) = true := by rw [← dec_valid, dec_enc]; rfl
theorem enc_mem (S : Nat) (l : List UInt8) : ∀ x ∈ enc S l, S.testBit x.toNat = true ∨ x = 37 ∨ (val x.toNat).isSome = true := by
  intro x hx
  obtain ⟨c, -, hc⟩ := List.mem_flatMap.1 hx
  have hlt := u8_lt c
  unfold encB at hc
  split at hc
  · rename_i h; simp at hc; subst hc; exact .inl h.2
  · simp at hc
    rcases hc with rfl | rfl | rfl
    · exact .inr (.inl rfl)
    · exact .inr (.inr (by rw [val_dig _ (by omega)]; rfl))
    · exact .inr (.inr (by rw [val_dig _ (by omega)]; rfl))
theorem encB_len (S : Nat) (c : UInt8) : 1 ≤ (encB S c).length ∧ (encB S c).length ≤ 3 := by unfold encB; split <;> simp
theorem enc_len (S : Nat) : ∀ l : List UInt8, l.length ≤ (enc S l).length ∧ (enc S l).length ≤ 3 * l.length
  | [] => by simp [enc]
  | c :: l => by have := enc_len S l; have := encB_len S c; rw [enc_cons, List.length_append, List.length_cons]; omega
theorem esc_up_tail (c : UInt8) (r : List UInt8) : esc (c :: up r 0) = esc (c :: r) := by
  match r with
  | [] => rfl
  | [a] => rfl
  | a :: b :: t =>
    cases h : esc (a :: b :: t) with
    | some q =>
      obtain ⟨_, _, _, _, _, he, -⟩ := esc_some h
      injection he with h1 _
      subst h1
      rw [up_esc h]
      simp [esc, show (37 : UInt8).toNat = 37 from rfl, val_37]
    | none =>
      rw [up_none h]
      cases h2 : esc (b :: t) with
      | some q =>
        obtain ⟨_, _, _, _, _, he, -⟩ := esc_some h2
        injection he with h1 _
        subst h1
        rw [up_esc h2]
        simp [esc]
      | none => rw [up_none h2]; simp [esc]
theorem up_len (l : List UInt8) : (up l 0).length = l.length := by
  induction hn : l.length using Nat.strongRecOn generalizing l with
  | _ n ih =>
  match l with
  | [] => subst hn; rfl
  | c :: r =>
    cases h : esc (c :: r) with
    | some b =>
      obtain ⟨a, d, t, x, y, he, -⟩ := esc_some h
      injection he with h1 h2
      subst h1 h2
      rw [up_esc h]
      simp only [List.drop_succ_cons, List.drop_zero, List.length_cons] at hn ⊢
      rw [ih t.length (by omega) t rfl]; omega
    | none => rw [up_none h, List.length_cons, ih r.length (by subst hn; simp) r rfl, ← hn, List.length_cons]
theorem esc_fix {l : List UInt8} {b : Nat} (h : esc l = some b) (r : List UInt8) : esc (37 :: dig (b / 16) :: dig (b % 16) :: r) = some b := by
  have := esc_lt h
  rw [esc_mk _ _ _ _ _ (val_dig _ (by omega)) (val_dig _ (by omega))]
  congr 1; omega
theorem dec_up (l : List UInt8) : dec (up l 0) 0 = dec l 0 := by
  induction hn : l.length using Nat.strongRecOn generalizing l with
  | _ n ih =>
  match l with
  | [] => rfl
  | c :: r =>
    cases h : esc (c :: r) with
    | some b =>
      rw [up_esc h, dec_esc h, dec_esc (esc_fix h _)]
      simp only [List.drop_succ_cons, List.drop_zero]
      rw [ih _ (by subst hn; simp; omega) _ rfl]
    | none =>
      rw [up_none h]
      by_cases hc : c = 37
      · subst hc; rw [dec_bad r h, dec_bad _ ((esc_up_tail 37 r).trans h)]
      · rw [dec_plain _ hc, dec_plain _ hc, ih r.length (by subst hn; simp) r rfl]
theorem valid_up (l : List UInt8) : valid (up l 0) = valid l := by rw [← dec_valid, ← dec_valid, dec_up]
theorem up_up (l : List UInt8) : up (up l 0) 0 = up l 0 := by
  induction hn : l.length using Nat.strongRecOn generalizing l with
  | _ n ih =>
  match l with
  | [] => rfl
  | c :: r =>
    cases h : esc (c :: r) with
    | some b =>
      rw [up_esc h, up_esc (esc_fix h _)]
      simp only [List.drop_succ_cons, List.drop_zero]
      rw [ih _ (by subst hn; simp; omega) _ rfl]
    | none => rw [up_none h, up_none ((esc_up_tail c r).trans h), ih r.length (by subst hn; simp) r rfl]
/-- A byte of Upper beside the byte that stood there. -/
def near (u s : UInt8) : Prop := u = s ∨ 65 ≤ u.toNat ∧ u.toNat ≤ 70 ∧ s.toNat = u.toNat + 32
theorem near_dig (a : UInt8) (x : Nat) (h : val a.toNat = some x) : near (dig x) a := by
  have key : ∀ n, n < 256 → ∀ x, val n = some x → (dig x).toNat = n ∨ 65 ≤ (dig x).toNat ∧ (dig x).toNat ≤ 70 ∧ n = (dig x).toNat + 32 := by
    intro n hn x hx
    have hx16 := val_lt hx
    have : ∀ x, x < 16 → (dig x).toNat = if x < 10 then 48 + x else 55 + x := by decide
    rw [this x hx16]
    unfold val at hx
    split at hx
    · simp at hx; subst hx; left; rw [if_pos (by omega)]; omega
    · split at hx
      · simp at hx; subst hx; right; rw [if_neg (by omega)]; omega
      · split at hx
        · simp at hx; subst hx; left; rw [if_neg (by omega)]; omega
        · simp at hx
  rcases key a.toNat (u8_lt a) x h with h | h
  · exact .inl (UInt8.toNat_inj.1 h)
  · exact .inr h
theorem up_near (l : List UInt8) (i : Nat) (hi : i < l.length) : near ((up l 0).getD i 0) (l.getD i 0) := by
  induction hn : l.length using Nat.strongRecOn generalizing l i with
  | _ n ih =>
  match l with
  | [] => simp at hi
  | c :: r =>
    cases h : esc (c :: r) with
    | some b =>
      obtain ⟨a, d, t, x, y, he, hx, hy, rfl, hx1, hy1⟩ := esc_some h
      injection he with h1 h2
      subst h1 h2
      rw [up_esc h]
      have e1 : (16 * x + y) / 16 = x := by omega
      have e2 : (16 * x + y) % 16 = y := by omega
      rw [e1, e2]
      match i with
      | 0 => exact .inl rfl
      | 1 => exact near_dig a x hx
      | 2 => exact near_dig d y hy
      | i + 3 =>
        have := ih t.length (by subst hn; simp; omega) t i (by simpa using hi) rfl
        simpa using this
    | none =>
      rw [up_none h]
      match i with
      | 0 => exact .inl rfl
      | i + 1 => simpa using ih r.length (by subst hn; simp) r i (by simpa using hi) rfl
end Pct
end Go.Proofs.YtcgllipcnmlkbaaDoor
namespace Go.Proofs.YtcgllipcnmlkbaaDoor
open Go.RowKit Pct
def tx (s : ByteArray) : List UInt8 := s.data.toList
def str (l : List UInt8) : ByteArray := ⟨l.toArray⟩
theorem tx_str (l : List UInt8) : tx (str l) = l := rfl
theorem str_tx (s : ByteArray) : str (tx s) = s := Lib.mk_data s
theorem size_tx (s : ByteArray) : s.size = (tx s).length := Lib.size_eq s
theorem size_str (l : List UInt8) : (str l).size = l.length := size_tx (str l)
theorem toList_tx (s : ByteArray) : s.toList = tx s := Lib.toList_data s
theorem tx_append (a b : ByteArray) : tx (a ++ b) = tx a ++ tx b := by
  unfold tx; rw [ByteArray.data_append, Array.toList_append]
theorem tx_extract (s : ByteArray) (a b : Nat) : tx (s.extract a b) = ((tx s).drop a).take (b - a) := Lib.extract_data s a b
theorem get_tx (s : ByteArray) (i : Nat) (h : i < s.size) : s[i] = (tx s).getD i 0 := by
  rw [List.getD_eq_getElem?_getD, List.getElem?_eq_getElem (by rw [← size_tx]; exact h), Option.getD_some]
  unfold tx; rfl
theorem tx_inj {a b : ByteArray} (h : tx a = tx b) : a = b := by rw [← str_tx a, ← str_tx b, h]
def valV : Option Nat → Value
  | some x => .tuple #[.int .u8 (x : Int), .bool true]
  | none => .tuple #[.int .u8 0, .bool false]
theorem ret_tup2 {k : IntKind} {a b : Int} {c : Bool} (h : a = b) : Ending.returned (.tuple #[.int k a, .bool c]) = .returned (.tuple #[.int k b, .bool c]) := by rw [h]
set_option maxHeartbeats 400000 in
theorem value_any (c : Nat) (w : World) (h : c < 256) :
    Calls Tryd.prog 88 #[.int .u8 (c : Int)] w fun e w' => e = .returned (valV (val c)) ∧ w = w' := by
  by_cases h1 : 48 ≤ c ∧ c ≤ 57
  · have e : val c = some (c - 48) := by unfold val; rw [if_pos h1]
    have H := Lib.hid e
    obtain ⟨h1, h2⟩ := h1
    have d1 : decide ((48 : Int) ≤ (c : Int)) = true := decide_eq_true (by omega)
    have d2 : decide ((c : Int) ≤ (57 : Int)) = true := decide_eq_true (by omega)
    have d1' : decide (48 ≤ c) = true := decide_eq_true (by omega)
    have d2' : decide (c ≤ 57) = true := decide_eq_true (by omega)
    clear e
    go_enter Tryd.func88, Tryd.ntmps88
    go_wp2
    go_ret2
    rw [H.out]
    exact ⟨ret_tup2 (by omega), rfl⟩
  · by_cases h2 : 97 ≤ c ∧ c ≤ 102
    · have e : val c = some (c - 87) := by unfold val; rw [if_neg h1, if_pos h2]
      have H := Lib.hid e
      obtain ⟨h2, h3⟩ := h2
      have d0 : decide (c ≤ 57) = false := decide_eq_false (by omega)
      have d1 : decide (48 ≤ c) = true := decide_eq_true (by omega)
      have d2 : decide (97 ≤ c) = true := decide_eq_true (by omega)
      have d3 : decide (c ≤ 102) = true := decide_eq_true (by omega)
      clear e h1
      go_enter Tryd.func88, Tryd.ntmps88
      go_wp2
      go_ret2
      rw [H.out]
      exact ⟨ret_tup2 (by omega), rfl⟩
    · by_cases h3 : 65 ≤ c ∧ c ≤ 70
      · have e : val c = some (c - 55) := by unfold val; rw [if_neg h1, if_neg h2, if_pos h3]
        have H := Lib.hid e
        obtain ⟨h3, h4⟩ := h3
        have d0 : decide (c ≤ 57) = false := decide_eq_false (by omega)
        have d1 : decide (48 ≤ c) = true := decide_eq_true (by omega)
        have d2 : decide (97 ≤ c) = false := decide_eq_false (by omega)
        have d4 : decide (65 ≤ c) = true := decide_eq_true (by omega)
        have d5 : decide (c ≤ 70) = true := decide_eq_true (by omega)
        clear e h1 h2
        go_enter Tryd.func88, Tryd.ntmps88
        go_wp2
        go_ret2
        rw [H.out]
        exact ⟨ret_tup2 (by omega), rfl⟩
      · have e : val c = none := by unfold val; rw [if_neg h1, if_neg h2, if_neg h3]
        have H := Lib.hid e
        clear e
        have t1 : (decide ((48 : Int) ≤ (c : Int)) && decide ((c : Int) ≤ 57)) = false := by simp; omega
        go_enter Tryd.func88, Tryd.ntmps88
        go_wp2
        all_goals first
          | (exfalso; omega)
          | (go_ret2; rw [H.out]; exact ⟨rfl, rfl⟩)
end Go.Proofs.YtcgllipcnmlkbaaDoor
