/- Bytes that the call appends to its own. -/
import Derived.Test.YtbmoanhdpnaocaaOct4
import Derived.Test.YtbmoanhdpnaocaaTreP
import Derived.Test.YtbmoanhdpnaocaaMix
import Derived.Maps.AppendAt
import Derived.Lib.AppendStr
import Derived.Lib.Bytealg
namespace Go.Proofs.Ytbmoanhdpnaocaa
open Go.RowKit Sets Tr
/-- v holds the bytes l, in memory of the call's own (from block B on). -/
def Out (B : Nat) (w : World) (v : Value) (l : List Nat) : Prop := w.ownsRow B 5 1 v l.length (u8s l)
theorem Out.nil (B : Nat) (w : World) : Out B w (.slice none 0 0) [] := World.ownsRow_nil _ _ _ _
theorem Out.slice {B : Nat} {w : World} {v : Value} {l : List Nat} (h : Out B w v l) : ∃ a c, v = .slice a l.length c ∧ l.length ≤ c := by
  rcases h.2 with ⟨h1, h2⟩ | ⟨g, cap, cur, h1, -, -, h2, -⟩
  · exact ⟨none, 0, by rw [h1, h2], by omega⟩
  · exact ⟨_, cap, h1, h2⟩
theorem Out.below {B : Nat} {w w' : World} {v : Value} {l : List Nat} (h : Out B w v l) (hb : Below w.heap.size w w') : Out B w' v l := by
  obtain ⟨h1, h2⟩ := h
  refine ⟨h1, ?_⟩
  rcases h2 with h2 | ⟨g, cap, cur, h3, h4, h5, h6⟩
  · exact .inl h2
  · exact .inr ⟨g, cap, cur, h3, h4, by rw [hb.block _ (Array.getElem?_eq_some_iff.1 h5).1]; exact h5, h6⟩
theorem u8s_append (D E : List Nat) : u8s (D ++ E) = u8s D ++ u8s E := List.map_append
theorem u8s_length (D : List Nat) : (u8s D).length = D.length := List.length_map _
theorem u8s_one (D : List Nat) : ∀ u ∈ u8s D, u.oneCell' = true := by
  intro u hu
  obtain ⟨x, -, rfl⟩ := List.mem_map.1 hu
  rfl
/-- What an append onto v leaves of w: all but v's own block; and v' lies there, or is new. -/
structure Ap (w : World) (v : Value) (w' : World) (v' : Value) : Prop where
  size : w.heap.size ≤ w'.heap.size
  block : ∀ k, k < w.heap.size → v.ownBlock ≠ some k → w'.heap[k]? = w.heap[k]?
  own : ∀ g, v'.ownBlock = some g → v.ownBlock = some g ∨ w.heap.size ≤ g
theorem Ap.refl (w : World) (v : Value) : Ap w v w v := ⟨Nat.le_refl _, fun _ _ _ => rfl, fun _ h => .inl h⟩
theorem Ap.of_below {w w' : World} (v : Value) (h : Below w.heap.size w w') : Ap w v w' v := ⟨h.size, fun k hk _ => h.block k hk, fun _ h => .inl h⟩
theorem Ap.trans {w w1 w2 : World} {v v1 v2 : Value} (h : Ap w v w1 v1) (k : Ap w1 v1 w2 v2) : Ap w v w2 v2 := by
  refine ⟨Nat.le_trans h.size k.size, fun i hi hn => ?_, fun g hg => ?_⟩
  · rw [k.block i (Nat.lt_of_lt_of_le hi h.size) (fun e => ?_), h.block i hi hn]
    rcases h.own i e with h1 | h1
    · exact hn h1
    · omega
  · rcases k.own g hg with h1 | h1
    · exact h.own g h1
    · exact .inr (Nat.le_trans h.size h1)
theorem Ap.bytes {w w' : World} {v v' x : Value} {l : List Nat} (h : Ap w v w' v') (hx : BytesAt w x l) (hn : ∀ g, x.ownBlock = some g → v.ownBlock ≠ some g) : BytesAt w' x l := by
  obtain ⟨h1, h2, a, cap, h3, h4⟩ := hx
  refine ⟨h1, h2, a, cap, h3, fun i hi => ?_⟩
  obtain ⟨b, o, e, hc⟩ := h4 i hi
  refine ⟨b, o, e, ?_⟩
  rw [← hc]
  exact World.cell?_of_block (w := w) (h.block b (World.block_lt_of_cell? _ _ hc) (hn b (by rw [h3, e]; rfl)))
/-- what such a call leaves, and what of the world it kept -/
def OutAp (B : Nat) (w : World) (v : Value) (l : List Nat) (e : Ending) (w' : World) : Prop := ∃ v', e = .returned v' ∧ Out B w' v' l ∧ Below B w w' ∧ Ap w v w' v'
/-- bytes that were just laid are appended -/
theorem wpList_out {ops : Array Oper} {rest : List Oper} {o : Oper} {a : Act} {w : World} {Q : Exit → Act → World → Prop} (hgd : o.guard = none) (s x : Operand)
    (ho : o.op = .call { callee := .builtin .append, args := #[s, x], argTypes := #[49, 49] }) (B : Nat) (v : Value) (D E : List Nat) (cs : Array Value) (hcs : cs = (u8s E).toArray) (hs : a.eval s = v)
    (hown : Out B w v D) (hx : a.eval x = .slice (some ⟨w.heap.size, 0, none⟩) E.length E.length) (hD : D.length + E.length ≤ 140737488355328) (hbase : B ≤ w.heap.size)
    (h : ∀ v' w', Out B w' v' (D ++ E) → Below B w w' → Ap w v w' v' → wpList Try.prog ops Q rest (a.put o.dst v') w') :
    wpList Try.prog ops Q (o :: rest) a (w.alloc (.cells cs 5)) := by
  subst hcs
  obtain ⟨i0, hi, hz0, hz1, hz2⟩ := info_parts infoB
  refine wpList_append_own_at _ hgd s x 49 ho B 5 i0 (.int .u8 0) 1 1 Try.underlying49 hi hz0 hz1 hz2 rfl (by decide) v _ _ hs (hown.alloc _) ⟨w.heap.size, 0, none⟩ E.length E.length (u8s E) hx (by rw [u8s_length, Nat.mul_one]) ?_ (u8s_one E) ?_ ?_ ?_ ?_
  · intro j u hj
    have e : (⟨w.heap.size, 0, none⟩ : Addr).add j = ⟨w.heap.size, 0 + j, none⟩ := by unfold Addr.add; split <;> simp_all
    rw [e, Nat.zero_add, World.cell?_alloc_new, List.getElem?_toArray]
    exact hj
  · unfold maxLen; omega
  · omega
  · simp; omega
  · intro v' w' h1 h2 _ h4
    refine h v' w' ?_ (((Below.refl _ _).alloc hbase _).grown h2 (by simp; omega) (fun j hj => (hown.lt j hj).1)) ⟨?_, ?_, ?_⟩
    · unfold Out
      rw [u8s_append, List.length_append]
      exact h1
    · have := h2.size; simp at this; omega
    · intro k hk hne
      rw [h2.block k (by simp; omega) (fun e => hne e.symm)]
      exact ((Below.refl w.heap.size w).alloc (Nat.le_refl _) _).block k hk
    · intro g hg
      rcases h4 with h4 | h4
      · exact .inl (by rw [← h4]; exact hg)
      · rw [h4] at hg
        simp at hg
        exact .inr (by omega)
theorem bytes_of (E : List Nat) (s : ByteArray) (h : s.data.toList = E.map fun x => x.toUInt8) (hE : ∀ x ∈ E, x < 256) : Lib.strCells s = u8s E := by
  unfold Lib.strCells u8s
  rw [h, List.map_map]
  refine List.map_congr_left (fun x hx => ?_)
  have := hE x hx
  simp only [Function.comp]
  have e : x.toUInt8.toNat = x := by show x % 256 = x; omega
  rw [e]
/-- where a string's append lies -/
theorem outS_own (w : World) (B : Nat) (ty : TypeId) (v v' : Value) (w' : World) (D : List Nat) (t : ByteArray) (hown : Out B w v D) (hD : D.length + t.size ≤ 140737488355328) (hr : (Builtin.append_ #[49, 9] ty #[v, .string t]).run Try.prog w = .ok v' w') :
    ∀ g, v'.ownBlock = some g → v.ownBlock = some g ∨ w.heap.size ≤ g := by
  obtain ⟨i0, hi, hz0, hz1, hz2⟩ := info_parts infoB
  have hml : D.length + t.size ≤ maxLen := by unfold maxLen; omega
  intro g hg
  rcases hown.2 with ⟨h1, h2⟩ | ⟨k, cap, cur, h1, hb, hk, hn, hc, hs, htake⟩
  · subst h1
    have hD0 : D = [] := List.eq_nil_of_length_eq_zero h2
    subst hD0
    obtain ⟨v2, w2, hr2, h3, -⟩ := Lib.run_append_own_string (P := Try.prog) w w.heap.size 49 9 ty 5 i0 Try.underlying49 Try.underlying9 hi hz0 hz1 hz2 (.slice none 0 0) 0 [] (World.ownsRow_nil _ _ _ _) t (by simpa using hml) (by simpa using hD) (Nat.le_refl _)
    rw [hr2] at hr
    injection hr with hv _
    subst hv
    exact .inr (h3.lt g hg).1
  · subst h1
    by_cases hroom : D.length + t.size ≤ cap
    · have hr2 := Lib.run_append_room_string (P := Try.prog) w 49 9 ty 5 i0 Try.underlying49 Try.underlying9 hi hz1 k D.length cap cur hk t hroom (by rw [hs]; omega)
      rw [hr2] at hr
      injection hr with hv _
      subst hv
      exact .inl hg
    · have hr2 := Lib.run_append_grow_string (P := Try.prog) w 49 9 ty 5 i0 _ Try.underlying49 Try.underlying9 hi hz0 ⟨k, 0, none⟩ D.length cap (u8s D) (by rw [u8s_length, hz1, Nat.mul_one]) (hown.cells (g := k) rfl) t (by omega) (by omega) (by rw [hz2]; exact growslice_fits (by omega) (by omega))
      rw [hr2] at hr
      injection hr with hv _
      subst hv
      have : w.heap.size = g := by simpa [Value.ownBlock] using hg
      exact .inr (by omega)
/-- a string is appended -/
theorem wpList_outS {ops : Array Oper} {rest : List Oper} {o : Oper} {a : Act} {w : World} {Q : Exit → Act → World → Prop} (hgd : o.guard = none) (s x : Operand)
    (ho : o.op = .call { callee := .builtin .append, args := #[s, x], argTypes := #[49, 9] }) (B : Nat) (v : Value) (D E : List Nat) (t : ByteArray) (hx : a.eval x = .string t) (ht : t.data.toList = E.map fun x => x.toUInt8) (hE : ∀ x ∈ E, x < 256)
    (hs : a.eval s = v) (hown : Out B w v D) (hD : D.length + E.length ≤ 140737488355328) (hbase : B ≤ w.heap.size)
    (h : ∀ v' w', Out B w' v' (D ++ E) → Below B w w' → Ap w v w' v' → wpList Try.prog ops Q rest (a.put o.dst v') w') : wpList Try.prog ops Q (o :: rest) a w := by
  obtain ⟨i0, hi, hz0, hz1, hz2⟩ := info_parts infoB
  have hsz : t.size = E.length := by
    show t.data.size = _
    rw [← Array.length_toList, ht, List.length_map]
  refine wpList_plain hgd fun K hK => ?_
  obtain ⟨v', w', hr, h1, h2, -⟩ := Lib.run_append_own_string (P := Try.prog) w B 49 9 o.type 5 i0 Try.underlying49 Try.underlying9 hi hz0 hz1 hz2 v D.length (u8s D) hown t (by rw [hsz]; unfold maxLen; omega) (by rw [hsz]; omega) hbase
  have h3 := outS_own w B o.type v v' w' D t hown (by rw [hsz]; omega) hr
  unfold Oper.wp execOp
  simp only [ho, resolve, invoke, builtin, Sem.run_bind, Sem.run_pure, Result.andThen_ok, List.map_toArray, List.map_cons, List.map_nil, hs, hx, hr]
  refine hK _ _ (h v' w' ?_ ((Below.refl _ _).grown h2 hbase (fun j hj => (hown.lt j hj).1)) ⟨h2.size, fun k hk hne => h2.block k hk (fun e => hne e.symm), h3⟩)
  unfold Out
  rw [bytes_of E t ht hE, hsz] at h1
  rw [u8s_append, List.length_append]
  exact h1
theorem index_bytes (s : ByteArray) (c : Int) (w : World) : Calls Try.prog 31 #[.string s, .int .u8 c] w fun e w' => e = .returned (.int .i64 (Lib.indexByte s.data.toList c.toNat.toUInt8)) ∧ w = w' := by
  have hi : (callFunc 40 #[.string s, .int .u8 c]).run Try.prog w = .ok (.value (.int .i64 (Lib.indexByte s.data.toList c.toNat.toUInt8))) w := by
    rw [run_callFunc_extern Try.func40 (by kernel_rfl) (by kernel_rfl) (by kernel_rfl) (e := Extern.BytealgIndexByte.indexByte) (by kernel_rfl), Lib.run_indexByteString]
    rfl
  go_enter Try.func31, Try.ntmps31
  go_wp2
  go_ret
  exact ⟨rfl, rfl⟩
def sMarks : ByteArray := ⟨#[38, 33, 124, 42, 43, 63, 123, 125, 91, 93, 40, 41, 46, 92]⟩
def sInner : ByteArray := ⟨#[92, 93, 94, 45]⟩
/-- the string s has just the bytes m -/
def HasB (s : ByteArray) (m : List Nat) : Prop := ∀ c : Nat, c < 256 → decide (0 ≤ Lib.indexByte s.data.toList ((c : Int)).toNat.toUInt8) = m.contains c
theorem hasMarks : HasB sMarks marks := by
  intro c hc
  rw [Int.toNat_natCast]
  revert c
  decide +kernel
theorem hasInner : HasB sInner inner := by
  intro c hc
  rw [Int.toNat_natCast]
  revert c
  decide +kernel
def sHex : ByteArray := ⟨#[48, 49, 50, 51, 52, 53, 54, 55, 56, 57, 97, 98, 99, 100, 101, 102]⟩
theorem index_hex (d : Nat) (h : d < 16) (w : World) : (Instr.index 9 (.string ⟨#[48, 49, 50, 51, 52, 53, 54, 55, 56, 57, 97, 98, 99, 100, 101, 102]⟩) (.int .u8 (d : Int))).run Try.prog w = .ok (.int .u8 (hex d : Nat)) w := by
  have : d = 0 ∨ d = 1 ∨ d = 2 ∨ d = 3 ∨ d = 4 ∨ d = 5 ∨ d = 6 ∨ d = 7 ∨ d = 8 ∨ d = 9 ∨ d = 10 ∨ d = 11 ∨ d = 12 ∨ d = 13 ∨ d = 14 ∨ d = 15 := by omega
  rcases this with rfl | rfl | rfl | rfl | rfl | rfl | rfl | rfl | rfl | rfl | rfl | rfl | rfl | rfl | rfl | rfl <;> rfl
end Go.Proofs.Ytbmoanhdpnaocaa
