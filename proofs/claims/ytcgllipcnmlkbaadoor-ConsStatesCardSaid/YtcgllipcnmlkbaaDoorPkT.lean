/- Several texts in one. -/
import Derived.Test.YtcgllipcnmlkbaaDoorPkS
import Derived.Test.YtcgllipcnmlkbaaDoorPkK
import Derived.Test.YtcgllipcnmlkbaaDoorPkA
import Derived.Test.YtcgllipcnmlkbaaDoorPkD
namespace Go.Proofs.YtcgllipcnmlkbaaDoor
open Go.RowKit Sets Tr Rx Sp
def u64L (l : List Nat) : List Value := l.map fun (x : Nat) => .int .u64 (x : Int)
def st4 (S : Nat) : List Value := [.int .u64 (wd S 0), .int .u64 (wd S 1), .int .u64 (wd S 2), .int .u64 (wd S 3)]
def sts (l : List Nat) : List Value := l.flatMap st4
theorem u64L_append (l m : List Nat) : u64L (l ++ m) = u64L l ++ u64L m := List.map_append
theorem u64L_length (l : List Nat) : (u64L l).length = l.length := List.length_map _
theorem sts_append (l m : List Nat) : sts (l ++ m) = sts l ++ sts m := by unfold sts; simp
theorem sts_length (l : List Nat) : (sts l).length = l.length * 4 := by
  induction l with
  | nil => rfl
  | cons x l ih => unfold sts at *; rw [List.flatMap_cons, List.length_append, ih, List.length_cons]; simp [st4]; omega
theorem u64L_ones (l : List Nat) : ∀ u ∈ u64L l, u.oneCell' = true := by
  intro u hu
  obtain ⟨x, -, rfl⟩ := List.mem_map.1 hu
  rfl
theorem sts_ones (l : List Nat) : ∀ u ∈ sts l, u.oneCell' = true := by
  intro u hu
  obtain ⟨S, -, hS⟩ := List.mem_flatMap.1 hu
  simp [st4] at hS
  rcases hS with rfl | rfl | rfl | rfl <;> rfl
theorem sts_get (l : List Nat) (i q : Nat) (hi : i < l.length) (v : Value) (hq : (st4 (l.getD i 0))[q]? = some v) : (sts l)[i * 4 + q]? = some v := by
  induction l generalizing i with
  | nil => simp at hi
  | cons x l ih =>
    have hl : (st4 x).length = 4 := rfl
    cases i with
    | zero =>
      simp only [List.getD_cons_zero] at hq
      unfold sts
      rw [List.flatMap_cons, Nat.zero_mul, Nat.zero_add, List.getElem?_append_left (List.getElem?_eq_some_iff.1 hq).1]
      exact hq
    | succ i =>
      simp only [List.getD_cons_succ] at hq
      unfold sts
      rw [List.flatMap_cons, List.getElem?_append_right (by rw [hl]; omega), hl, show (i + 1) * 4 + q - 4 = i * 4 + q from by omega]
      exact ih i (by simpa using hi) hq
def OwnS (B : Nat) (w : World) (v : Value) (l : List Nat) : Prop := w.ownsRow B 52 4 v l.length (sts l)
def OwnU (B : Nat) (w : World) (v : Value) (l : List Nat) : Prop := w.ownsRow B 24 1 v l.length (u64L l)
def MRow (w : World) (B : Nat) (nv sv fv : Value) : Prop := w.heap[B]? = some (.cells #[nv, sv, fv] 76 (0, 0))
structure MkAt (w : World) (B : Nat) (nv sv fv : Value) (S F : List Nat) : Prop where
  row : MRow w B nv sv fv
  os : OwnS (B + 1) w sv S
  of : OwnU (B + 1) w fv F
theorem MRow.lt {w : World} {B : Nat} {nv sv fv : Value} (h : MRow w B nv sv fv) : B < w.heap.size := (Array.getElem?_eq_some_iff.1 h).1
theorem MRow.cells {w : World} {B : Nat} {nv sv fv : Value} (h : MRow w B nv sv fv) : w.cell? ⟨B, 0, none⟩ = some nv ∧ w.cell? ⟨B, 1, none⟩ = some sv ∧ w.cell? ⟨B, 2, none⟩ = some fv := by
  unfold MRow at h; simp [World.cell?, h]
theorem MRow.frozen {w : World} {B : Nat} {nv sv fv : Value} (h : MRow w B nv sv fv) (i : Nat) : w.frozen? ⟨B, i, none⟩ = false := by
  unfold MRow at h; simp [World.frozen?, h]
theorem MRow.kept {w w' : World} {B : Nat} {nv sv fv : Value} (h : MRow w B nv sv fv) (e : w'.heap[B]? = w.heap[B]?) : MRow w' B nv sv fv := e.trans h
theorem MRow.put1 {w : World} {B : Nat} {nv sv fv : Value} (h : MRow w B nv sv fv) (v : Value) : MRow (w.setCell ⟨B, 1, none⟩ v) B nv v fv := by
  unfold MRow at *; simp [World.setCell, Array.getElem?_modify, h]
theorem MRow.put2 {w : World} {B : Nat} {nv sv fv : Value} (h : MRow w B nv sv fv) (v : Value) : MRow (w.setCell ⟨B, 2, none⟩ v) B nv sv v := by
  unfold MRow at *; simp [World.setCell, Array.getElem?_modify, h]
theorem MkAt.apart {w : World} {B : Nat} {nv sv fv : Value} {S F : List Nat} (h : MkAt w B nv sv fv S F) : ∀ g, sv.ownBlock = some g → fv.ownBlock ≠ some g := by
  intro g h1 h2
  rcases h.os.2 with ⟨h3, -⟩ | ⟨k, cap, cur, h3, -, h4, -⟩
  · rw [h3] at h1; cases h1
  · rcases h.of.2 with ⟨h5, -⟩ | ⟨k', cap', cur', h5, -, h6, -⟩
    · rw [h5] at h2; cases h2
    · rw [h3] at h1
      rw [h5] at h2
      have e1 : k = g := by simpa [Value.ownBlock] using h1
      have e2 : k' = g := by simpa [Value.ownBlock] using h2
      subst e1 e2
      rw [h4] at h6
      injection h6 with h6
      injection h6 with h6 h7
      exact absurd h7 (by decide)
theorem MkAt.below {w w' : World} {B : Nat} {nv sv fv : Value} {S F : List Nat} (h : MkAt w B nv sv fv S F) (hb : Below w.heap.size w w') : MkAt w' B nv sv fv S F :=
  ⟨h.row.kept (hb.block _ h.row.lt), own_kept h.os fun g hg => hb.block g (h.os.lt g hg).2, own_kept h.of fun g hg => hb.block g (h.of.lt g hg).2⟩
theorem infoU64 : (Tryd.prog.info? 24).map (fun i => (i.zero, i.size, i.bytes)) = some (some (.int .u64 0), 1, 8) := by kernel_rfl
theorem infoSet : (Tryd.prog.info? 52).map (fun i => (i.zero, i.size, i.bytes)) = some (some (.agg #[.int .u64 0, .int .u64 0, .int .u64 0, .int .u64 0]), 4, 32) := by kernel_rfl
/-- an append leaves what the slice held where it lay -/
theorem run_append_keep {P : Program} (w : World) (base : Nat) (t ty e : TypeId) (i : TypeInfo) (z : Value) (size bytes : Nat) (ht : P.underlying t = some (.slice e)) (hi : P.info? e = some i) (hz : i.zero = some z)
    (hsize : i.size = size) (hby : i.bytes = bytes) (hzs : z.cells.size = size) (hsz : 0 < size)
    (v : Value) (n : Nat) (xs : List Value) (hown : w.ownsRow base e size v n xs)
    (a : Addr) (m c : Nat) (news : List Value) (hl : news.length = m * size) (hnews : ∀ j u, news[j]? = some u → w.cell? (a.add j) = some u) (h1 : ∀ u ∈ news, u.oneCell' = true)
    (h63 : n + m ≤ maxLen) (hbytes : (n + m) * bytes ≤ 140737488355328) (hbase : base ≤ w.heap.size) :
    ∃ v' w', (Builtin.append_ #[t, t] ty #[v, .slice (some a) m c]).run P w = .ok v' w' ∧ w'.ownsRow base e size v' (n + m) (xs ++ news) ∧ w.grownBy w' v.ownBlock ∧
      (v'.ownBlock = v.ownBlock ∨ v'.ownBlock = some w.heap.size) ∧ ∀ g, v.ownBlock = some g → ∀ j u, xs[j]? = some u → w'.cell? ⟨g, j, none⟩ = some u := by
  obtain ⟨v', w', hr, h2, h3, h4, h5⟩ := run_append_own_at (P := P) w base t ty e i z size bytes ht hi hz hsize hby hzs hsz v n xs hown a m c news hl hnews h1 h63 hbytes hbase
  refine ⟨v', w', hr, h2, h3, h5, fun g hg j u hj => ?_⟩
  have hjl : j < xs.length := (List.getElem?_eq_some_iff.1 hj).1
  rcases hown.2 with ⟨h6, -⟩ | ⟨k, cap, cur, h6, hb, hk, hn, hc, hs, htake⟩
  · rw [h6] at hg; cases hg
  · have hkg : k = g := by rw [h6] at hg; simpa [Value.ownBlock] using hg
    subst hkg
    subst h6
    have hsmall : n + m ≤ 9223372036854775807 := by simp only [maxLen] at h63; omega
    by_cases hroom : n + m ≤ cap
    · have hr2 := run_append_room (P := P) w t ty e i ht hi k n cap cur hk a m c news (by rw [hsize]; exact hl) hnews h1 hroom (by rw [hl, hs, hsize, ← Nat.add_mul]; exact Nat.mul_le_mul_right _ hroom)
      rw [hr2] at hr
      injection hr with hv hw
      subst hv
      have := World.ownsRow.cellAt h2 j (by rw [hown.1] at hjl; exact Nat.lt_of_lt_of_le hjl (Nat.mul_le_mul_right _ (by omega)))
      rw [this, List.getElem?_append_left hjl]
      exact hj
    · have hr2 := run_append_grow (P := P) w t ty e i z ht hi hz ⟨k, 0, none⟩ n cap xs (by rw [hsize]; exact hown.1) (hown.cells (g := k) rfl) a m c news (by rw [hsize]; exact hl) hnews (by omega) (by omega) (growslice_fits (by omega) (by rw [hby]; exact hbytes))
      rw [hr2] at hr
      injection hr with hv hw
      subst hw
      have hc0 := hown.cells (g := k) rfl j u hj
      rw [Addr.add_lit, Nat.zero_add] at hc0
      exact (World.cell?_of_block (w := w) (Below.heap_alloc w.drew _ k (World.block_lt_of_cell? _ _ hc0))).trans hc0
theorem wpList_append_keep {P : Program} {w : World} {ops : Array Oper} {rest : List Oper} {o : Oper} {a : Act} {Q : Exit → Act → World → Prop} (hgd : o.guard = none) (s x : Operand) (t : TypeId)
    (ho : o.op = .call { callee := .builtin .append, args := #[s, x], argTypes := #[t, t] })
    (base : Nat) (e : TypeId) (i : TypeInfo) (z : Value) (size bytes : Nat) (ht : P.underlying t = some (.slice e)) (hi : P.info? e = some i) (hz : i.zero = some z)
    (hsize : i.size = size) (hby : i.bytes = bytes) (hzs : z.cells.size = size) (hsz : 0 < size)
    (v : Value) (n : Nat) (xs : List Value) (hs : a.eval s = v) (hown : w.ownsRow base e size v n xs)
    (ad : Addr) (m c : Nat) (news : List Value) (hx : a.eval x = .slice (some ad) m c) (hl : news.length = m * size) (hnews : ∀ j u, news[j]? = some u → w.cell? (ad.add j) = some u) (h1 : ∀ u ∈ news, u.oneCell' = true)
    (h63 : n + m ≤ maxLen) (hbytes : (n + m) * bytes ≤ 140737488355328) (hbase : base ≤ w.heap.size)
    (h : ∀ v' w', w'.ownsRow base e size v' (n + m) (xs ++ news) → w.grownBy w' v.ownBlock → (v'.ownBlock = v.ownBlock ∨ v'.ownBlock = some w.heap.size) → (∀ g, v.ownBlock = some g → ∀ j u, xs[j]? = some u → w'.cell? ⟨g, j, none⟩ = some u) → wpList P ops Q rest (a.put o.dst v') w') :
    wpList P ops Q (o :: rest) a w := by
  refine wpList_plain hgd fun K hK => ?_
  obtain ⟨v', w', hr, h2, h3, h4, h5⟩ := run_append_keep (P := P) w base t o.type e i z size bytes ht hi hz hsize hby hzs hsz v n xs hown ad m c news hl hnews h1 h63 hbytes hbase
  unfold Oper.wp execOp
  simp only [ho, resolve, invoke, builtin, Sem.run_bind, Sem.run_pure, Result.andThen_ok, List.map_toArray, List.map_cons, List.map_nil, hs, hx, hr]
  exact hK _ _ (h v' w' h2 h3 h4 h5)
/-- one set, just laid, is appended -/
theorem wpList_append_set {ops : Array Oper} {rest : List Oper} {o : Oper} {a : Act} {w : World} {Q : Exit → Act → World → Prop} (hgd : o.guard = none) (s y : Operand)
    (ho : o.op = .call { callee := .builtin .append, args := #[s, y], argTypes := #[29, 29] }) (B : Nat) (v : Value) (N : List Nat) (x : Nat) (hs : a.eval s = v)
    (g : Nat) (hc : w.rangeAt g 0 (st4 x)) (hown : OwnS B w v N) (hx : a.eval y = .slice (some ⟨g, 0, none⟩) 1 1) (hN : N.length ≤ 1000) (hbase : B ≤ w.heap.size)
    (h : ∀ v' w', OwnS B w' v' (N ++ [x]) → w.grownBy w' v.ownBlock → (v'.ownBlock = v.ownBlock ∨ v'.ownBlock = some w.heap.size) → (∀ g, v.ownBlock = some g → ∀ j u, (sts N)[j]? = some u → w'.cell? ⟨g, j, none⟩ = some u) → wpList Tryd.prog ops Q rest (a.put o.dst v') w') :
    wpList Tryd.prog ops Q (o :: rest) a w := by
  obtain ⟨i0, hi, hz0, hz1, hz2⟩ := info_parts infoSet
  refine wpList_append_keep hgd s y 29 ho B 52 i0 _ 4 32 Tryd.underlying29 hi hz0 hz1 hz2 rfl (by decide) v _ _ hs hown ⟨g, 0, none⟩ 1 1 (st4 x) hx rfl ?_ ?_ ?_ ?_ hbase ?_
  · intro j u hj
    rw [Addr.add_lit]
    exact hc j u hj
  · have := sts_ones [x]
    simpa [sts] using this
  · unfold maxLen; omega
  · omega
  · intro v' w' h1 h2 h4 h5
    refine h v' w' ?_ h2 h4 h5
    unfold OwnS
    rw [sts_append, List.length_append]
    simpa [sts] using h1
/-- one number, just laid, is appended -/
theorem wpList_append_u64 {ops : Array Oper} {rest : List Oper} {o : Oper} {a : Act} {w : World} {Q : Exit → Act → World → Prop} (hgd : o.guard = none) (s y : Operand)
    (ho : o.op = .call { callee := .builtin .append, args := #[s, y], argTypes := #[43, 43] }) (B : Nat) (v : Value) (N : List Nat) (x : Nat) (hs : a.eval s = v)
    (g : Nat) (hc : w.cell? ⟨g, 0, none⟩ = some (.int .u64 x)) (hown : OwnU B w v N) (hx : a.eval y = .slice (some ⟨g, 0, none⟩) 1 1) (hN : N.length ≤ 1000) (hbase : B ≤ w.heap.size)
    (h : ∀ v' w', OwnU B w' v' (N ++ [x]) → w.grownBy w' v.ownBlock → (v'.ownBlock = v.ownBlock ∨ v'.ownBlock = some w.heap.size) → (∀ g, v.ownBlock = some g → ∀ j u, (u64L N)[j]? = some u → w'.cell? ⟨g, j, none⟩ = some u) → wpList Tryd.prog ops Q rest (a.put o.dst v') w') :
    wpList Tryd.prog ops Q (o :: rest) a w := by
  obtain ⟨i0, hi, hz0, hz1, hz2⟩ := info_parts infoU64
  refine wpList_append_keep hgd s y 43 ho B 24 i0 _ 1 8 Tryd.underlying43 hi hz0 hz1 hz2 rfl (by decide) v _ _ hs hown ⟨g, 0, none⟩ 1 1 [.int .u64 x] hx rfl ?_ ?_ ?_ ?_ hbase ?_
  · intro j u hj
    rw [Addr.add_lit]
    cases j with
    | zero => rw [Nat.add_zero, hc]; simpa using hj
    | succ j => simp at hj
  · exact u64L_ones [x]
  · unfold maxLen; omega
  · omega
  · intro v' w' h1 h2 h4 h5
    refine h v' w' ?_ h2 h4 h5
    unfold OwnU
    rw [u64L_append, List.length_append]
    simpa [u64L] using h1
/-- behind an append to the sets -/
theorem MkAt.sets {w w' : World} {B : Nat} {nv sv fv v' : Value} {S F S' : List Nat} (h : MkAt w B nv sv fv S F) (h1 : OwnS (B + 1) w' v' S') (h2 : w.grownBy w' sv.ownBlock) :
    MRow w' B nv sv fv ∧ MkAt (w'.setCell ⟨B, 1, none⟩ v') B nv v' fv S' F ∧ Below B w (w'.setCell ⟨B, 1, none⟩ v') := by
  have hrow : w'.heap[B]? = w.heap[B]? := h2.block B h.row.lt (fun e => by have := (h.os.lt B e.symm).1; omega)
  have hr := h.row.kept hrow
  refine ⟨hr, ⟨hr.put1 v', own_kept h1 fun g hg => Below.heap_setCell _ _ _ _ (by have := (h1.lt g hg).1; simp only; omega), own_kept h.of fun g hg => ?_⟩, h2.os, h2.tape, h2.output, by simpa using h2.size, fun k hk => ?_⟩
  · rw [Below.heap_setCell _ _ _ _ (by have := (h.of.lt g hg).1; simp only; omega)]
    exact h2.block g (h.of.lt g hg).2 (fun e => h.apart g e.symm hg)
  · rw [Below.heap_setCell _ _ _ _ (by simp only; omega)]
    exact h2.block k (by have := h.row.lt; omega) (fun e => by have := (h.os.lt k e.symm).1; omega)
/-- behind an append to the followers -/
theorem MkAt.fols {w w' : World} {B : Nat} {nv sv fv v' : Value} {S F F' : List Nat} (h : MkAt w B nv sv fv S F) (h1 : OwnU (B + 1) w' v' F') (h2 : w.grownBy w' fv.ownBlock) :
    MRow w' B nv sv fv ∧ MkAt (w'.setCell ⟨B, 2, none⟩ v') B nv sv v' S F' ∧ Below B w (w'.setCell ⟨B, 2, none⟩ v') := by
  have hrow : w'.heap[B]? = w.heap[B]? := h2.block B h.row.lt (fun e => by have := (h.of.lt B e.symm).1; omega)
  have hr := h.row.kept hrow
  refine ⟨hr, ⟨hr.put2 v', own_kept h.os fun g hg => ?_, own_kept h1 fun g hg => Below.heap_setCell _ _ _ _ (by have := (h1.lt g hg).1; simp only; omega)⟩, h2.os, h2.tape, h2.output, by simpa using h2.size, fun k hk => ?_⟩
  · rw [Below.heap_setCell _ _ _ _ (by have := (h.os.lt g hg).1; simp only; omega)]
    exact h2.block g (h.os.lt g hg).2 (fun e => h.apart g hg e.symm)
  · rw [Below.heap_setCell _ _ _ _ (by simp only; omega)]
    exact h2.block k (by have := h.row.lt; omega) (fun e => by have := (h.of.lt k e.symm).1; omega)
/-- what such a call leaves of w: all but the maker and its slices -/
structure Fr (B : Nat) (w : World) (sv fv : Value) (w' : World) (sv' fv' : Value) : Prop where
  below : Below B w w'
  block : ∀ k, k < w.heap.size → k ≠ B → sv.ownBlock ≠ some k → fv.ownBlock ≠ some k → w'.heap[k]? = w.heap[k]?
  os : ∀ g, sv'.ownBlock = some g → sv.ownBlock = some g ∨ w.heap.size ≤ g
  of : ∀ g, fv'.ownBlock = some g → fv.ownBlock = some g ∨ w.heap.size ≤ g
theorem Fr.of_below {B : Nat} {w w' : World} (sv fv : Value) (h : Below w.heap.size w w') (hB : B < w.heap.size) : Fr B w sv fv w' sv fv :=
  ⟨h.mono (Nat.le_of_lt hB), fun k hk _ _ _ => h.block k hk, fun _ h => .inl h, fun _ h => .inl h⟩
theorem Fr.refl {B : Nat} {w : World} (sv fv : Value) (hB : B < w.heap.size) : Fr B w sv fv w sv fv := .of_below sv fv (Below.refl _ _) hB
theorem Fr.trans {B : Nat} {w w1 w2 : World} {sv fv sv1 fv1 sv2 fv2 : Value} (h : Fr B w sv fv w1 sv1 fv1) (k : Fr B w1 sv1 fv1 w2 sv2 fv2) : Fr B w sv fv w2 sv2 fv2 := by
  have hs := h.below.size
  refine ⟨h.below.trans k.below, fun i hi hB h1 h2 => ?_, fun g hg => ?_, fun g hg => ?_⟩
  · rw [k.block i (by omega) hB (fun e => ?_) (fun e => ?_), h.block i hi hB h1 h2]
    · rcases h.os i e with h3 | h3
      · exact h1 h3
      · omega
    · rcases h.of i e with h3 | h3
      · exact h2 h3
      · omega
  · rcases k.os g hg with h1 | h1
    · exact h.os g h1
    · exact .inr (by omega)
  · rcases k.of g hg with h1 | h1
    · exact h.of g h1
    · exact .inr (by omega)
theorem Fr.setRow {B g : Nat} {w w' : World} {sv fv sv' fv' : Value} (h : Fr B w sv fv w' sv' fv') (cs : Array Value) (hg : w.heap.size ≤ g) (hB : B < w.heap.size) : Fr B w sv fv (w'.setRow g cs) sv' fv' :=
  ⟨h.below.trans ⟨rfl, rfl, rfl, by simp [World.setRow], fun k hk => setRow_other _ _ _ _ (by omega)⟩, fun k hk h0 h1 h2 => by rw [setRow_other _ _ _ _ (by omega)]; exact h.block k hk h0 h1 h2, h.os, h.of⟩
theorem Fr.drew {B : Nat} {w w' : World} {sv fv sv' fv' : Value} (h : Fr B w sv fv w' sv' fv') : Fr B w sv fv w'.drew sv' fv' := ⟨h.below.drew, h.block, h.os, h.of⟩
theorem MkAt.push_set {w w' : World} {B : Nat} {nv sv fv v' : Value} {S F : List Nat} {x : Nat} (h : MkAt w B nv sv fv S F) (h1 : OwnS (B + 1) w' v' (S ++ [x])) (h2 : w.grownBy w' sv.ownBlock) (h3 : v'.ownBlock = sv.ownBlock ∨ v'.ownBlock = some w.heap.size) :
    ∃ a c, v' = .slice a (S.length + 1) c ∧ w'.frozen? ⟨B, 1, none⟩ = false ∧ w'.cell? ⟨B, 0, none⟩ = some nv ∧ w'.cell? ⟨B, 1, none⟩ = some sv ∧ w'.cell? ⟨B, 2, none⟩ = some fv ∧
      Hid (MkAt (w'.setCell ⟨B, 1, none⟩ (.slice a (S.length + 1) c)) B nv (.slice a (S.length + 1) c) fv (S ++ [x]) F) ∧ Hid (Fr B w sv fv (w'.setCell ⟨B, 1, none⟩ (.slice a (S.length + 1) c)) (.slice a (S.length + 1) c) fv) := by
  obtain ⟨a, c, hv⟩ := own_slice h1
  rw [show (S ++ [x]).length = S.length + 1 from List.length_append.trans rfl] at hv
  subst hv
  have hM := h.sets h1 h2
  obtain ⟨c0, c1, c2⟩ := hM.1.cells
  refine ⟨a, c, rfl, hM.1.frozen 1, c0, c1, c2, Lib.hid hM.2.1, Lib.hid ⟨hM.2.2, fun k hk hB hn _ => ?_, fun g hg => ?_, fun _ hg => .inl hg⟩⟩
  · rw [Below.heap_setCell _ _ _ _ (by simp only; omega)]
    exact h2.block k hk (fun e => hn e.symm)
  · rcases h3 with h3 | h3
    · exact .inl (h3 ▸ hg)
    · rw [h3] at hg; injection hg with hg; exact .inr (by omega)
theorem MkAt.push_fol {w w' : World} {B : Nat} {nv sv fv v' : Value} {S F : List Nat} {x : Nat} (h : MkAt w B nv sv fv S F) (h1 : OwnU (B + 1) w' v' (F ++ [x])) (h2 : w.grownBy w' fv.ownBlock) (h3 : v'.ownBlock = fv.ownBlock ∨ v'.ownBlock = some w.heap.size) :
    ∃ a c, v' = .slice a (F.length + 1) c ∧ w'.frozen? ⟨B, 2, none⟩ = false ∧ w'.cell? ⟨B, 0, none⟩ = some nv ∧ w'.cell? ⟨B, 1, none⟩ = some sv ∧ w'.cell? ⟨B, 2, none⟩ = some fv ∧
      Hid (MkAt (w'.setCell ⟨B, 2, none⟩ (.slice a (F.length + 1) c)) B nv sv (.slice a (F.length + 1) c) S (F ++ [x])) ∧ Hid (Fr B w sv fv (w'.setCell ⟨B, 2, none⟩ (.slice a (F.length + 1) c)) sv (.slice a (F.length + 1) c)) := by
  obtain ⟨a, c, hv⟩ := own_slice h1
  rw [show (F ++ [x]).length = F.length + 1 from List.length_append.trans rfl] at hv
  subst hv
  have hM := h.fols h1 h2
  obtain ⟨c0, c1, c2⟩ := hM.1.cells
  refine ⟨a, c, rfl, hM.1.frozen 2, c0, c1, c2, Lib.hid hM.2.1, Lib.hid ⟨hM.2.2, fun k hk hB _ hn => ?_, fun _ hg => .inl hg, fun g hg => ?_⟩⟩
  · rw [Below.heap_setCell _ _ _ _ (by simp only; omega)]
    exact h2.block k hk (fun e => hn e.symm)
  · rcases h3 with h3 | h3
    · exact .inl (h3 ▸ hg)
    · rw [h3] at hg; injection hg with hg; exact .inr (by omega)
theorem MkAt.other {w : World} {B : Nat} {nv sv fv : Value} {S F : List Nat} (h : MkAt w B nv sv fv S F) (g : Nat) (cs : Array Value) (h0 : g ≠ B) (h1 : sv.ownBlock ≠ some g) (h2 : fv.ownBlock ≠ some g) : MkAt (w.setRow g cs) B nv sv fv S F :=
  ⟨h.row.kept (setRow_other _ _ _ _ (fun e => h0 e.symm)), own_kept h.os fun _ hk => setRow_other _ _ _ _ (fun e => h1 (e ▸ hk)), own_kept h.of fun _ hk => setRow_other _ _ _ _ (fun e => h2 (e ▸ hk))⟩
/-- ends lie in no slice of the maker's -/
theorem MkAt.off {w : World} {B b : Nat} {nv sv fv : Value} {S F : List Nat} {cs : Array Value} {t : TypeId} {fr : Nat × Nat} (h : MkAt w B nv sv fv S F) (hb : w.heap[b]? = some (.cells cs t fr)) (ht : t ≠ 52) (hu : t ≠ 24) : sv.ownBlock ≠ some b ∧ fv.ownBlock ≠ some b := by
  constructor
  · intro e
    rcases h.os.2 with ⟨h3, -⟩ | ⟨k, cap, cur, h3, -, h4, -⟩
    · rw [h3] at e; cases e
    · rw [h3] at e
      have e1 : k = b := by simpa [Value.ownBlock] using e
      subst e1
      rw [h4] at hb
      injection hb with hb
      injection hb with h6 h7
      exact ht h7.symm
  · intro e
    rcases h.of.2 with ⟨h3, -⟩ | ⟨k, cap, cur, h3, -, h4, -⟩
    · rw [h3] at e; cases e
    · rw [h3] at e
      have e1 : k = b := by simpa [Value.ownBlock] using e
      subst e1
      rw [h4] at hb
      injection hb with hb
      injection hb with h6 h7
      exact hu h7.symm
theorem Fr.keep {B b : Nat} {w w' : World} {nv sv fv sv' fv' : Value} {S F : List Nat} {cs : Array Value} {t : TypeId} {fr : Nat × Nat} (h : Fr B w sv fv w' sv' fv') (hM : MkAt w B nv sv fv S F) (hb : w.heap[b]? = some (.cells cs t fr))
    (h1 : t ≠ 52) (h2 : t ≠ 24) (h3 : t ≠ 76) : w'.heap[b]? = some (.cells cs t fr) := by
  have ho := hM.off hb h1 h2
  rw [h.block b (Array.getElem?_eq_some_iff.1 hb).1 (fun e => ?_) ho.1 ho.2, hb]
  have hr := hM.row
  unfold MRow at hr
  rw [← e, hb] at hr
  injection hr with hr
  injection hr with h6 h7
  exact h3 h7
theorem MkAt.drewn {w : World} {B : Nat} {nv sv fv : Value} {S F : List Nat} (h : MkAt w B nv sv fv S F) : MkAt w.drew B nv sv fv S F := ⟨h.row, h.os.drew, h.of.drew⟩
theorem shl_one (n : Nat) (hn : n < 64) : IntKind.u64.wrap (2 ^ min n 64) = ((2 ^ n : Nat) : Int) := by
  have h : 2 ^ n < 2 ^ 64 := Nat.pow_lt_pow_right (by decide) hn
  rw [IntKind.wrap_u64, Nat.min_eq_left (by omega)]
  have h2 : ((2 ^ n : Nat) : Int) < 18446744073709551616 := by omega
  rw [Int.natCast_pow] at *
  exact Int.emod_eq_of_lt (Int.le_of_lt (Int.pow_pos (by decide))) h2
theorem shl_any (x n : Nat) (hn : n < 64) (h : x <<< n < 2 ^ 64) : IntKind.u64.wrap ((x : Int) * 2 ^ min n 64) = ((x <<< n : Nat) : Int) := by
  rw [IntKind.wrap_u64, Nat.min_eq_left (by omega)]
  have h2 : ((x <<< n : Nat) : Int) < 18446744073709551616 := Int.ofNat_lt.2 h
  have e : ((x <<< n : Nat) : Int) = (x : Int) * 2 ^ n := by rw [Nat.shiftLeft_eq, Int.natCast_mul, Int.natCast_pow]; rfl
  rw [← e]
  exact Int.emod_eq_of_lt (Int.natCast_nonneg _) h2
theorem range_new (w : World) (l : List Value) (t : TypeId) : (w.alloc (.cells l.toArray t)).rangeAt w.heap.size 0 l := by
  intro j v hv
  rw [Nat.zero_add, cell_of_row _ _ j _ _ _ (heap_alloc_new w _), List.getElem?_toArray]; exact hv
def en3 (f l : Nat) (e : Bool) : Array Value := #[.int .u64 f, .int .u64 l, .bool e]
def enV (n : Nat) (m : Mk) : Value := .agg (en3 (m.fi <<< n) (m.la <<< n) m.em)
/-- ends in block b -/
def ERow (w : World) (b f l : Nat) (e : Bool) : Prop := w.heap[b]? = some (.cells (en3 f l e) 80 (0, 0))
theorem ERow.lt {w : World} {b f l : Nat} {e : Bool} (h : ERow w b f l e) : b < w.heap.size := (Array.getElem?_eq_some_iff.1 h).1
theorem ERow.cells {w : World} {b f l : Nat} {e : Bool} (h : ERow w b f l e) : w.cell? ⟨b, 0, none⟩ = some (.int .u64 f) ∧ w.cell? ⟨b, 1, none⟩ = some (.int .u64 l) ∧ w.cell? ⟨b, 2, none⟩ = some (.bool e) := by
  unfold ERow en3 at h; simp [World.cell?, h]
theorem ERow.frozen {w : World} {b f l : Nat} {e : Bool} (h : ERow w b f l e) (i : Nat) : w.frozen? ⟨b, i, none⟩ = false := by
  unfold ERow en3 at h; simp [World.frozen?, h]
theorem ERow.kept {w w' : World} {b f l : Nat} {e : Bool} (h : ERow w b f l e) (k : w'.heap[b]? = w.heap[b]?) : ERow w' b f l e := k.trans h
theorem ERow.below {w w' : World} {b f l : Nat} {e : Bool} (h : ERow w b f l e) (k : Below w.heap.size w w') : ERow w' b f l e := h.kept (k.block b h.lt)
theorem ERow.new (w : World) (f l : Nat) (e : Bool) : ERow (w.alloc (.cells (en3 f l e) 80)) w.heap.size f l e := heap_alloc_new w _
theorem sizeEnds (f l : Nat) (e : Bool) : (Tryd.prog.info? 80).map (·.size) = some (en3 f l e).size := by
  show _ = some 3
  kernel_rfl
theorem onesEnds (f l : Nat) (e : Bool) : (en3 f l e).all (·.oneCell') = true := by unfold en3; simp [Value.oneCell']
theorem ERow.fr {B b f l : Nat} {e : Bool} {w w' : World} {nv sv fv sv' fv' : Value} {S F : List Nat} (h : ERow w b f l e) (hM : MkAt w B nv sv fv S F) (k : Fr B w sv fv w' sv' fv') : ERow w' b f l e :=
  k.keep hM h (by decide) (by decide) (by decide)
theorem setRow_below {w w' : World} {b g : Nat} (h : Below b w w') (cs : Array Value) (hg : b ≤ g) : Below b w (w'.setRow g cs) :=
  h.trans ⟨rfl, rfl, rfl, by simp [World.setRow], fun k hk => setRow_other _ _ _ _ (by omega)⟩
theorem wpList_put_ends {ops : Array Oper} {rest : List Oper} {o : Oper} {a : Act} {w : World} {Q : Exit → Act → World → Prop} (hgd : o.guard = none) (x y : Operand)
    (ho : o.op = .store 80 x y) (b f0 l0 : Nat) (e0 : Bool) (f l : Nat) (e : Bool) (hx : a.eval x = .pointer (some ⟨b, 0, none⟩)) (hy : a.eval y = .agg (en3 f l e)) (hg : ERow w b f0 l0 e0)
    (h : ERow (w.setRow b (en3 f l e)) b f l e → wpList Tryd.prog ops Q rest (a.put o.dst undef) (w.setRow b (en3 f l e))) : wpList Tryd.prog ops Q (o :: rest) a w :=
  wpList_store_row hgd 80 x y ho b (en3 f l e) hx hy 80 (en3 f0 l0 e0) hg (sizeEnds f l e) rfl (onesEnds f l e) (h (setRow_heap w b _ _ _ _ hg))
theorem wpList_get_ends {ops : Array Oper} {rest : List Oper} {o : Oper} {a : Act} {w : World} {Q : Exit → Act → World → Prop} (hgd : o.guard = none) (x : Operand)
    (ho : o.op = .load 80 x) (b f l : Nat) (e : Bool) (hx : a.eval x = .pointer (some ⟨b, 0, none⟩)) (hg : ERow w b f l e)
    (h : wpList Tryd.prog ops Q rest (a.put o.dst (.agg (en3 f l e))) w) : wpList Tryd.prog ops Q (o :: rest) a w :=
  wpList_load_row hgd 80 x ho b hx 80 (en3 f l e) (0, 0) _ hg Tryd.underlying80 rfl (sizeEnds f l e) h
end Go.Proofs.YtcgllipcnmlkbaaDoor
namespace Go.Proofs.YtcgllipcnmlkbaaDoor
open Go.RowKit Sets Tr Rx Sp
theorem run_buildSet (x : Nat) (w : World) : (Instr.buildSlice 29 1 #[(0, setV x)]).run Tryd.prog w = .ok (.slice (some ⟨w.heap.size, 0, none⟩) 1 1) (w.alloc (.cells (st4 x).toArray 52)) := by
  have h1 : (underlying 29).run Tryd.prog w = .ok (.slice 52) w := by kernel_rfl
  have h2 : (sizeOf 52).run Tryd.prog w = .ok 4 w := by kernel_rfl
  have h3 : (zeroValue 52).run Tryd.prog w = .ok (.agg #[.int .u64 0, .int .u64 0, .int .u64 0, .int .u64 0]) w := by kernel_rfl
  unfold Instr.buildSlice
  simp only [Sem.run_bind, h1, h2, Result.andThen_ok]
  rw [if_neg (by decide), if_neg (by decide)]
  simp only [Sem.run_bind, Sem.run_pure, h3, Result.andThen_ok]
  rw [show setV x = .agg (st4 x).toArray from rfl, fill_whole _ _ (st4 x).toArray 4 rfl rfl (by rw [Array.size_map, Array.size_range])]
  rfl
theorem wpList_buildSet {ops : Array Oper} {rest : List Oper} {o : Oper} {a : Act} {w : World} {Q : Exit → Act → World → Prop} (hgd : o.guard = none) (y : Operand)
    (ho : o.op = .buildSlice 29 1 #[(0, y)]) (x : Nat) (hx : a.eval y = setV x) (h : wpList Tryd.prog ops Q rest (a.put o.dst (.slice (some ⟨w.heap.size, 0, none⟩) 1 1)) (w.alloc (.cells (st4 x).toArray 52))) : wpList Tryd.prog ops Q (o :: rest) a w := by
  refine wpList_plain hgd fun K hK => ?_
  unfold Oper.wp execOp
  simp only [ho]
  have e : (#[((0 : Nat), y)].map fun y : Nat × Operand => (y.1, a.eval y.2)) = #[(0, setV x)] := by simp [hx]
  rw [e]
  simp only [Sem.run_bind, Sem.run_pure, run_buildSet, Result.andThen_ok]
  exact hK _ _ h
set_option maxHeartbeats 3200000 in
set_option maxRecDepth 100000 in
theorem place_any (B : Nat) (nv sv fv : Value) (S F : List Nat) (x : Nat) (w : World) (h : MkAt w B nv sv fv S F) (hS : S.length ≤ 62) (hF : F.length ≤ 62) :
    Calls Tryd.prog 46 #[.pointer (some ⟨B, 0, none⟩), setV x] w fun e w' =>
      e = .returned (.agg (en3 (2 ^ S.length) (2 ^ S.length) false)) ∧ (∃ sv' fv', MkAt w' B nv sv' fv' (S ++ [x]) (F ++ [0]) ∧ Fr B w sv fv w' sv' fv') := by
  have hB := h.row.lt
  have hshl := shl_one S.length (by omega)
  obtain ⟨sa, sc, hsv⟩ := own_slice h.os
  obtain ⟨fa, fc, hfv⟩ := own_slice h.of
  obtain ⟨c0, c1, c2⟩ := h.row.cells
  rw [hsv] at c1
  have hb1 := (Below.refl w.heap.size w).alloc (Nat.le_refl _) (.cells #[.int .u64 (wd x 0), .int .u64 (wd x 1), .int .u64 (wd x 2), .int .u64 (wd x 3)] 52)
  have hb2 := hb1.alloc (by simp) (.cells #[.int .u64 0, .int .u64 0, .bool false] 80)
  have H := Lib.hid (h.below hb2)
  have HB2 := Lib.hid (Fr.of_below sv fv hb2 hB)
  have HA := Lib.hid ((SetAt.new w x 52).kept ((Below.refl (w.heap.size + 1) _).alloc (by simp) (.cells #[.int .u64 0, .int .u64 0, .bool false] 80)) (by omega))
  have HE : Hid (((w.alloc (.cells #[.int .u64 (wd x 0), .int .u64 (wd x 1), .int .u64 (wd x 2), .int .u64 (wd x 3)] 52)).alloc (.cells #[.int .u64 0, .int .u64 0, .bool false] 80)).heap[w.heap.size + 1]? = some (.cells #[.int .u64 0, .int .u64 0, .bool false] 80 (0, 0))) := Lib.hid (by have := heap_alloc_new (w.alloc (.cells #[.int .u64 (wd x 0), .int .u64 (wd x 1), .int .u64 (wd x 2), .int .u64 (wd x 3)] 52)) (.cells #[.int .u64 0, .int .u64 0, .bool false] 80); simpa using this)
  have HL := Lib.hid hS
  have HNB : Hid ((∀ k, sv.ownBlock = some k → k < w.heap.size) ∧ ∀ k, fv.ownBlock = some k → k < w.heap.size) := Lib.hid ⟨fun k hk => (h.os.lt k hk).2, fun k hk => (h.of.lt k hk).2⟩
  have HL2 := Lib.hid hF
  clear h hb1 hb2 hS hF
  unfold setV
  go_enter Tryd.func46, Tryd.ntmps46
  go_wp2_with (fail)
  have hs1 : ((w.alloc (.cells #[.int .u64 (wd x 0), .int .u64 (wd x 1), .int .u64 (wd x 2), .int .u64 (wd x 3)] 52)).alloc (.cells #[.int .u64 0, .int .u64 0, .bool false] 80)).heap.size = w.heap.size + 2 := by simp
  generalize ((w.alloc (.cells #[.int .u64 (wd x 0), .int .u64 (wd x 1), .int .u64 (wd x 2), .int .u64 (wd x 3)] 52)).alloc (.cells #[.int .u64 0, .int .u64 0, .bool false] 80)) = w1 at *
  have HS1 := Lib.hid hs1
  have HBW := Lib.hid hB
  clear hs1 c0 c1 c2
  generalize hgb : w.heap.size = b at *
  have HGB := Lib.hid hgb
  clear hgb
  have hbl : b < w1.heap.size := by rw [HS1.out]; omega
  obtain ⟨c0, c1, c2⟩ := H.out.row.cells
  refine region_mix [(false, 0), (false, 1), (false, 2), (false, 3), (false, 4), (false, 5), (true, 6), (true, 7), (false, 8), (false, 9)] (fun w' => w'.heap[B]? = w1.heap[B]? ∧ w'.heap[b]? = w1.heap[b]?) (by kernel_rfl) (by kernel_rfl) ⟨rfl, rfl⟩ ?_
  simp only [planOps, List.map_cons, List.map_nil, List.getD_cons_zero, List.getD_cons_succ, List.length_cons, List.length_nil, List.drop_succ_cons, List.drop_zero]
  refine mix_seg (seg := [_, _, _, _, _, _]) rfl ⟨rfl, rfl⟩ ?_
  intro ι hι F hF
  have g1 : ∀ n, (F n).cell? ⟨B, 1, none⟩ = some sv := fun n => (H.out.row.kept (hF n).1).cells.2.1
  have f0 : ∀ n, (F n).cell? ⟨b, 0, none⟩ = some (.int .u64 (wd x 0)) := fun n => (World.cell?_of_block (w := w1) (hF n).2).trans HA.out.c0
  have f1 : ∀ n, (F n).cell? ⟨b, 1, none⟩ = some (.int .u64 (wd x 1)) := fun n => (World.cell?_of_block (w := w1) (hF n).2).trans HA.out.c1
  have f2 : ∀ n, (F n).cell? ⟨b, 2, none⟩ = some (.int .u64 (wd x 2)) := fun n => (World.cell?_of_block (w := w1) (hF n).2).trans HA.out.c2
  have f3 : ∀ n, (F n).cell? ⟨b, 3, none⟩ = some (.int .u64 (wd x 3)) := fun n => (World.cell?_of_block (w := w1) (hF n).2).trans HA.out.c3
  repeat (go_big_quiet_step (fail))
  refine wpQuiet_nil ?_
  clear f0 f1 f2 f3 g1 hF hι F
  refine mix_eff (fun K hK => ?_)
  go_wp2_with (refine wpList_buildSet rfl _ rfl x rfl ?_)
  refine mix_on hK ⟨Below.heap_alloc _ _ _ H.out.row.lt, Below.heap_alloc _ _ _ hbl⟩ ?_
  clear hK K
  have hal2 := ((Below.refl w1.heap.size w1).alloc (Nat.le_refl _) (.cells (st4 x).toArray 52)).drew
  have HA2 := Lib.hid hal2
  have H2 := Lib.hid (H.out.below hal2)
  have HC2 : Hid ((w1.alloc (.cells (st4 x).toArray 52)).drew.rangeAt w1.heap.size 0 (st4 x)) := Lib.hid (range_new w1 (st4 x) 52)
  have HS2 : Hid ((w1.alloc (.cells (st4 x).toArray 52)).drew.heap.size = b + 3) := Lib.hid (by show (w1.alloc _).heap.size = _; have := HS1.out; simp; omega)
  have HE2 := Lib.hid ((hal2.block (b + 1) (by have := HS1.out; omega)).trans HE.out)
  have HB3 := Lib.hid (HB2.out.trans (Fr.of_below sv fv hal2 H.out.row.lt))
  have HX := Lib.hid (hal2.block B H.out.row.lt)
  have HX2 := Lib.hid (hal2.block b hbl)
  clear hal2 HB2 HA2
  generalize (w1.alloc (.cells (st4 x).toArray 52)).drew = w2 at *
  refine mix_eff (fun K hK => ?_)
  have HOn := Lib.hid H2.out.os
  rw [hsv] at HOn
  go_wp2_with (refine wpList_append_set rfl _ _ rfl (B + 1) (.slice sa S.length sc) S x rfl w1.heap.size HC2.out HOn.out rfl (by have := HL.out; omega) (by have := HS2.out; have := HBW.out; omega) ?_; intro v3 w3 hO3 hG3 hE3 hz3; clear hz3; have HO3 := Lib.hid hO3; have HG3 := Lib.hid hG3; have HE3 := Lib.hid hE3; clear hO3 hG3 hE3)
  rw [← hsv] at HG3
  rw [← hsv] at HE3
  clear HOn
  obtain ⟨a3, c3', hv3, f1, d0, d1, d2, HM4, hb4⟩ := H2.out.push_set HO3.out HG3.out HE3.out
  clear HE3
  have hcB : w3.heap[B]? = w1.heap[B]? := (HG3.out.block B H2.out.row.lt (fun e => by have := (H2.out.os.lt B e.symm).1; omega)).trans HX.out
  have hcb : w3.heap[b]? = w1.heap[b]? := (HG3.out.block b (by have := HS2.out; omega) (fun e => by have := HNB.out.1 b e.symm; omega)).trans HX2.out
  have HB4 := Lib.hid (HB3.out.trans hb4.out)
  have HE4 : Hid (ERow (w3.setCell ⟨B, 1, none⟩ (.slice a3 (S.length + 1) c3')) (b + 1) 0 0 false) := Lib.hid (ERow.fr (f := 0) (l := 0) HE2.out H2.out hb4.out)
  have HS4 : Hid (b + 3 ≤ (w3.setCell ⟨B, 1, none⟩ (.slice a3 (S.length + 1) c3')).heap.size) := Lib.hid (by have := hb4.out.below.size; rw [HS2.out] at this; exact this)
  clear hb4
  refine mix_on hK ⟨hcB, hcb⟩ ?_
  clear hK K
  refine mix_seg (seg := [_, _]) rfl ⟨hcB, hcb⟩ ?_
  intro ι hι F hF
  repeat (go_big_quiet_step (fail))
  refine wpQuiet_nil ?_
  clear hF hι F hcB hcb
  rw [hsv] at d1
  rw [hfv] at d2
  show wpList _ _ _ _ _ _
  subst hv3
  go_wp2
  refine NoPanic.normal ?_
  generalize (w3.setCell ⟨B, 1, none⟩ (.slice a3 (S.length + 1) c3')) = w4 at *
  clear HG3 HB3 HX HX2 HE2 HC2 H2 d0 d1 d2 c0 c1 c2 f1 HS2 HO3
  clear w3 w2
  obtain ⟨e0, e1, e2⟩ := HM4.out.row.cells
  rw [hfv] at e2
  have HAl := Lib.hid ((Below.refl w4.heap.size w4).alloc (Nat.le_refl _) (.cells #[.int .u64 0] 24))
  have HOn := Lib.hid (HM4.out.below HAl.out).of
  rw [hfv] at HOn
  have HC5 : Hid ((w4.alloc (.cells #[.int .u64 0] 24)).cell? ⟨w4.heap.size, 0, none⟩ = some (.int .u64 (0 : Nat))) := Lib.hid (by simp)
  have HB5 := Lib.hid (HB4.out.trans (Fr.of_below _ _ HAl.out HM4.out.row.lt))
  have HM5 := Lib.hid (HM4.out.below HAl.out)
  have HE5 := Lib.hid (HE4.out.below HAl.out)
  have HS5 : Hid (b + 3 ≤ (w4.alloc (.cells #[.int .u64 0] 24)).heap.size) := Lib.hid (by have := HS4.out; simp; omega)
  rw [hfv] at HM5 HB5
  go_wp2_with (first
    | (refine wpList_append_u64 rfl _ _ rfl (B + 1) (.slice fa F.length fc) F 0 rfl w4.heap.size HC5.out HOn.out rfl (by have := HL2.out; omega) (by have := HS5.out; have := HBW.out; omega) ?_; intro v6 w6 hO6 hG6 hE6 hz6; clear hz6; obtain ⟨a6, c6, rfl, f62, g0, g1, g2, HM6, HB6⟩ := HM5.out.push_fol hO6 hG6 hE6; clear hO6 hG6 hE6; have HE6 : Hid (ERow (w6.setCell ⟨B, 2, none⟩ (.slice a6 (F.length + 1) c6)) (b + 1) 0 0 false) := Lib.hid (HE5.out.fr HM5.out HB6.out))
    | (refine wpList_put_ends rfl _ _ rfl (b + 1) 0 0 false (2 ^ S.length) (2 ^ S.length) false rfl rfl HE6.out ?_; intro hE7; have HE7 := Lib.hid hE7; clear hE7))
  have ho := HM6.out.off HE6.out (by decide) (by decide)
  have hfin := HM6.out.other (b + 1) (en3 (2 ^ S.length) (2 ^ S.length) false) (by have := HBW.out; omega) ho.1 ho.2
  have hfr := (HB5.out.trans HB6.out).setRow (g := b + 1) (en3 (2 ^ S.length) (2 ^ S.length) false) (by have := HGB.out; omega) (by have := HGB.out; have := HBW.out; omega)
  rw [← hfv] at hfr
  exact bodyPost_ret (v := .agg (en3 (2 ^ S.length) (2 ^ S.length) false)) (results_cell_row (p := 4) Tryd.results46 _ _ (b + 1) 80 _ (0, 0) _ rfl HE7.out Tryd.underlying80 rfl (sizeEnds _ _ _)) rfl ⟨rfl, _, _, hfin, hfr⟩
end Go.Proofs.YtcgllipcnmlkbaaDoor
