/- Several texts in one. -/
import Derived.Test.YtipghpljaiemmaaDoorPq25
import GoSem.Core.Float
import Derived.Laws.FloatArith
namespace Go.Proofs.YtipghpljaiemmaaDoor
open Go.RowKit Sets Nf Cls
namespace Df
def pC (s : Nat × Nat) : Array Value := #[.int .i64 s.1, .int .i64 s.2]
structure BoxP (w : World) (B : Nat) (s : Nat × Nat) : Prop where
  row : w.heap[B]? = some (.cells (pC s) 85 (0, 0))
theorem BoxP.new (w : World) (s : Nat × Nat) : BoxP (w.alloc (.cells (pC s) 85)) w.heap.size s := ⟨heap_alloc_new w _⟩
theorem BoxP.lt {w : World} {B : Nat} {s : Nat × Nat} (h : BoxP w B s) : B < w.heap.size := (Array.getElem?_eq_some_iff.1 h.row).1
theorem BoxP.of {w w' : World} {B : Nat} {s : Nat × Nat} (h : BoxP w B s) (e : w'.heap[B]? = w.heap[B]?) : BoxP w' B s := ⟨e.trans h.row⟩
theorem BoxP.kept {w w' : World} {A B : Nat} {s : Nat × Nat} (h : BoxP w B s) (hb : Below A w w') (hA : B < A) : BoxP w' B s := ⟨by rw [hb.block _ hA]; exact h.row⟩
theorem BoxP.stay {w w' : World} {B : Nat} {s : Nat × Nat} (h : BoxP w B s) (hb : Below w.heap.size w w') : BoxP w' B s := h.kept hb h.lt
theorem BoxP.c0 {w : World} {B : Nat} {s : Nat × Nat} (h : BoxP w B s) : w.cell? ⟨B, 0, none⟩ = some (.int .i64 (s.1 : Nat)) := by rw [cell_of_row w B 0 _ _ _ h.row]; rfl
theorem BoxP.c1 {w : World} {B : Nat} {s : Nat × Nat} (h : BoxP w B s) : w.cell? ⟨B, 1, none⟩ = some (.int .i64 (s.2 : Nat)) := by rw [cell_of_row w B 1 _ _ _ h.row]; rfl
theorem sizePair (s : Nat × Nat) : (Tryd.prog.info? 85).map (·.size) = some (pC s).size := by
  show _ = some 2
  kernel_rfl
theorem onePair (s : Nat × Nat) : (pC s).all (·.oneCell') = true := by simp [pC, Value.oneCell']
theorem wpList_load_pair {ops : Array Oper} {rest : List Oper} {o : Oper} {a : Act} {w : World} {Q : Exit → Act → World → Prop} (hgd : o.guard = none) (X : Operand) (ho : o.op = .load 85 X)
    (B : Nat) (s : Nat × Nat) (hx : a.eval X = .pointer (some ⟨B, 0, none⟩)) (hc : BoxP w B s) (h : wpList Tryd.prog ops Q rest (a.put o.dst (.agg (pC s))) w) : wpList Tryd.prog ops Q (o :: rest) a w :=
  wpList_load_row hgd 85 X ho B hx 85 (pC s) (0, 0) _ hc.row Tryd.underlying85 rfl (sizePair s) h
theorem wpList_store_pair {ops : Array Oper} {rest : List Oper} {o : Oper} {a : Act} {w : World} {Q : Exit → Act → World → Prop} (hgd : o.guard = none) (X Y : Operand) (ho : o.op = .store 85 X Y)
    (B : Nat) (s t : Nat × Nat) (hx : a.eval X = .pointer (some ⟨B, 0, none⟩)) (hy : a.eval Y = .agg (pC t)) (hc : BoxP w B s) (h : wpList Tryd.prog ops Q rest (a.put o.dst undef) (w.setRow B (pC t))) : wpList Tryd.prog ops Q (o :: rest) a w :=
  wpList_store_row hgd 85 X Y ho B (pC t) hx hy 85 (pC s) hc.row (sizePair t) rfl (onePair t) h
theorem BoxP.put {w : World} {B : Nat} {s : Nat × Nat} (h : BoxP w B s) (t : Nat × Nat) : BoxP (w.setRow B (pC t)) B t := ⟨setRow_heap w _ _ _ _ _ h.row⟩
theorem zeroPr : #[Value.int .i64 0, .int .i64 0] = pC (0, 0) := rfl
def joinB (how : Nat) (a b : Bool) : Bool := if how = 1 then a && b else if how = 2 then a || b else a != b
def goC (d : Dm) (i c : Nat) : Nat := ((d.R.getD i []).getD c 0).toNat
def intoP (a b : Dm) (s : Nat × Nat) (c : Nat) : Nat × Nat := (goC a s.1 c, goC b s.2 c)
def finP (how : Nat) (a b : Dm) (s : Nat × Nat) : Bool := joinB how (a.F.getD s.1 false) (b.F.getD s.2 false)
theorem DRt.cls {d : Dm} (h : DRt d) {i c nc : Nat} (hn : d.n = nc) (hi : i < d.R.length) (hc : c < nc) : c < (d.R.getD i []).length ∧ (d.R.getD i []).getD c 0 = (goC d i c : Nat) ∧ goC d i c < d.R.length := by
  have hr := h.row _ (getD_mem (d := []) hi)
  have h1 : c < (d.R.getD i []).length := by omega
  have h2 := hr.2 _ (getD_mem (d := 0) h1)
  unfold goC
  exact ⟨h1, by omega, by omega⟩
set_option maxHeartbeats 3200000 in
set_option maxRecDepth 100000 in
theorem joined_any (how : Nat) (a b : Bool) (w : World) (h : how = 1 ∨ how = 2 ∨ how = 3) :
    Calls Tryd.prog 45 #[.int .u8 how, .bool a, .bool b] w fun e w' => e = .returned (.bool (joinB how a b)) ∧ w = w' := by
  rcases h with rfl | rfl | rfl <;> cases a <;> cases b
  all_goals
    go_enter Tryd.func45, Tryd.ntmps45
    go_wp2_with fail
    go_ret
    exact ⟨rfl, rfl⟩
set_option maxHeartbeats 3200000 in
set_option maxRecDepth 100000 in
theorem both1_any (s : Nat × Nat) (u1 u2 : Value) (w : World) :
    Calls Tryd.prog 42 #[.agg (pC s), u1, u2] w fun e w' => e = .returned (.func (.func 43) #[] #[u1, .pointer (some ⟨w.heap.size, 0, none⟩), u2]) ∧ BoxP w' w.heap.size s ∧ Below w.heap.size w w' := by
  have hmf : ∀ (fn : Fn) (first cap : Array Value) (w : World), (Instr.makeFunc fn first cap).run Tryd.prog w = .ok (.func fn first cap) w := fun _ _ _ _ => rfl
  go_enter Tryd.func42, Tryd.ntmps42
  go_wp2_with fail
  go_ret
  exact ⟨rfl, BoxP.new w s, (Below.refl _ _).alloc (Nat.le_refl _) _⟩
set_option maxHeartbeats 6400000 in
set_option maxRecDepth 100000 in
theorem both11_any (A G B c nc : Nat) (x y : Dx) (a b : Dm) (s : Nat × Nat) (w : World) (hA : BoxD w A x a) (hG : BoxP w G s) (hB : BoxD w B y b) (ha : DAt w x a) (hb : DAt w y b) (hra : DRt a) (hrb : DRt b) (hna : a.n = nc) (hnb : b.n = nc) (hs1 : s.1 < a.R.length) (hs2 : s.2 < b.R.length) (hc : c < nc) :
    Calls Tryd.prog 43 #[.int .i64 c, .pointer (some ⟨A, 0, none⟩), .pointer (some ⟨G, 0, none⟩), .pointer (some ⟨B, 0, none⟩)] w fun e w' => e = .returned (.agg (pC (intoP a b s c))) ∧ Below w.heap.size w w' := by
  obtain ⟨p1, p2, p3⟩ := hra.cls hna hs1 hc
  obtain ⟨q1, q2, q3⟩ := hrb.cls hnb hs2 hc
  obtain ⟨b1, o1, z1, k1, e1, r1, n1⟩ := ha.nx _ hs1
  obtain ⟨b2, o2, z2, k2, e2, r2, n2⟩ := hb.nx _ hs2
  obtain ⟨b3, o3, e3, r3⟩ := n1 c p1
  obtain ⟨b4, o4, e4, r4⟩ := n2 c q1
  rw [p2] at r3
  rw [q2] at r4
  subst e3 e4
  have hal := (Below.refl w.heap.size w).alloc (Nat.le_refl _) (.cells (pC (0, 0)) 85)
  have c1 := (hA.stay hal).c257
  have c2 := (hB.stay hal).c257
  have c3 := (hG.stay hal).c0
  have c4 := (hG.stay hal).c1
  rw [e1] at c1
  rw [e2] at c2
  have d1 := (hal.cell (World.block_lt_of_cell? _ _ r1)).trans r1
  have d2 := (hal.cell (World.block_lt_of_cell? _ _ r2)).trans r2
  have d3 := (hal.cell (World.block_lt_of_cell? _ _ r3)).trans r3
  have d4 := (hal.cell (World.block_lt_of_cell? _ _ r4)).trans r4
  have HZ : Hid (BoxP (w.alloc (.cells (pC (0, 0)) 85)) w.heap.size (0, 0)) := Lib.hid (BoxP.new w _)
  have HB1 := Lib.hid hal
  have i1 : ((s.1 : Nat) : Int) < (a.R.length : Int) := by omega
  have i2 : ((s.2 : Nat) : Int) < (b.R.length : Int) := by omega
  have i3 : (c : Int) < ((a.R.getD s.1 []).length : Int) := by omega
  have i4 : (c : Int) < ((b.R.getD s.2 []).length : Int) := by omega
  have HP : Hid (intoP a b s c = (goC a s.1 c, goC b s.2 c)) := Lib.hid rfl
  clear hA hG hB ha hb hra hrb hna hnb hc p1 p2 p3 q1 q2 q3 n1 n2 r1 r2 r3 r4 hal e1 e2 hs1 hs2
  generalize (a.R.getD s.1 []).length = l1 at *
  generalize (b.R.getD s.2 []).length = l2 at *
  generalize goC a s.1 c = v1 at *
  generalize goC b s.2 c = v2 at *
  generalize a.R.length = m1 at *
  generalize b.R.length = m2 at *
  go_enter Tryd.func43, Tryd.ntmps43
  go_upto_region 1 with fail
  rw [zeroPr]
  generalize w.alloc (.cells (pC (0, 0)) 85) = w1 at *
  obtain ⟨z, hz⟩ : ∃ z, Hid (w.heap.size = z) := ⟨_, Lib.hid rfl⟩
  rw [hz.out] at HZ HB1 ⊢
  have f1 : w1.drew.cell? ⟨A, 257, none⟩ = _ := c1
  have f2 : w1.drew.cell? ⟨B, 257, none⟩ = _ := c2
  have f3 : w1.drew.cell? ⟨G, 0, none⟩ = _ := c3
  have f4 : w1.drew.cell? ⟨G, 1, none⟩ = _ := c4
  have f5 : w1.drew.cell? ⟨b1, o1 + s.1, none⟩ = _ := d1
  have f6 : w1.drew.cell? ⟨b2, o2 + s.2, none⟩ = _ := d2
  have f7 : w1.drew.cell? ⟨b3, o3 + c, none⟩ = _ := d3
  have f8 : w1.drew.cell? ⟨b4, o4 + c, none⟩ = _ := d4
  clear c1 c2 c3 c4 d1 d2 d3 d4
  refine region_mix [(false, 0), (false, 1), (false, 2), (false, 3), (false, 4), (false, 5), (false, 6), (false, 7), (false, 8), (false, 9), (false, 10), (false, 11), (false, 12), (false, 13), (false, 14), (false, 15), (false, 16), (false, 17), (false, 18)] (fun w' => w' = w1.drew) (by kernel_rfl) (by kernel_rfl) rfl ?_
  simp only [planOps, List.map_cons, List.map_nil, List.getD_cons_zero, List.getD_cons_succ, List.length_cons, List.length_nil, List.drop_succ_cons, List.drop_zero]
  refine mix_seg (seg := [_, _, _, _, _, _, _, _, _, _, _, _, _, _, _, _, _, _, _]) (rest := []) rfl rfl ?_
  intro ι hι F2 hF
  iterate 19 (go_big_quiet_step (fail))
  refine wpQuiet_nil ?_
  clear f1 f2 f3 f4 f5 f6 f7 f8 hF hι F2
  show wpList _ _ _ _ _ _
  have HZ2 : Hid (BoxP w1.drew z (0, 0)) := Lib.hid (BoxP.of HZ.out rfl)
  go_wp2_with (refine wpList_store_pair rfl (.tmp 5) (.tmp 24) rfl z (0, 0) (v1, v2) rfl rfl HZ2.out ?_)
  refine NoPanic.normal ?_
  go_wp2_with fail
  refine bodyPost_ret (v := .agg (pC (v1, v2))) (results_cell_row (p := 5) Tryd.results43 _ _ z 85 _ (0, 0) _ rfl (HZ2.out.put _).row Tryd.underlying85 rfl (sizePair _)) rfl ⟨by rw [HP.out], ?_⟩
  rw [hz.out]
  exact But.below HB1.out.drew (But.setRow _ _ _) (Nat.le_refl _) (by have h1 := HB1.out.size; have h2 := hz.out; show z ≤ w1.heap.size; omega)
set_option maxHeartbeats 6400000 in
set_option maxRecDepth 100000 in
theorem both2_any (H A B how : Nat) (x y : Dx) (a b : Dm) (s : Nat × Nat) (w : World) (hH : w.cell? ⟨H, 0, none⟩ = some (.int .u8 how)) (hh : how = 1 ∨ how = 2 ∨ how = 3) (hA : BoxD w A x a) (hB : BoxD w B y b) (ha : DAt w x a) (hb : DAt w y b) (hs1 : s.1 < a.F.length) (hs2 : s.2 < b.F.length) :
    Calls Tryd.prog 44 #[.agg (pC s), .pointer (some ⟨H, 0, none⟩), .pointer (some ⟨A, 0, none⟩), .pointer (some ⟨B, 0, none⟩)] w fun e w' => e = .returned (.bool (finP how a b s)) ∧ Below w.heap.size w w' := by
  obtain ⟨b1, o1, e1, r1⟩ := ha.fl _ hs1
  obtain ⟨b2, o2, e2, r2⟩ := hb.fl _ hs2
  have hal := (Below.refl w.heap.size w).alloc (Nat.le_refl _) (.cells (pC s) 85)
  have c1 := (hA.stay hal).c258
  have c2 := (hB.stay hal).c258
  have c3 := (BoxP.new w s).c0
  have c4 := (BoxP.new w s).c1
  have c5 := (hal.cell (World.block_lt_of_cell? _ _ hH)).trans hH
  rw [e1] at c1
  rw [e2] at c2
  have d1 := (hal.cell (World.block_lt_of_cell? _ _ r1)).trans r1
  have d2 := (hal.cell (World.block_lt_of_cell? _ _ r2)).trans r2
  have HB1 := Lib.hid hal
  have i1 : ((s.1 : Nat) : Int) < (a.F.length : Int) := by omega
  have i2 : ((s.2 : Nat) : Int) < (b.F.length : Int) := by omega
  have HP : Hid (finP how a b s = joinB how (a.F.getD s.1 false) (b.F.getD s.2 false)) := Lib.hid rfl
  clear hA hB ha hb r1 r2 hal e1 e2 hs1 hs2 hH
  generalize a.F.getD s.1 false = v1 at *
  generalize b.F.getD s.2 false = v2 at *
  generalize a.F.length = m1 at *
  generalize b.F.length = m2 at *
  have HJ := Lib.hid (fun w => joined_any how v1 v2 w hh)
  go_enter Tryd.func44, Tryd.ntmps44
  go_upto_region 1 with fail
  generalize w.alloc (.cells (pC s) 85) = w1 at *
  obtain ⟨z, hz⟩ : ∃ z, Hid (w.heap.size = z) := ⟨_, Lib.hid rfl⟩
  rw [hz.out] at c3 c4 HB1 ⊢
  have f1 : w1.drew.cell? ⟨A, 258, none⟩ = _ := c1
  have f2 : w1.drew.cell? ⟨B, 258, none⟩ = _ := c2
  have f3 : w1.drew.cell? ⟨z, 0, none⟩ = _ := c3
  have f4 : w1.drew.cell? ⟨z, 1, none⟩ = _ := c4
  have f5 : w1.drew.cell? ⟨b1, o1 + s.1, none⟩ = _ := d1
  have f6 : w1.drew.cell? ⟨b2, o2 + s.2, none⟩ = _ := d2
  have f7 : w1.drew.cell? ⟨H, 0, none⟩ = _ := c5
  clear c1 c2 c3 c4 c5 d1 d2
  refine region_mix [(false, 0), (false, 1), (false, 2), (false, 3), (false, 4), (false, 5), (false, 6), (false, 7), (false, 8), (false, 9), (false, 10), (false, 11), (false, 12), (true, 13)] (fun w' => w' = w1.drew) (by kernel_rfl) (by kernel_rfl) rfl ?_
  simp only [planOps, List.map_cons, List.map_nil, List.getD_cons_zero, List.getD_cons_succ, List.length_cons, List.length_nil, List.drop_succ_cons, List.drop_zero]
  refine mix_seg (seg := [_, _, _, _, _, _, _, _, _, _, _, _, _]) rfl rfl ?_
  intro ι hι F2 hF
  iterate 13 (go_big_quiet_step (fail))
  refine wpQuiet_nil ?_
  clear f1 f2 f3 f4 f5 f6 f7 hF hι F2
  refine mix_eff (fun K hK => ?_)
  go_wp2_with (go_at_call 45; refine (HJ.out _).mono ?_; rintro e w9 ⟨rfl, rfl⟩)
  refine mix_on hK rfl ?_
  clear hK K
  refine mix_seg (seg := []) (rest := []) rfl rfl ?_
  intro ι hι F2 hF
  refine wpQuiet_nil ?_
  clear hF hι F2
  show wpList _ _ _ _ _ _
  go_wp2_with fail
  refine NoPanic.normal ?_
  go_wp2_with fail
  go_ret
  exact ⟨by rw [HP.out]; rfl, by rw [hz.out]; exact HB1.out.drew⟩
end Df
end Go.Proofs.YtipghpljaiemmaaDoor
namespace Go.Proofs.YtipghpljaiemmaaDoor
namespace Dbl
open Ieee
/-- the greatest uint64 -/
abbrev M : Nat := 18446744073709551615
/-- the whole number of m * 2 ^ e -/
def flo (m : Nat) (e : Int) : Nat := m * 2 ^ e.toNat / 2 ^ (-e).toNat
def capD : Datum → Nat
  | .number s m e => if s then 0 else min M (flo m e)
  | .infinity s => if s then 0 else M
  | .nan .. => 0
/-- the greatest uint64 that a budget affords -/
def cap (b : Nat) : Nat := capD (double.read b)
theorem flo_k (m : Nat) (i : Int) (K : Nat) (h : 0 ≤ i + K) : flo m i = m * 2 ^ (i + K).toNat / 2 ^ K := by
  unfold flo
  rcases Int.le_total 0 i with hi | hi
  · have h1 : (-i).toNat = 0 := by omega
    have h2 : (i + K).toNat = i.toNat + K := by omega
    rw [h1, h2, Nat.pow_add, ← Nat.mul_assoc, Nat.mul_div_cancel _ (Nat.two_pow_pos _), Nat.pow_zero, Nat.div_one]
  · have h1 : i.toNat = 0 := by omega
    have h2 : K = (-i).toNat + (i + K).toNat := by omega
    have h3 : (2 : Nat) ^ K = 2 ^ (-i).toNat * 2 ^ (i + K).toNat := by rw [← Nat.pow_add, ← h2]
    rw [h1, h3, Nat.mul_div_mul_right _ _ (Nat.two_pow_pos _), Nat.pow_zero, Nat.mul_one]
theorem sc_split (m : Nat) (i base : Int) (K : Nat) (h : 0 ≤ base + K) (hb : base ≤ i) : m * 2 ^ (i + K).toNat = (m * 2 ^ (i - base).toNat) * 2 ^ (base + K).toNat := by
  rw [Nat.mul_assoc, ← Nat.pow_add]
  congr 2
  omega
theorem flo_le (m n : Nat) (i j : Int) (h : m * 2 ^ (i - min i j).toNat ≤ n * 2 ^ (j - min i j).toNat) : flo m i ≤ flo n j := by
  have hK : 0 ≤ min i j + ((-(min i j)).toNat : Int) := by omega
  rw [flo_k m i (-(min i j)).toNat (by omega), flo_k n j (-(min i j)).toNat (by omega), sc_split m i (min i j) _ hK (by omega), sc_split n j (min i j) _ hK (by omega)]
  exact Nat.div_le_div_right (Nat.mul_le_mul_right _ h)
theorem flo_lt (m n : Nat) (i j : Int) (hj : 0 ≤ j) (h : m * 2 ^ (i - min i j).toNat < n * 2 ^ (j - min i j).toNat) : flo m i < n * 2 ^ j.toNat := by
  have hK : 0 ≤ min i j + ((-(min i j)).toNat : Int) := by omega
  have hn : n * 2 ^ (j + ((-(min i j)).toNat : Int)).toNat = n * 2 ^ j.toNat * 2 ^ (-(min i j)).toNat := by
    rw [Nat.mul_assoc, ← Nat.pow_add]; congr 2; omega
  rw [flo_k m i (-(min i j)).toNat (by omega), Nat.div_lt_iff_lt_mul (Nat.two_pow_pos _), ← hn, sc_split m i (min i j) _ hK (by omega), sc_split n j (min i j) _ hK (by omega)]
  exact Nat.mul_lt_mul_of_pos_right h (Nat.two_pow_pos _)
theorem flo_zero (i : Int) : flo 0 i = 0 := by simp [flo]
theorem signed_false (m k : Nat) : signed false m k = ((m * 2 ^ k : Nat) : Int) := by simp [signed, Nat.shiftLeft_eq]
theorem signed_true (m k : Nat) : signed true m k = -((m * 2 ^ k : Nat) : Int) := by simp [signed, Nat.shiftLeft_eq]
theorem cut_whole (way : Toward) (hw : way = .down ∨ way = .zero) (n d : Nat) : way.cut false n d = n / 2 ^ d := by
  have h0 : n < 2 ^ (n.log2 + 1) := Nat.lt_log2_self
  have key : n / 2 ^ min d (n.log2 + 2) = n / 2 ^ d := by
    rcases Nat.le_total d (n.log2 + 2) with h | h
    · rw [Nat.min_eq_left h]
    · rw [Nat.min_eq_right h]
      have h1 : n < 2 ^ (n.log2 + 2) := Nat.lt_of_lt_of_le h0 (Nat.pow_le_pow_right (by decide) (by omega))
      rw [Nat.div_eq_of_lt h1, Nat.div_eq_of_lt (Nat.lt_of_lt_of_le h1 (Nat.pow_le_pow_right (by decide) h))]
  unfold Toward.cut
  rcases hw with rfl | rfl <;> simp [Nat.shiftLeft_eq, key]
theorem integral_pos (way : Toward) (hw : way = .down ∨ way = .zero) (m : Nat) (i : Int) : (Datum.number false m i).integral way = .number false (flo m i) 0 := by
  simp only [Datum.integral, cut_whole way hw, Nat.shiftLeft_eq, flo]
theorem toInt_pos (m : Nat) (i : Int) : (Datum.number false m i).toInt .zero = some (flo m i : Int) := by
  simp [Datum.toInt, integral_pos .zero (.inr rfl), signed_false]
theorem read_w64 : double.read 4895412794951729152 = .number false 4503599627370496 12 := by decide +kernel
theorem read_w0 : double.read 0 = .number false 0 (-1074) := by decide +kernel
theorem flo_w64 : flo 4503599627370496 12 = 18446744073709551616 := by decide +kernel
/-- a budget that is 2 ^ 64 or more affords all -/
theorem cap_big {b : Nat} (h : double.order b 4895412794951729152 = some .gt ∨ double.order b 4895412794951729152 = some .eq) : cap b = M := by
  unfold cap
  unfold Format.order at h
  rw [read_w64] at h
  cases hd : double.read b with
  | nan s t => rw [hd] at h; simp [Datum.order] at h
  | infinity s => rw [hd] at h; cases s <;> simp_all [Datum.order, capD]
  | number s m i =>
    rw [hd] at h
    simp only [Datum.order] at h
    cases s with
    | true =>
      exfalso
      rw [signed_true, signed_false] at h
      have hp : (0 : Int) < ((4503599627370496 * 2 ^ (12 - min i 12).toNat : Nat) : Int) := Int.natCast_pos.2 (Nat.mul_pos (by decide) (Nat.two_pow_pos _))
      have hq : (0 : Int) ≤ ((m * 2 ^ (i - min i 12).toNat : Nat) : Int) := Int.natCast_nonneg _
      generalize ((4503599627370496 * 2 ^ (12 - min i 12).toNat : Nat) : Int) = X at *
      generalize ((m * 2 ^ (i - min i 12).toNat : Nat) : Int) = Y at *
      have hc : compare (-Y) X = .lt := by rw [Int.compare_eq_lt]; omega
      rw [hc] at h
      simp at h
    | false =>
      rw [signed_false, signed_false] at h
      have hle : 4503599627370496 * 2 ^ (12 - min 12 i).toNat ≤ m * 2 ^ (i - min 12 i).toNat := by
        rw [Int.min_comm 12 i]
        rcases h with h | h
        · have := Option.some.inj h
          rw [Int.compare_eq_gt] at this
          omega
        · have := Option.some.inj h
          rw [Int.compare_eq_eq] at this
          omega
      have := flo_le _ _ _ _ hle
      rw [flo_w64] at this
      simp only [capD, Bool.false_eq_true, if_false]
      unfold M
      omega
/-- below 2 ^ 64 and above 0: what is converted is what is afforded -/
theorem cap_mid {b : Nat} (h : double.order b 4895412794951729152 ≠ some .gt) (h' : double.order b 4895412794951729152 ≠ some .eq) (hp : double.order b 0 = some .gt) :
    (double.read b).toInt .zero = some (cap b : Int) ∧ cap b ≤ M := by
  unfold cap
  unfold Format.order at h h' hp
  rw [read_w64] at h h'
  rw [read_w0] at hp
  cases hd : double.read b with
  | nan s t => rw [hd] at hp; simp [Datum.order] at hp
  | infinity s => rw [hd] at h hp; cases s <;> simp_all [Datum.order]
  | number s m i =>
    rw [hd] at h h' hp
    simp only [Datum.order] at h h' hp
    cases s with
    | true =>
      exfalso
      rw [signed_true, signed_false] at hp
      have hq : (0 : Int) ≤ ((m * 2 ^ (i - min i (-1074)).toNat : Nat) : Int) := Int.natCast_nonneg _
      have := Option.some.inj hp
      rw [Int.compare_eq_gt] at this
      simp only [Nat.zero_mul, Int.natCast_zero] at this
      omega
    | false =>
      rw [signed_false, signed_false] at h h'
      have hlt : m * 2 ^ (i - min i 12).toNat < 4503599627370496 * 2 ^ (12 - min i 12).toNat := by
        have a1 : compare ((m * 2 ^ (i - min i 12).toNat : Nat) : Int) ((4503599627370496 * 2 ^ (12 - min i 12).toNat : Nat) : Int) ≠ .gt := fun e => h (congrArg some e)
        have a2 : compare ((m * 2 ^ (i - min i 12).toNat : Nat) : Int) ((4503599627370496 * 2 ^ (12 - min i 12).toNat : Nat) : Int) ≠ .eq := fun e => h' (congrArg some e)
        rw [ne_eq, Int.compare_eq_gt] at a1
        rw [ne_eq, Int.compare_eq_eq] at a2
        omega
      have := flo_lt _ _ _ _ (by decide) hlt
      rw [toInt_pos]
      simp only [capD, Bool.false_eq_true, if_false]
      have e : (4503599627370496 * 2 ^ (12 : Int).toNat : Nat) = 18446744073709551616 := by decide +kernel
      rw [e] at this
      unfold M
      rw [Nat.min_eq_right (by omega)]
      exact ⟨rfl, by omega⟩
/-- not above 0: nothing but 0 is afforded -/
theorem cap_none {b : Nat} (hp : double.order b 0 ≠ some .gt) : cap b = 0 := by
  unfold cap
  unfold Format.order at hp
  rw [read_w0] at hp
  cases hd : double.read b with
  | nan s t => rfl
  | infinity s => rw [hd] at hp; cases s <;> simp_all [Datum.order, capD]
  | number s m i =>
    rw [hd] at hp
    simp only [Datum.order] at hp
    cases s with
    | true => rfl
    | false =>
      rw [signed_false, signed_false] at hp
      have a1 : compare ((m * 2 ^ (i - min i (-1074)).toNat : Nat) : Int) ((0 * 2 ^ (-1074 - min i (-1074)).toNat : Nat) : Int) ≠ .gt := fun e => hp (congrArg some e)
      rw [ne_eq, Int.compare_eq_gt] at a1
      have hm : m = 0 := by
        rcases Nat.eq_zero_or_pos m with h | h
        · exact h
        · exfalso
          have := Nat.mul_pos h (Nat.two_pow_pos (i - min i (-1074)).toNat)
          rw [Nat.zero_mul] at a1
          omega
      subst hm
      simp [capD, flo_zero]
theorem cap_le (b : Nat) : cap b ≤ M := by
  unfold cap capD
  split
  · split
    · exact Nat.zero_le _
    · exact Nat.min_le_left _ _
  · split
    · exact Nat.zero_le _
    · exact Nat.le_refl _
  · exact Nat.zero_le _
end Dbl
end Go.Proofs.YtipghpljaiemmaaDoor
