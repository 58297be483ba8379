/- some, awake, Great. -/
import Derived.Test.YtpchahlnnbgpkaaDoorTreA
namespace Go.Proofs.YtpchahlnnbgpkaaDoor
open Go.RowKit Sets Tr
def someC : Array Value := #[.int .u8 2, .int .u64 (wd (ofN [97]) 0), .int .u64 (wd (ofN [97]) 1), .int .u64 (wd (ofN [97]) 2), .int .u64 (wd (ofN [97]) 3), .int .i64 0, .int .i64 0, .int .i64 0, .int .i64 0, .int .u8 2, .int .u64 (wd (ofN [98]) 0), .int .u64 (wd (ofN [98]) 1), .int .u64 (wd (ofN [98]) 2), .int .u64 (wd (ofN [98]) 3), .int .i64 0, .int .i64 0, .int .i64 0, .int .i64 0, .int .u8 3, .int .u64 0, .int .u64 0, .int .u64 0, .int .u64 0, .int .i64 0, .int .i64 1, .int .i64 0, .int .i64 0, .int .u8 1, .int .u64 0, .int .u64 0, .int .u64 0, .int .u64 0, .int .i64 0, .int .i64 0, .int .i64 0, .int .i64 0, .int .u8 4, .int .u64 0, .int .u64 0, .int .u64 0, .int .u64 0, .int .i64 2, .int .i64 3, .int .i64 0, .int .i64 0, .int .u8 2, .int .u64 (wd (full) 0), .int .u64 (wd (full) 1), .int .u64 (wd (full) 2), .int .u64 (wd (full) 3), .int .i64 0, .int .i64 0, .int .i64 0, .int .i64 0, .int .u8 5, .int .u64 0, .int .u64 0, .int .u64 0, .int .u64 0, .int .i64 5, .int .i64 0, .int .i64 0, .int .i64 (-1)]
theorem someC_eq : someC = (someN.flatMap nd9).toArray := by
  simp [someC, someN, nd9, wd_zero]
def someD : Array Value := #[.int .i64 4, .bool false, .int .i64 6, .bool true]
theorem someD_eq : someD = (someR.flatMap pt2).toArray := rfl
def Trees (w0 : World) (N : List Nd) (R : List (Int × Bool)) (e : Ending) (w : World) : Prop := ∃ nv pv, e = .returned (.agg #[nv, pv]) ∧ NodesAt w nv N ∧ PartsAt w pv R ∧ Below w0.heap.size w0 w
theorem sizeTree : (Tryd.prog.info? 33).map (·.size) = some 2 := by kernel_rfl
theorem wpList_store_tree {ops : Array Oper} {rest : List Oper} {o : Oper} {a : Act} {w : World} {Q : Exit → Act → World → Prop} (hgd : o.guard = none) (x y : Operand)
    (ho : o.op = .store 33 x y) (g : Nat) (a1 a2 : Option Addr) (n1 c1 n2 c2 : Nat) (hx : a.eval x = .pointer (some ⟨g, 0, none⟩)) (hy : a.eval y = .agg #[.slice a1 n1 c1, .slice a2 n2 c2]) (u v : Value)
    (hg : w.heap[g]? = some (.cells #[u, v] 33 (0, 0)))
    (h : wpList Tryd.prog ops Q rest (a.put o.dst undef) (w.setRow g #[.slice a1 n1 c1, .slice a2 n2 c2])) : wpList Tryd.prog ops Q (o :: rest) a w :=
  wpList_store_row hgd 33 x y ho g #[.slice a1 n1 c1, .slice a2 n2 c2] hx hy 33 #[u, v] hg sizeTree rfl (by simp [Value.oneCell']) h
theorem nodes_keep {w w' : World} {b o n c : Nat} {N : List Nd} (h : NodesAt w (.slice (some ⟨b, o, none⟩) n c) N) (e : w'.heap[b]? = w.heap[b]?) : NodesAt w' (.slice (some ⟨b, o, none⟩) n c) N := by
  obtain ⟨h1, h2, a, cap, h3, h4⟩ := h
  refine ⟨h1, h2, a, cap, h3, fun i hi => ?_⟩
  obtain ⟨b', o', e1, hr⟩ := h4 i hi
  refine ⟨b', o', e1, fun j v hv => ?_⟩
  rw [← hr j v hv]
  cases h3
  cases e1
  exact World.cell?_of_block (w := w) e
theorem parts_keep {w w' : World} {b o n c : Nat} {N : List (Int × Bool)} (h : PartsAt w (.slice (some ⟨b, o, none⟩) n c) N) (e : w'.heap[b]? = w.heap[b]?) : PartsAt w' (.slice (some ⟨b, o, none⟩) n c) N := by
  obtain ⟨h1, h2, a, cap, h3, h4⟩ := h
  refine ⟨h1, h2, a, cap, h3, fun i hi => ?_⟩
  obtain ⟨b', o', e1, hr⟩ := h4 i hi
  refine ⟨b', o', e1, fun j v hv => ?_⟩
  rw [← hr j v hv]
  cases h3
  cases e1
  exact World.cell?_of_block (w := w) e
set_option maxHeartbeats 6400000 in
set_option maxRecDepth 100000 in
theorem some_any (w : World) : Calls Tryd.prog 27 #[] w (Trees w someN someR) := by
  have hz := zeroNode
  go_enter Tryd.func27, Tryd.ntmps27
  have hr0 : (w.alloc (.cells #[.slice none 0 0, .slice none 0 0] 33)).heap[w.heap.size]? = some (.cells #[.slice none 0 0, .slice none 0 0] 33 (0, 0)) := heap_alloc_new w _
  have HR0 := Lib.hid hr0
  have HB0 := Lib.hid ((Below.refl w.heap.size w).alloc (Nat.le_refl _) (.cells #[.slice none 0 0, .slice none 0 0] 33))
  have HS0 : Hid ((w.alloc (.cells #[.slice none 0 0, .slice none 0 0] 33)).heap.size = w.heap.size + 1) := Lib.hid (by simp)
  clear hr0
  go_wp2_with fail
  generalize (w.alloc (.cells #[.slice none 0 0, .slice none 0 0] 33)) = w0 at *
  have hb := bytes_lit w0 [97] (by decide) #[.int .u8 97] rfl (by decide)
  rw [HS0.out] at hb
  have hk0 : w.heap.size < w0.heap.size := by rw [HS0.out]; omega
  refine (of_any _ [97] _ hb).mono ?_
  rintro e w1 ⟨rfl, hB1⟩
  have hE1 := ((Below.refl w0.heap.size w0).alloc (Nat.le_refl _) (.cells #[.int .u8 97] 5)).trans (hB1.mono (by simp))
  have HR1 : Hid (w1.heap[w.heap.size]? = _) := Lib.hid ((hE1.block _ hk0).trans HR0.out)
  have HB1 := Lib.hid (HB0.out.trans (hE1.mono HB0.out.size))
  have hk1 : w.heap.size < w1.heap.size := Nat.lt_of_lt_of_le hk0 hE1.size
  clear hb hB1 hE1 HR0 HB0 HS0 hk0
  go_wp2_with fail
  have hb := bytes_lit w1 [98] (by decide) #[.int .u8 98] rfl (by decide)
  refine (of_any _ [98] _ hb).mono ?_
  rintro e w2 ⟨rfl, hB2⟩
  have hE2 := ((Below.refl w1.heap.size w1).alloc (Nat.le_refl _) (.cells #[.int .u8 98] 5)).trans (hB2.mono (by simp))
  have HR2 : Hid (w2.heap[w.heap.size]? = _) := Lib.hid ((hE2.block _ hk1).trans HR1.out)
  have HB2 := Lib.hid (HB1.out.trans (hE2.mono HB1.out.size))
  have hk2 : w.heap.size < w2.heap.size := Nat.lt_of_lt_of_le hk1 hE2.size
  clear hb hB2 hE2 HR1 HB1 hk1
  go_wp2_with fail
  refine (all_any _).mono ?_
  rintro e w3 ⟨rfl, hB3⟩
  have HR3 : Hid (w3.heap[w.heap.size]? = _) := Lib.hid ((hB3.block _ hk2).trans HR2.out)
  have HB3 := Lib.hid (HB2.out.trans (hB3.mono HB2.out.size))
  have hk3 : w.heap.size < w3.heap.size := Nat.lt_of_lt_of_le hk2 hB3.size
  clear hB3 HR2 HB2 hk2
  have hE4 := (Below.refl w3.heap.size w3).alloc (Nat.le_refl _) (.cells someC 27)
  have hE5 := hE4.alloc hE4.size (.cells someD 30)
  have HN4 := Lib.hid ((nodes_lit w3 someN (okN_all (by decide +kernel)) (by decide) someC someC_eq).kept ((Below.refl _ (w3.alloc (.cells someC 27))).alloc (Nat.le_refl _) (.cells someD 30)))
  have hp5 := parts_lit (w3.alloc (.cells someC 27)) someR (by decide) (by decide) someD someD_eq
  rw [show (w3.alloc (.cells someC 27)).heap.size = w3.heap.size + 1 from by simp] at hp5
  have HP5 := Lib.hid hp5
  have HR5 := Lib.hid ((hE5.block _ hk3).trans HR3.out)
  have HB5 := Lib.hid (HB3.out.trans (hE5.mono HB3.out.size))
  clear hE4 hE5 hp5
  go_wp2_with (refine wpList_store_tree rfl _ _ rfl w.heap.size _ _ _ _ _ _ rfl rfl (.slice none 0 0) (.slice none 0 0) HR5.out ?_)
  have hrow := setRow_heap ((w3.alloc (.cells someC 27)).alloc (.cells someD 30)) w.heap.size _ #[.slice (some ⟨w3.heap.size, 0, none⟩) 7 7, .slice (some ⟨w3.heap.size + 1, 0, none⟩) 2 2] 33 (0, 0) HR5.out
  have hoth := fun k (hk : k ≠ w.heap.size) => setRow_other ((w3.alloc (.cells someC 27)).alloc (.cells someD 30)) w.heap.size k #[.slice (some ⟨w3.heap.size, 0, none⟩) 7 7, .slice (some ⟨w3.heap.size + 1, 0, none⟩) 2 2] hk
  refine bodyPost_ret (v := .agg #[.slice (some ⟨w3.heap.size, 0, none⟩) 7 7, .slice (some ⟨w3.heap.size + 1, 0, none⟩) 2 2]) (results_cell_row (p := 0) Tryd.results27 _ _ w.heap.size 33 _ (0, 0) _ rfl hrow Tryd.underlying33 rfl sizeTree) rfl ⟨_, _, rfl, nodes_keep HN4.out (hoth _ (by omega)), parts_keep HP5.out (hoth _ (by omega)), ?_⟩
  exact HB5.out.trans ⟨rfl, rfl, rfl, by simp [World.setRow], fun k hk => hoth k (by omega)⟩
end Go.Proofs.YtpchahlnnbgpkaaDoor
