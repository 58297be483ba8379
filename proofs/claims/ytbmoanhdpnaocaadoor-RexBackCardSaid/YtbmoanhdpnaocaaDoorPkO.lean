/- Several texts in one. -/
import Derived.Test.YtbmoanhdpnaocaaDoorPkM
import Derived.Test.YtbmoanhdpnaocaaDoorPkN
namespace Go.Proofs.YtbmoanhdpnaocaaDoor
open Go.RowKit Sets Tr Rx
theorem wpList_put_tree {ops : Array Oper} {rest : List Oper} {o : Oper} {a : Act} {w : World} {Q : Exit → Act → World → Prop} (hgd : o.guard = none) (x y : Operand)
    (ho : o.op = .store 25 x y) (g : Nat) (a1 a2 : Option Addr) (n1 c1 n2 c2 : Nat) (hx : a.eval x = .pointer (some ⟨g, 0, none⟩)) (hy : a.eval y = .agg #[.slice a1 n1 c1, .slice a2 n2 c2]) (u v : Value)
    (hg : w.heap[g]? = some (.cells #[u, v] 25 (0, 0)))
    (h : wpList Tryd.prog ops Q rest (a.put o.dst undef) (w.setRow g #[.slice a1 n1 c1, .slice a2 n2 c2])) : wpList Tryd.prog ops Q (o :: rest) a w :=
  wpList_store_row hgd 25 x y ho g #[.slice a1 n1 c1, .slice a2 n2 c2] hx hy 25 #[u, v] hg sizeTree' rfl (by simp [Value.oneCell']) h
theorem quit_idle (a b c : Addr) (w : World) :
    CallsD Tryd.prog 19 #[.pointer (some a), .pointer (some b), .pointer (some c)] .returning w fun e u' w' => e = .returned (.tuple #[]) ∧ u' = .returning ∧ w' = w := by
  refine callsD_of_wpS Tryd.func19 rfl fun c₀ cs hu => ?_
  simp only [Tryd.ntmps19, List.size_toArray, List.length_cons, List.length_nil, Nat.reduceAdd, Nat.reduceSub, Array.replicate_succ, Array.replicate_zero, List.push_toArray, List.append_toArray, List.nil_append, List.cons_append]
  apply wpS_seq
  apply wpS_region
  simp [wpOpsS, go_sem, recoverD, hu, Exit.thenS]
  refine wpS_of_wp ?_
  go_wp2
  cases c₀
  simp_all [bodyPostS, results, Tryd.results19]
/-- what the deferred function leaves: the results' three cells -/
def Left (u v : Value) (g p : Nat) (er : Int) (w w' : World) : Prop := w' = ((w.setRow g #[u, v]).setCell ⟨g + 1, 0, none⟩ (.int .i64 p)).setCell ⟨g + 2, 0, none⟩ (.int .i64 er)
theorem left_heap {u v : Value} {g p : Nat} {er : Int} {w0 w w' : World} (h : Left u v g p er w w') (h0 : w.heap[g]? = some (.cells #[.slice none 0 0, .slice none 0 0] 25 (0, 0)))
    (h1 : w.heap[g + 1]? = some (.cells #[.int .i64 0] 3 (0, 0))) (h2 : w.heap[g + 2]? = some (.cells #[.int .i64 0] 29 (0, 0))) (hB : Below w0.heap.size w0 w) (hg : g = w0.heap.size) :
    w'.heap[g]? = some (.cells #[u, v] 25 (0, 0)) ∧ w'.cell? ⟨g + 1, 0, none⟩ = some (.int .i64 p) ∧ w'.cell? ⟨g + 1 + 1, 0, none⟩ = some (.int .i64 er) ∧ Below w0.heap.size w0 w' ∧ ∀ k, k ≠ g → k ≠ g + 1 → k ≠ g + 2 → w'.heap[k]? = w.heap[k]? := by
  unfold Left at h
  subst h
  have o0 := setRow_heap w g _ #[u, v] 25 (0, 0) h0
  have o1 := (setRow_other w g (g + 1) #[u, v] (by omega)).trans h1
  have o2 := (setRow_other w g (g + 2) #[u, v] (by omega)).trans h2
  have o3 := fun k (hk : k ≠ g) => setRow_other w g k #[u, v] hk
  have hsz : (w.setRow g #[u, v]).heap.size = w.heap.size := by simp [World.setRow]
  refine ⟨?_, ?_, ?_, ?_, ?_⟩
  · rw [Below.heap_setCell _ _ _ _ (by simp only; omega), Below.heap_setCell _ _ _ _ (by simp only; omega)]
    exact o0
  · have e : (((w.setRow g #[u, v]).setCell ⟨g + 1, 0, none⟩ (.int .i64 p)).setCell ⟨g + 2, 0, none⟩ (.int .i64 er)).heap[g + 1]? = some (.cells #[.int .i64 p] 3 (0, 0)) := by
      rw [Below.heap_setCell _ _ _ _ (by simp only; omega)]
      simp [World.setCell, Array.getElem?_modify, o1]
    simp [World.cell?, e]
  · have e : (((w.setRow g #[u, v]).setCell ⟨g + 1, 0, none⟩ (.int .i64 p)).setCell ⟨g + 2, 0, none⟩ (.int .i64 er)).heap[g + 1 + 1]? = some (.cells #[.int .i64 er] 29 (0, 0)) := by
      have e1 : ((w.setRow g #[u, v]).setCell ⟨g + 1, 0, none⟩ (.int .i64 p)).heap[g + 2]? = some (.cells #[.int .i64 0] 29 (0, 0)) := by
        rw [Below.heap_setCell _ _ _ _ (by simp only; omega)]; exact o2
      generalize (w.setRow g #[u, v]).setCell ⟨g + 1, 0, none⟩ (.int .i64 p) = w1 at *
      simp [World.setCell, Array.getElem?_modify, e1]
    simp [World.cell?, e]
  · refine hB.trans ⟨rfl, rfl, rfl, by simp [World.setRow], fun k hk => ?_⟩
    rw [Below.heap_setCell _ _ _ _ (by simp only; omega), Below.heap_setCell _ _ _ _ (by simp only; omega)]
    exact o3 k (by omega)
  · intro k k0 k1 k2
    rw [Below.heap_setCell _ _ _ _ (by simp only; omega), Below.heap_setCell _ _ _ _ (by simp only; omega)]
    exact o3 k k0
set_option maxHeartbeats 800000 in
theorem quit_wrong (g p : Nat) (w : World) (older : List PanicEntry) (h0 : w.heap[g]? = some (.cells #[.slice none 0 0, .slice none 0 0] 25 (0, 0)))
    (h1 : w.heap[g + 1]? = some (.cells #[.int .i64 0] 3 (0, 0))) (h2 : w.heap[g + 2]? = some (.cells #[.int .i64 0] 29 (0, 0))) :
    CallsD Tryd.prog 19 #[.pointer (some ⟨g, 0, none⟩), .pointer (some ⟨g + 1, 0, none⟩), .pointer (some ⟨g + 2, 0, none⟩)] (.panicking ({ v := pnc false p, recovered := false } :: older)) w fun e u' w' =>
      u' = .panicking ({ v := pnc false p, recovered := true } :: older) ∧ Left (.slice none 0 0) (.slice none 0 0) g p 8 w w' ∧ e = .returned (.tuple #[]) := by
  refine callsD_of_wpS Tryd.func19 rfl fun c₀ cs hu => ?_
  simp only [Tryd.ntmps19, List.size_toArray, List.length_cons, List.length_nil, Nat.reduceAdd, Nat.reduceSub, Array.replicate_succ, Array.replicate_zero, List.push_toArray, List.append_toArray, List.nil_append, List.cons_append]
  have a1 : ∀ (W : World) (v : Value), (Instr.typeAssert (.iface 52 v) 20 52 true).run Tryd.prog W = .ok (.tuple #[v, .bool true]) W := fun W v => by kernel_rfl
  have c1 : ∀ w : World, w.heap[g + 1]? = some (.cells #[.int .i64 0] 3 (0, 0)) → w.cell? ⟨g + 1, 0, none⟩ = some (.int .i64 0) ∧ w.frozen? ⟨g + 1, 0, none⟩ = false := fun w h => ⟨by simp [World.cell?, h], by simp [World.frozen?, h]⟩
  have c2 : ∀ w : World, w.heap[g + 2]? = some (.cells #[.int .i64 0] 29 (0, 0)) → w.cell? ⟨g + 2, 0, none⟩ = some (.int .i64 0) ∧ w.frozen? ⟨g + 2, 0, none⟩ = false := fun w h => ⟨by simp [World.cell?, h], by simp [World.frozen?, h]⟩
  have o1 := (setRow_other w g (g + 1) #[.slice none 0 0, .slice none 0 0] (by omega)).trans h1
  have o2 := (setRow_other w g (g + 2) #[.slice none 0 0, .slice none 0 0] (by omega)).trans h2
  obtain ⟨d1, e1⟩ := c1 _ o1
  obtain ⟨d2, e2⟩ := c2 _ o2
  clear c1 c2 o1 o2 h1 h2
  have H0 := Lib.hid h0
  clear h0
  unfold pnc at *
  apply wpS_seq
  apply wpS_region
  simp [wpOpsS, go_sem, recoverD, hu, Exit.thenS]
  refine wpS_of_wp ?_
  go_wp2_with (refine wpList_put_tree rfl _ _ rfl g _ _ _ _ _ _ rfl rfl (.slice none 0 0) (.slice none 0 0) H0.out ?_)
  unfold Left
  cases c₀
  simp_all [bodyPostS, results, Tryd.results19]
set_option maxHeartbeats 800000 in
theorem quit_long (g p : Nat) (w : World) (older : List PanicEntry) (h0 : w.heap[g]? = some (.cells #[.slice none 0 0, .slice none 0 0] 25 (0, 0)))
    (h1 : w.heap[g + 1]? = some (.cells #[.int .i64 0] 3 (0, 0))) (h2 : w.heap[g + 2]? = some (.cells #[.int .i64 0] 29 (0, 0))) :
    CallsD Tryd.prog 19 #[.pointer (some ⟨g, 0, none⟩), .pointer (some ⟨g + 1, 0, none⟩), .pointer (some ⟨g + 2, 0, none⟩)] (.panicking ({ v := pnc true p, recovered := false } :: older)) w fun e u' w' =>
      u' = .panicking ({ v := pnc true p, recovered := true } :: older) ∧ Left (.slice none 0 0) (.slice none 0 0) g p 3 w w' ∧ e = .returned (.tuple #[]) := by
  refine callsD_of_wpS Tryd.func19 rfl fun c₀ cs hu => ?_
  simp only [Tryd.ntmps19, List.size_toArray, List.length_cons, List.length_nil, Nat.reduceAdd, Nat.reduceSub, Array.replicate_succ, Array.replicate_zero, List.push_toArray, List.append_toArray, List.nil_append, List.cons_append]
  have a1 : ∀ (W : World) (v : Value), (Instr.typeAssert (.iface 53 v) 20 52 true).run Tryd.prog W = .ok (.tuple #[.int .i64 0, .bool false]) W := fun W v => by kernel_rfl
  have a2 : ∀ (W : World) (v : Value), (Instr.typeAssert (.iface 53 v) 20 53 true).run Tryd.prog W = .ok (.tuple #[v, .bool true]) W := fun W v => by kernel_rfl
  have c1 : ∀ w : World, w.heap[g + 1]? = some (.cells #[.int .i64 0] 3 (0, 0)) → w.cell? ⟨g + 1, 0, none⟩ = some (.int .i64 0) ∧ w.frozen? ⟨g + 1, 0, none⟩ = false := fun w h => ⟨by simp [World.cell?, h], by simp [World.frozen?, h]⟩
  have c2 : ∀ w : World, w.heap[g + 2]? = some (.cells #[.int .i64 0] 29 (0, 0)) → w.cell? ⟨g + 2, 0, none⟩ = some (.int .i64 0) ∧ w.frozen? ⟨g + 2, 0, none⟩ = false := fun w h => ⟨by simp [World.cell?, h], by simp [World.frozen?, h]⟩
  have o1 := (setRow_other w g (g + 1) #[.slice none 0 0, .slice none 0 0] (by omega)).trans h1
  have o2 := (setRow_other w g (g + 2) #[.slice none 0 0, .slice none 0 0] (by omega)).trans h2
  obtain ⟨d1, e1⟩ := c1 _ o1
  obtain ⟨d2, e2⟩ := c2 _ o2
  clear c1 c2 o1 o2 h1 h2
  have H0 := Lib.hid h0
  clear h0
  unfold pnc at *
  apply wpS_seq
  apply wpS_region
  simp [wpOpsS, go_sem, recoverD, hu, Exit.thenS]
  refine wpS_of_wp ?_
  go_wp2_with (refine wpList_put_tree rfl _ _ rfl g _ _ _ _ _ _ rfl rfl (.slice none 0 0) (.slice none 0 0) H0.out ?_)
  unfold Left
  cases c₀
  simp_all [bodyPostS, results, Tryd.results19]
theorem load_int (w : World) (t : TypeId) (ht : (isAgg t).run Tryd.prog w = .ok false w) (a : Addr) (v : Value) (h : w.cell? a = some v) : (loadVar t a).run Tryd.prog w = .ok v w := by
  unfold loadVar
  simp [Sem.run_bind, ht, h, go_sem]
theorem results_parse (tmps : Array Value) (w : World) (g : Nat) (u v : Value) (p e : Int) (hp : tmps.getD 2 undef = .pointer (some ⟨g, 0, none⟩)) (hq : tmps.getD 3 undef = .pointer (some ⟨g + 1, 0, none⟩)) (hr : tmps.getD 4 undef = .pointer (some ⟨g + 1 + 1, 0, none⟩))
    (h0 : w.heap[g]? = some (.cells #[u, v] 25 (0, 0))) (h1 : w.cell? ⟨g + 1, 0, none⟩ = some (.int .i64 p)) (h2 : w.cell? ⟨g + 1 + 1, 0, none⟩ = some (.int .i64 e)) :
    (results Tryd.f8 tmps).run Tryd.prog w = .ok (.tuple #[.agg #[u, v], .int .i64 p, .int .i64 e]) w := by
  have hp' : tmps[2]?.getD undef = .pointer (some ⟨g, 0, none⟩) := by simpa using hp
  have hq' : tmps[3]?.getD undef = .pointer (some ⟨g + 1, 0, none⟩) := by simpa using hq
  have hr' : tmps[4]?.getD undef = .pointer (some ⟨g + 1 + 1, 0, none⟩) := by simpa using hr
  have l1 := load_int w 3 (by kernel_rfl) _ _ h1
  have l2 := load_int w 29 (by kernel_rfl) _ _ h2
  simp [results, Tryd.results8, hp', hq', hr', asAddr, run_loadVar_row w g 25 25 #[u, v] (0, 0) _ h0 Tryd.underlying25 rfl sizeTree', l1, l2]
/-- what Parse says -/
def PO (s : ByteArray) (w : World) (e : Ending) (w' : World) : Prop :=
  match cons (by' s) with
  | .ok _ ns ps => (∃ nv pv, e = .returned (.tuple #[.agg #[nv, pv], .int .i64 0, .int .i64 0]) ∧ NodesAt w' nv ns ∧ PartsAt w' pv ps) ∧ Below w.heap.size w w'
  | .bad lg p => e = .returned (.tuple #[.agg #[.slice none 0 0, .slice none 0 0], .int .i64 (p : Nat), .int .i64 (if lg then 3 else 8)]) ∧ Below w.heap.size w w'
theorem rd_new (w : World) (s : ByteArray) : RdAt (w.alloc (.cells #[.string s, .int .i64 0, .int .i64 0, .slice none 0 0, .slice none 0 0] 55)) w.heap.size s 0 0 [] [] (.slice none 0 0) (.slice none 0 0) := by
  refine ⟨heap_alloc_new w _, ⟨by simp [nds], .inl ⟨rfl, rfl⟩⟩, ⟨by simp [pts], .inl ⟨rfl, rfl⟩⟩⟩
set_option maxHeartbeats 1600000 in
theorem parse_any (s : ByteArray) (w : World) : Calls Tryd.prog 8 #[.string s] w (PO s w) := by
  have hmf : ∀ (fn : Fn) (first cap : Array Value) (w : World), (Instr.makeFunc fn first cap).run Tryd.prog w = .ok (.func fn first cap) w := fun _ _ _ _ => rfl
  have hg := fun q ns ps => cons_good (l := by' s) (by_lt s) (q := q) (ns := ns) (ps := ps)
  have hC := constraint_any
  go_enter_defers Tryd.func8, Tryd.ntmps8
  go_wp2_with fail
  have e0 : (((w.alloc (.cells #[.slice none 0 0, .slice none 0 0] 25)).alloc (.cells #[.int .i64 0] 3)).alloc (.cells #[.int .i64 0] 29)).heap[w.heap.size]? = some (.cells #[.slice none 0 0, .slice none 0 0] 25 (0, 0)) := by
    rw [Below.heap_alloc _ _ _ (by simp; omega), Below.heap_alloc _ _ _ (by simp)]; exact heap_alloc_new w _
  have e1 : (((w.alloc (.cells #[.slice none 0 0, .slice none 0 0] 25)).alloc (.cells #[.int .i64 0] 3)).alloc (.cells #[.int .i64 0] 29)).heap[w.heap.size + 1]? = some (.cells #[.int .i64 0] 3 (0, 0)) := by
    rw [Below.heap_alloc _ _ _ (by simp)]; have := heap_alloc_new (w.alloc (.cells #[.slice none 0 0, .slice none 0 0] 25)) (.cells #[.int .i64 0] 3); simpa using this
  have e2 : (((w.alloc (.cells #[.slice none 0 0, .slice none 0 0] 25)).alloc (.cells #[.int .i64 0] 3)).alloc (.cells #[.int .i64 0] 29)).heap[w.heap.size + 2]? = some (.cells #[.int .i64 0] 29 (0, 0)) := by
    have := heap_alloc_new ((w.alloc (.cells #[.slice none 0 0, .slice none 0 0] 25)).alloc (.cells #[.int .i64 0] 3)) (.cells #[.int .i64 0] 29); simpa using this
  have e3 : (((w.alloc (.cells #[.slice none 0 0, .slice none 0 0] 25)).alloc (.cells #[.int .i64 0] 3)).alloc (.cells #[.int .i64 0] 29)).heap.size = w.heap.size + 1 + 1 + 1 := by simp
  have e4 := (((Below.refl w.heap.size w).alloc (Nat.le_refl _) (.cells #[.slice none 0 0, .slice none 0 0] 25)).alloc (by simp) (.cells #[.int .i64 0] 3)).alloc (by simp; omega) (.cells #[.int .i64 0] 29)
  generalize (((w.alloc (.cells #[.slice none 0 0, .slice none 0 0] 25)).alloc (.cells #[.int .i64 0] 3)).alloc (.cells #[.int .i64 0] 29)) = w3 at *
  have hC := hC _ s _ _ _ (rd_new w3 s)
  have ha := (Below.refl w3.heap.size w3).alloc (Nat.le_refl _) (.cells #[.string s, .int .i64 0, .int .i64 0, .slice none 0 0, .slice none 0 0] 55)
  rw [e3] at hC ha
  have HA := Lib.hid ha
  have HE0 := Lib.hid e0
  have HE1 := Lib.hid e1
  have HE2 := Lib.hid e2
  have HE3 := Lib.hid e3
  have HE4 := Lib.hid e4
  have HG := Lib.hid hg
  clear e0 e1 e2 e3 e4 ha hg
  refine hC.mono ?_
  clear hC
  intro e w' hP
  unfold PP at hP
  unfold PO
  have hg := HG.out
  clear HG
  cases hc : cons (by' s) with
  | bad lg p =>
    rw [hc] at hP
    obtain ⟨rfl, hB⟩ := hP
    have hB := HA.out.trans hB
    have r0 := (hB.block w.heap.size (by omega)).trans HE0.out
    have r1 := (hB.block (w.heap.size + 1) (by omega)).trans HE1.out
    have r2 := (hB.block (w.heap.size + 2) (by omega)).trans HE2.out
    have HB := Lib.hid (HE4.out.trans (hB.mono (by omega)))
    clear hg hc hB
    cases lg
    case false =>
      go_wp2_with fail
      refine leaves_cons (f := 19) (args := #[.pointer (some ⟨w.heap.size, 0, none⟩), .pointer (some ⟨w.heap.size + 1, 0, none⟩), .pointer (some ⟨w.heap.size + 1 + 1, 0, none⟩)]) (by simp) (by simp [go_sem]) ?_
      refine (quit_wrong w.heap.size p w' [] r0 r1 r2).mono ?_
      rintro e u' w2 ⟨rfl, hl, rfl⟩
      have hh := left_heap hl r0 r1 r2 HB.out (by omega)
      simp only [Leaves, settle, List.dropWhile_nil]
      exact ⟨_, results_parse _ w2 w.heap.size _ _ _ _ rfl rfl rfl hh.1 hh.2.1 hh.2.2.1, rfl, hh.2.2.2.1⟩
    case true =>
      go_wp2_with fail
      refine leaves_cons (f := 19) (args := #[.pointer (some ⟨w.heap.size, 0, none⟩), .pointer (some ⟨w.heap.size + 1, 0, none⟩), .pointer (some ⟨w.heap.size + 1 + 1, 0, none⟩)]) (by simp) (by simp [go_sem]) ?_
      refine (quit_long w.heap.size p w' [] r0 r1 r2).mono ?_
      rintro e u' w2 ⟨rfl, hl, rfl⟩
      have hh := left_heap hl r0 r1 r2 HB.out (by omega)
      simp only [Leaves, settle, List.dropWhile_nil]
      exact ⟨_, results_parse _ w2 w.heap.size _ _ _ _ rfl rfl rfl hh.1 hh.2.1 hh.2.2.1, rfl, hh.2.2.2.1⟩
  | ok q ns ps =>
    rw [hc] at hP
    obtain ⟨rfl, ⟨nv, pv, hR⟩, hB⟩ := hP
    have hB := HA.out.trans hB
    have hg := hg _ _ _ hc
    have HC := Lib.hid hc
    obtain ⟨na, nc, rfl⟩ := own_slice hR.on
    obtain ⟨pa, pc, rfl⟩ := own_slice hR.op
    obtain ⟨c0, c1, c2, c3, c4⟩ := hR.row.cells
    have r0 := (hB.block w.heap.size (by omega)).trans HE0.out
    have r1 := (hB.block (w.heap.size + 1) (by omega)).trans HE1.out
    have r2 := (hB.block (w.heap.size + 2) (by omega)).trans HE2.out
    have HB := Lib.hid (HE4.out.trans (hB.mono (by omega)))
    have HG := Lib.hid hg
    clear hg hc hB
    have o1 := (setRow_other w' w.heap.size (w.heap.size + 1) #[.slice na ns.length nc, .slice pa ps.length pc] (by omega)).trans r1
    have o2 := (setRow_other w' w.heap.size (w.heap.size + 1 + 1) #[.slice na ns.length nc, .slice pa ps.length pc] (by omega)).trans r2
    have d1 : (w'.setRow w.heap.size #[.slice na ns.length nc, .slice pa ps.length pc]).cell? ⟨w.heap.size + 1, 0, none⟩ = some (.int .i64 0) ∧ (w'.setRow w.heap.size #[.slice na ns.length nc, .slice pa ps.length pc]).frozen? ⟨w.heap.size + 1, 0, none⟩ = false := ⟨by simp [World.cell?, o1], by simp [World.frozen?, o1]⟩
    have d2 : (w'.setRow w.heap.size #[.slice na ns.length nc, .slice pa ps.length pc]).cell? ⟨w.heap.size + 1 + 1, 0, none⟩ = some (.int .i64 0) ∧ (w'.setRow w.heap.size #[.slice na ns.length nc, .slice pa ps.length pc]).frozen? ⟨w.heap.size + 1 + 1, 0, none⟩ = false := ⟨by simp [World.cell?, o2], by simp [World.frozen?, o2]⟩
    obtain ⟨d1, f1⟩ := d1
    obtain ⟨d2, f2⟩ := d2
    have R0 := Lib.hid r0
    have R1 := Lib.hid r1
    have R2 := Lib.hid r2
    have HR := Lib.hid hR
    clear o1 o2 r0 r1 r2 hR
    go_wp2_with (refine wpList_put_tree rfl _ _ rfl w.heap.size _ _ _ _ _ _ rfl rfl (.slice none 0 0) (.slice none 0 0) R0.out ?_)
    refine leaves_cons (f := 19) (args := #[.pointer (some ⟨w.heap.size, 0, none⟩), .pointer (some ⟨w.heap.size + 1, 0, none⟩), .pointer (some ⟨w.heap.size + 1 + 1, 0, none⟩)]) (by simp) (by simp [go_sem]) ?_
    refine (quit_idle _ _ _ _).mono ?_
    rintro e u' w2 ⟨rfl, rfl, rfl⟩
    simp only [Leaves, settle]
    have hh := left_heap (u := .slice na ns.length nc) (v := .slice pa ps.length pc) (g := w.heap.size) (p := 0) (er := 0) rfl R0.out R1.out R2.out HB.out rfl
    refine ⟨_, results_parse _ _ w.heap.size (.slice na ns.length nc) (.slice pa ps.length pc) 0 0 rfl rfl rfl hh.1 hh.2.1 hh.2.2.1, ?_⟩
    rw [PO, HC.out]
    refine ⟨⟨_, _, rfl, ?_, ?_⟩, hh.2.2.2.1⟩
    · exact own_nodes (own_kept HR.out.on (fun g hg => by have := (HR.out.on.lt g hg).1; exact hh.2.2.2.2 g (by omega) (by omega) (by omega))) (by have := HG.out.2.1; omega) HG.out.2.2.1
    · exact own_parts (own_kept HR.out.op (fun g hg => by have := (HR.out.op.lt g hg).1; exact hh.2.2.2.2 g (by omega) (by omega) (by omega))) (by have := HG.out.2.2.2.1; omega) HG.out.2.2.2.2.1
end Go.Proofs.YtbmoanhdpnaocaaDoor
namespace Go.Proofs.YtbmoanhdpnaocaaDoor
open Go.RowKit Sets Tr Rx
theorem two' {α : Type} (l : List α) (h : l.length = 2) : ∃ a b, l = [a, b] := by
  rcases l with _ | ⟨a, _ | ⟨b, _ | ⟨c, l⟩⟩⟩ <;> simp at h
  exact ⟨a, b, rfl⟩
theorem eqPart (x y : Int × Bool) (w : World) : (Op.equalIn 10000 43 (.agg (pt2 x).toArray) (.agg (pt2 y).toArray)).run Tryd.prog w = .ok (decide (x = y)) w := by
  have hf : (Tryd.prog.fieldsOf 43).toList.map (fun f => (f.name, f.type, f.offset)) = [("Root", 3, 0), ("Not", 4, 1)] := by kernel_rfl
  have hp : (Tryd.prog.fieldsOf 43).toList.length = 2 := by have := congrArg List.length hf; simpa using this
  have a1 : (isAgg 3).run Tryd.prog w = .ok false w := by kernel_rfl
  have a2 : (isAgg 4).run Tryd.prog w = .ok false w := by kernel_rfl
  rw [show (10000 : Nat) = 9999 + 1 from rfl, run_equalIn_struct w 9999 43 _ _ (by kernel_rfl) (by kernel_rfl)]
  generalize (Tryd.prog.fieldsOf 43).toList = fs at hf hp ⊢
  obtain ⟨f1, f2, rfl⟩ := two' fs hp
  simp only [List.map_cons, List.map_nil, List.cons.injEq, Prod.mk.injEq, and_true] at hf
  obtain ⟨⟨n1, t1, o1⟩, n2, t2, o2⟩ := hf
  obtain ⟨i, b⟩ := x
  obtain ⟨j, c⟩ := y
  unfold Op.eqFields
  rw [n1, t1, o1, if_pos (by decide)]
  simp only [Sem.run_bind, part_one _ (pt2 (i, b)).toArray 0 (.int .i64 i) w a1 rfl, part_one _ (pt2 (j, c)).toArray 0 (.int .i64 j) w a1 rfl, Result.andThen_ok]
  rw [run_equalIn_int w 9998 3 .i64 .i64 _ _ Tryd.underlying3]
  by_cases h1 : i = j
  case neg => simp [h1]
  subst h1
  simp only [BEq.rfl, Result.andThen_ok, Bool.not_true, Bool.false_eq_true, if_false]
  unfold Op.eqFields
  rw [n2, t2, o2, if_pos (by decide)]
  simp only [Sem.run_bind, part_one _ (pt2 (i, b)).toArray 1 (.bool b) w a2 rfl, part_one _ (pt2 (i, c)).toArray 1 (.bool c) w a2 rfl, Result.andThen_ok]
  rw [show (9999 : Nat) = 9998 + 1 from rfl, Op.equalIn]
  simp only [Sem.run_bind, run_underlying Tryd.underlying4, Result.andThen_ok]
  cases b <;> cases c <;> simp [Op.eqFields]
theorem quiet_load_mid {C : World → Prop} {a : Act} {K : Act → Prop} {o : Oper} (ty : TypeId) (x : Operand) (ho : o.op = .load ty x) (b q : Nat) (hx : a.eval x = .pointer (some ⟨b, q, none⟩)) (cs : List Value) (d : TypeDesc)
    (hc : ∀ w, C w → w.rangeAt b q cs) (hu : Tryd.prog.underlying ty = some d) (hd : d.isRow = true) (hi : (Tryd.prog.info? ty).map (·.size) = some cs.length) (h : K (a.put o.dst (.agg cs.toArray))) : o.quiet Tryd.prog a C K := by
  refine ⟨.agg cs.toArray, fun w hw => ?_, h⟩
  unfold Oper.quietAt execOp
  simp only [ho, hx, run_loadAt_mid w b q ty cs d (hc w hw) hu hd hi, Sem.run_bind, Sem.run_pure, Result.andThen_ok]
  exact ⟨rfl, rfl⟩
theorem quiet_neq {C : World → Prop} {a : Act} {K : Act → Prop} {o : Oper} (ty t : TypeId) (x y : Operand) (ho : o.op = .binOp .neq ty x y t) (xs ys : Array Value) (hx : a.eval x = .agg xs) (hy : a.eval y = .agg ys) (hg : Tryd.prog.eqGuardType Tryd.prog.depth ty = false)
    (r : Bool) (hr : ∀ w, (Op.equalIn 10000 ty (.agg xs) (.agg ys)).run Tryd.prog w = .ok r w) (h : K (a.put o.dst (.bool (!r)))) : o.quiet Tryd.prog a C K := by
  refine ⟨.bool (!r), fun w hw => ?_, h⟩
  unfold Oper.quietAt execOp
  simp only [ho, hx, hy, Sem.run_bind, run_eqGuard_agg w .neq ty x y _ _ hg, run_neq_struct, hr, Result.andThen_ok, Sem.run_pure]
  exact ⟨rfl, rfl⟩
theorem nodes_mid {w : World} {a : Option Addr} {n c : Nat} {N : List Nd} (h : NodesAt w (.slice a n c) N) {i : Nat} (hi : i < N.length) : ∃ b o, a = some ⟨b, o, none⟩ ∧ w.rangeAt b (o + i * 9) (nd9 (N.getD i default)) ∧ (N.getD i default).s < 2 ^ 256 := by
  obtain ⟨b, o, e, h1, h2⟩ := h.at hi
  exact ⟨b, o, e, h1, h2.s⟩
theorem sizeNodeL (X : Nd) : (Tryd.prog.info? 41).map (·.size) = some (nd9 X).length := by rw [← List.size_toArray]; exact sizeNode X
theorem sizePartL (X : Int × Bool) : (Tryd.prog.info? 43).map (·.size) = some (pt2 X).length := by rw [show (pt2 X).length = 2 from rfl]; kernel_rfl
set_option maxHeartbeats 1600000 in
set_option maxRecDepth 100000 in
theorem same_any (na na' pa pa' : Option Addr) (nc nc' pc pc' : Nat) (N : List Nd) (R : List (Int × Bool)) (w : World) (hN : NodesAt w (.slice na N.length nc) N) (hN' : NodesAt w (.slice na' N.length nc') N)
    (hP : PartsAt w (.slice pa R.length pc) R) (hP' : PartsAt w (.slice pa' R.length pc') R) :
    Calls Tryd.prog 13 #[.agg #[.slice na N.length nc, .slice pa R.length pc], .agg #[.slice na' N.length nc', .slice pa' R.length pc']] w fun e w' => e = .returned (.bool true) ∧ Below w.heap.size w w' := by
  have hb := ((Below.refl w.heap.size w).alloc (Nat.le_refl _) (.cells #[.slice na N.length nc, .slice pa R.length pc] 25)).alloc (by simp) (.cells #[.slice na' N.length nc', .slice pa' R.length pc'] 25)
  have HB := Lib.hid hb
  have HN := Lib.hid (hN.kept hb)
  have HN' := Lib.hid (hN'.kept hb)
  have HP := Lib.hid (hP.kept hb)
  have HP' := Lib.hid (hP'.kept hb)
  have hNl := hN.2.1
  have hPl := hP.2.1
  have gN : Hid ((( N.length : Int) != (N.length : Int)) = false) := Lib.hid (by simp)
  clear hN hN' hP hP' hb
  go_enter Tryd.func13, Tryd.ntmps13
  go_wp2_with fail
  have h0 : ((w.alloc (.cells #[.slice na N.length nc, .slice pa R.length pc] 25)).alloc (.cells #[.slice na' N.length nc', .slice pa' R.length pc'] 25)).heap[w.heap.size]? = some (.cells #[.slice na N.length nc, .slice pa R.length pc] 25 (0, 0)) := by
    rw [Below.heap_alloc _ _ _ (by simp)]; exact heap_alloc_new w _
  have h1 : ((w.alloc (.cells #[.slice na N.length nc, .slice pa R.length pc] 25)).alloc (.cells #[.slice na' N.length nc', .slice pa' R.length pc'] 25)).heap[w.heap.size + 1]? = some (.cells #[.slice na' N.length nc', .slice pa' R.length pc'] 25 (0, 0)) := by
    have := heap_alloc_new (w.alloc (.cells #[.slice na N.length nc, .slice pa R.length pc] 25)) (.cells #[.slice na' N.length nc', .slice pa' R.length pc'] 25); simpa using this
  generalize ((w.alloc (.cells #[.slice na N.length nc, .slice pa R.length pc] 25)).alloc (.cells #[.slice na' N.length nc', .slice pa' R.length pc'] 25)) = w2 at *
  have c0 : Hid (w2.cell? ⟨w.heap.size, 0, none⟩ = some (.slice na N.length nc)) := Lib.hid (by simp [World.cell?, h0])
  have c1 : Hid (w2.cell? ⟨w.heap.size, 1, none⟩ = some (.slice pa R.length pc)) := Lib.hid (by simp [World.cell?, h0])
  have c2 : Hid (w2.cell? ⟨w.heap.size + 1, 0, none⟩ = some (.slice na' N.length nc')) := Lib.hid (by simp [World.cell?, h1])
  have c3 : Hid (w2.cell? ⟨w.heap.size + 1, 1, none⟩ = some (.slice pa' R.length pc')) := Lib.hid (by simp [World.cell?, h1])
  clear h0 h1
  go_loopw [5] (fun v wr => ∃ k : Nat, v = .int .i64 k ∧ k ≤ N.length ∧ Below w2.heap.size w2 wr) (fun v wr => (N.length - intOf v).toNat)
  case atStart => exact ⟨0, rfl, Nat.zero_le _, Below.refl _ _⟩
  case round =>
    obtain ⟨k, rfl, hk, hB⟩ := hrel
    have HBk := Lib.hid hB
    have g0 := hB.cell (World.block_lt_of_cell? _ _ c0.out) |>.trans c0.out
    have g1 := hB.cell (World.block_lt_of_cell? _ _ c1.out) |>.trans c1.out
    have g2 := hB.cell (World.block_lt_of_cell? _ _ c2.out) |>.trans c2.out
    have g3 := hB.cell (World.block_lt_of_cell? _ _ c3.out) |>.trans c3.out
    have M1 := Lib.hid (HN.out.kept hB)
    have M2 := Lib.hid (HN'.out.kept hB)
    clear hB
    by_cases hlt : k < N.length
    · have d1 : decide ((k : Int) < (N.length : Int)) = true := decide_eq_true (by omega)
      have d1' : decide (k < N.length) = true := decide_eq_true hlt
      obtain ⟨b, o, e1, r1, x1⟩ := M1.out.at hlt
      obtain ⟨b', o', e2, r2, x2⟩ := M2.out.at hlt
      subst e1 e2
      generalize hX : N.getD k default = X at *
      have R1 := Lib.hid r1
      have R2 := Lib.hid r2
      have X1 := Lib.hid x1
      clear r1 r2 x1 x2 hX
      go_wp2_with fail
      refine wp_region_quiet_lit (by kernel_rfl) (by kernel_rfl) ?_
      repeat (first
        | (refine BigFrame.wpQuiet_want rfl (fun K hK => ?_); refine quiet_load_mid 41 _ rfl b (o + k * 9) rfl _ _ (fun w' ⟨n, e⟩ => e ▸ R1.out) Tryd.underlying41 rfl (sizeNodeL X) ?_; refine hK _ ?_; clear hK K; simp only [Act.put, List.setIfInBounds_toArray, List.set_cons_zero, List.set_cons_succ])
        | (refine BigFrame.wpQuiet_want rfl (fun K hK => ?_); refine quiet_load_mid 41 _ rfl b' (o' + k * 9) rfl _ _ (fun w' ⟨n, e⟩ => e ▸ R2.out) Tryd.underlying41 rfl (sizeNodeL X) ?_; refine hK _ ?_; clear hK K; simp only [Act.put, List.setIfInBounds_toArray, List.set_cons_zero, List.set_cons_succ])
        | (refine BigFrame.wpQuiet_want rfl (fun K hK => ?_); refine quiet_neq 41 _ _ _ rfl _ _ rfl rfl (by kernel_rfl) (decide (X = X)) (fun w' => eqNode X X X1.out.s X1.out.s w') ?_; rw [decide_eq_true rfl]; refine hK _ ?_; clear hK K; simp only [Act.put, Bool.not_true, List.setIfInBounds_toArray, List.set_cons_zero, List.set_cons_succ])
        | (go_big_quiet_step (fail)))
      refine wpQuiet_nil ?_
      rintro w' ⟨n, rfl⟩
      have HBn := Lib.hid (below_drewN HBk.out n)
      generalize wr.drewN n = w4 at *
      go_wp2_with fail
      go_round
      case rel => exact ⟨k + 1, by congr 1, by omega, HBn.out⟩
      case measure => simp [intOf]; omega
    · obtain rfl : k = N.length := by omega
      have d1 : decide ((N.length : Int) < (N.length : Int)) = false := decide_eq_false (by omega)
      have d1' : decide (N.length < N.length) = false := decide_eq_false (by omega)
      go_wp2_with fail
      have HP2 := Lib.hid (HP.out.kept HBk.out)
      have HP2' := Lib.hid (HP'.out.kept HBk.out)
      have b0 := Lib.hid g0
      have b1 := Lib.hid g1
      have b2 := Lib.hid g2
      have b3 := Lib.hid g3
      have HB3 := Lib.hid (HB.out.trans (HBk.out.mono HB.out.size))
      clear HP HP' HN HN' c0 c1 c2 c3 g0 g1 g2 g3 HB HBk M1 M2 d1 d1' hlt hk
      generalize hwr : wr = w3 at *
      clear hwr wr
      go_loopw [6] (fun v wr => ∃ k : Nat, v = .int .i64 k ∧ k ≤ R.length ∧ Below w3.heap.size w3 wr) (fun v wr => (R.length - intOf v).toNat)
      case atStart => exact ⟨0, rfl, Nat.zero_le _, Below.refl _ _⟩
      case round =>
        obtain ⟨k, rfl, hk, hB⟩ := hrel
        have HBk := Lib.hid hB
        have g0 := hB.cell (World.block_lt_of_cell? _ _ b0.out) |>.trans b0.out
        have g1 := hB.cell (World.block_lt_of_cell? _ _ b1.out) |>.trans b1.out
        have g2 := hB.cell (World.block_lt_of_cell? _ _ b2.out) |>.trans b2.out
        have g3 := hB.cell (World.block_lt_of_cell? _ _ b3.out) |>.trans b3.out
        have M1 := Lib.hid (HP2.out.kept hB)
        have M2 := Lib.hid (HP2'.out.kept hB)
        clear hB
        by_cases hlt : k < R.length
        · have d1 : decide ((k : Int) < (R.length : Int)) = true := decide_eq_true (by omega)
          have d1' : decide (k < R.length) = true := decide_eq_true hlt
          obtain ⟨b, o, e1, r1, x1⟩ := M1.out.at hlt
          obtain ⟨b', o', e2, r2, x2⟩ := M2.out.at hlt
          subst e1 e2
          generalize hX : R.getD k default = X at *
          have R1 := Lib.hid r1
          have R2' := Lib.hid r2
          have X1 := Lib.hid x1
          clear r1 r2 x1 x2 hX
          go_wp2_with fail
          refine wp_region_quiet_lit (by kernel_rfl) (by kernel_rfl) ?_
          repeat (first
            | (refine BigFrame.wpQuiet_want rfl (fun K hK => ?_); refine quiet_load_mid 43 _ rfl b (o + k * 2) rfl _ _ (fun w' ⟨n, e⟩ => e ▸ R1.out) Tryd.underlying43 rfl (sizePartL X) ?_; refine hK _ ?_; clear hK K; simp only [Act.put, List.setIfInBounds_toArray, List.set_cons_zero, List.set_cons_succ])
            | (refine BigFrame.wpQuiet_want rfl (fun K hK => ?_); refine quiet_load_mid 43 _ rfl b' (o' + k * 2) rfl _ _ (fun w' ⟨n, e⟩ => e ▸ R2'.out) Tryd.underlying43 rfl (sizePartL X) ?_; refine hK _ ?_; clear hK K; simp only [Act.put, List.setIfInBounds_toArray, List.set_cons_zero, List.set_cons_succ])
            | (refine BigFrame.wpQuiet_want rfl (fun K hK => ?_); refine quiet_neq 43 _ _ _ rfl _ _ rfl rfl (by kernel_rfl) (decide (X = X)) (fun w' => eqPart X X w') ?_; rw [decide_eq_true rfl]; refine hK _ ?_; clear hK K; simp only [Act.put, Bool.not_true, List.setIfInBounds_toArray, List.set_cons_zero, List.set_cons_succ])
            | (go_big_quiet_step (fail)))
          refine wpQuiet_nil ?_
          rintro w' ⟨n, rfl⟩
          have HBn := Lib.hid (below_drewN HBk.out n)
          generalize wr.drewN n = w4 at *
          go_wp2_with fail
          go_round
          case rel => exact ⟨k + 1, by congr 1, by omega, HBn.out⟩
          case measure => simp [intOf]; omega
        · obtain rfl : k = R.length := by omega
          have d1 : decide ((R.length : Int) < (R.length : Int)) = false := decide_eq_false (by omega)
          have d1' : decide (R.length < R.length) = false := decide_eq_false (by omega)
          go_wp2_with fail
          go_ret
          exact ⟨rfl, HB3.out.trans (HBk.out.mono HB3.out.size)⟩
end Go.Proofs.YtbmoanhdpnaocaaDoor
