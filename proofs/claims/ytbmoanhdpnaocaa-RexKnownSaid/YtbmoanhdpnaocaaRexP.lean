/- Parse's deferred function. -/
import Derived.Test.YtbmoanhdpnaocaaRexL
import Derived.Test.YtbmoanhdpnaocaaRexO
namespace Go.Proofs.Ytbmoanhdpnaocaa
open Go.RowKit Sets Tr Rx
theorem wpList_put_tree {ops : Array Oper} {rest : List Oper} {o : Oper} {a : Act} {w : World} {Q : Exit → Act → World → Prop} (hgd : o.guard = none) (x y : Operand)
    (ho : o.op = .store 27 x y) (g : Nat) (a1 a2 : Option Addr) (n1 c1 n2 c2 : Nat) (hx : a.eval x = .pointer (some ⟨g, 0, none⟩)) (hy : a.eval y = .agg #[.slice a1 n1 c1, .slice a2 n2 c2]) (u v : Value)
    (hg : w.heap[g]? = some (.cells #[u, v] 27 (0, 0)))
    (h : wpList Try.prog ops Q rest (a.put o.dst undef) (w.setRow g #[.slice a1 n1 c1, .slice a2 n2 c2])) : wpList Try.prog ops Q (o :: rest) a w :=
  wpList_store_row hgd 27 x y ho g #[.slice a1 n1 c1, .slice a2 n2 c2] hx hy 27 #[u, v] hg sizeTree' rfl (by simp [Value.oneCell']) h
theorem quit_idle (a b c : Addr) (w : World) :
    CallsD Try.prog 11 #[.pointer (some a), .pointer (some b), .pointer (some c)] .returning w fun e u' w' => e = .returned (.tuple #[]) ∧ u' = .returning ∧ w' = w := by
  refine callsD_of_wpS Try.func11 rfl fun c₀ cs hu => ?_
  simp only [Try.ntmps11, List.size_toArray, List.length_cons, List.length_nil, Nat.reduceAdd, Nat.reduceSub, Array.replicate_succ, Array.replicate_zero, List.push_toArray, List.append_toArray, List.nil_append, List.cons_append]
  apply wpS_seq
  apply wpS_region
  simp [wpOpsS, go_sem, recoverD, hu, Exit.thenS]
  refine wpS_of_wp ?_
  go_wp2
  cases c₀
  simp_all [bodyPostS, results, Try.results11]
/-- what the deferred function leaves: the results' three cells -/
def Left (u v : Value) (g p : Nat) (er : Int) (w w' : World) : Prop := w' = ((w.setRow g #[u, v]).setCell ⟨g + 1, 0, none⟩ (.int .i64 p)).setCell ⟨g + 2, 0, none⟩ (.int .i64 er)
theorem left_heap {u v : Value} {g p : Nat} {er : Int} {w0 w w' : World} (h : Left u v g p er w w') (h0 : w.heap[g]? = some (.cells #[.slice none 0 0, .slice none 0 0] 27 (0, 0)))
    (h1 : w.heap[g + 1]? = some (.cells #[.int .i64 0] 3 (0, 0))) (h2 : w.heap[g + 2]? = some (.cells #[.int .i64 0] 28 (0, 0))) (hB : Below w0.heap.size w0 w) (hg : g = w0.heap.size) :
    w'.heap[g]? = some (.cells #[u, v] 27 (0, 0)) ∧ w'.cell? ⟨g + 1, 0, none⟩ = some (.int .i64 p) ∧ w'.cell? ⟨g + 1 + 1, 0, none⟩ = some (.int .i64 er) ∧ Below w0.heap.size w0 w' ∧ ∀ k, k ≠ g → k ≠ g + 1 → k ≠ g + 2 → w'.heap[k]? = w.heap[k]? := by
  unfold Left at h
  subst h
  have o0 := setRow_heap w g _ #[u, v] 27 (0, 0) h0
  have o1 := (setRow_other w g (g + 1) #[u, v] (by omega)).trans h1
  have o2 := (setRow_other w g (g + 2) #[u, v] (by omega)).trans h2
  have o3 := fun k (hk : k ≠ g) => setRow_other w g k #[u, v] hk
  have hsz : (w.setRow g #[u, v]).heap.size = w.heap.size := by simp [World.setRow]
  refine ⟨?_, ?_, ?_, ?_, ?_⟩
  · rw [Below.heap_setCell _ _ _ _ (by simp only; omega), Below.heap_setCell _ _ _ _ (by simp only; omega)]
    exact o0
  · have e : (((w.setRow g #[u, v]).setCell ⟨g + 1, 0, none⟩ (.int .i64 p)).setCell ⟨g + 2, 0, none⟩ (.int .i64 er)).heap[g + 1]? = some (.cells #[.int .i64 p] 3 (0, 0)) := by
      rw [Below.heap_setCell _ _ _ _ (by simp only; omega)]
      simp [World.setCell, Array.getElem?_modify, o1]
    simp [World.cell?, e]
  · have e : (((w.setRow g #[u, v]).setCell ⟨g + 1, 0, none⟩ (.int .i64 p)).setCell ⟨g + 2, 0, none⟩ (.int .i64 er)).heap[g + 1 + 1]? = some (.cells #[.int .i64 er] 28 (0, 0)) := by
      have e1 : ((w.setRow g #[u, v]).setCell ⟨g + 1, 0, none⟩ (.int .i64 p)).heap[g + 2]? = some (.cells #[.int .i64 0] 28 (0, 0)) := by
        rw [Below.heap_setCell _ _ _ _ (by simp only; omega)]; exact o2
      generalize (w.setRow g #[u, v]).setCell ⟨g + 1, 0, none⟩ (.int .i64 p) = w1 at *
      simp [World.setCell, Array.getElem?_modify, e1]
    simp [World.cell?, e]
  · refine hB.trans ⟨rfl, rfl, rfl, by simp [World.setRow], fun k hk => ?_⟩
    rw [Below.heap_setCell _ _ _ _ (by simp only; omega), Below.heap_setCell _ _ _ _ (by simp only; omega)]
    exact o3 k (by omega)
  · intro k k0 k1 k2
    rw [Below.heap_setCell _ _ _ _ (by simp only; omega), Below.heap_setCell _ _ _ _ (by simp only; omega)]
    exact o3 k k0
set_option maxHeartbeats 800000 in
theorem quit_wrong (g p : Nat) (w : World) (older : List PanicEntry) (h0 : w.heap[g]? = some (.cells #[.slice none 0 0, .slice none 0 0] 27 (0, 0)))
    (h1 : w.heap[g + 1]? = some (.cells #[.int .i64 0] 3 (0, 0))) (h2 : w.heap[g + 2]? = some (.cells #[.int .i64 0] 28 (0, 0))) :
    CallsD Try.prog 11 #[.pointer (some ⟨g, 0, none⟩), .pointer (some ⟨g + 1, 0, none⟩), .pointer (some ⟨g + 2, 0, none⟩)] (.panicking ({ v := pnc false p, recovered := false } :: older)) w fun e u' w' =>
      u' = .panicking ({ v := pnc false p, recovered := true } :: older) ∧ Left (.slice none 0 0) (.slice none 0 0) g p 8 w w' ∧ e = .returned (.tuple #[]) := by
  refine callsD_of_wpS Try.func11 rfl fun c₀ cs hu => ?_
  simp only [Try.ntmps11, List.size_toArray, List.length_cons, List.length_nil, Nat.reduceAdd, Nat.reduceSub, Array.replicate_succ, Array.replicate_zero, List.push_toArray, List.append_toArray, List.nil_append, List.cons_append]
  have a1 : ∀ (W : World) (v : Value), (Instr.typeAssert (.iface 42 v) 20 42 true).run Try.prog W = .ok (.tuple #[v, .bool true]) W := fun W v => by kernel_rfl
  have c1 : ∀ w : World, w.heap[g + 1]? = some (.cells #[.int .i64 0] 3 (0, 0)) → w.cell? ⟨g + 1, 0, none⟩ = some (.int .i64 0) ∧ w.frozen? ⟨g + 1, 0, none⟩ = false := fun w h => ⟨by simp [World.cell?, h], by simp [World.frozen?, h]⟩
  have c2 : ∀ w : World, w.heap[g + 2]? = some (.cells #[.int .i64 0] 28 (0, 0)) → w.cell? ⟨g + 2, 0, none⟩ = some (.int .i64 0) ∧ w.frozen? ⟨g + 2, 0, none⟩ = false := fun w h => ⟨by simp [World.cell?, h], by simp [World.frozen?, h]⟩
  have o1 := (setRow_other w g (g + 1) #[.slice none 0 0, .slice none 0 0] (by omega)).trans h1
  have o2 := (setRow_other w g (g + 2) #[.slice none 0 0, .slice none 0 0] (by omega)).trans h2
  obtain ⟨d1, e1⟩ := c1 _ o1
  obtain ⟨d2, e2⟩ := c2 _ o2
  clear c1 c2 o1 o2 h1 h2
  have H0 := Lib.hid h0
  clear h0
  unfold pnc at *
  apply wpS_seq
  apply wpS_region
  simp [wpOpsS, go_sem, recoverD, hu, Exit.thenS]
  refine wpS_of_wp ?_
  go_wp2_with (refine wpList_put_tree rfl _ _ rfl g _ _ _ _ _ _ rfl rfl (.slice none 0 0) (.slice none 0 0) H0.out ?_)
  unfold Left
  cases c₀
  simp_all [bodyPostS, results, Try.results11]
set_option maxHeartbeats 800000 in
theorem quit_long (g p : Nat) (w : World) (older : List PanicEntry) (h0 : w.heap[g]? = some (.cells #[.slice none 0 0, .slice none 0 0] 27 (0, 0)))
    (h1 : w.heap[g + 1]? = some (.cells #[.int .i64 0] 3 (0, 0))) (h2 : w.heap[g + 2]? = some (.cells #[.int .i64 0] 28 (0, 0))) :
    CallsD Try.prog 11 #[.pointer (some ⟨g, 0, none⟩), .pointer (some ⟨g + 1, 0, none⟩), .pointer (some ⟨g + 2, 0, none⟩)] (.panicking ({ v := pnc true p, recovered := false } :: older)) w fun e u' w' =>
      u' = .panicking ({ v := pnc true p, recovered := true } :: older) ∧ Left (.slice none 0 0) (.slice none 0 0) g p 3 w w' ∧ e = .returned (.tuple #[]) := by
  refine callsD_of_wpS Try.func11 rfl fun c₀ cs hu => ?_
  simp only [Try.ntmps11, List.size_toArray, List.length_cons, List.length_nil, Nat.reduceAdd, Nat.reduceSub, Array.replicate_succ, Array.replicate_zero, List.push_toArray, List.append_toArray, List.nil_append, List.cons_append]
  have a1 : ∀ (W : World) (v : Value), (Instr.typeAssert (.iface 43 v) 20 42 true).run Try.prog W = .ok (.tuple #[.int .i64 0, .bool false]) W := fun W v => by kernel_rfl
  have a2 : ∀ (W : World) (v : Value), (Instr.typeAssert (.iface 43 v) 20 43 true).run Try.prog W = .ok (.tuple #[v, .bool true]) W := fun W v => by kernel_rfl
  have c1 : ∀ w : World, w.heap[g + 1]? = some (.cells #[.int .i64 0] 3 (0, 0)) → w.cell? ⟨g + 1, 0, none⟩ = some (.int .i64 0) ∧ w.frozen? ⟨g + 1, 0, none⟩ = false := fun w h => ⟨by simp [World.cell?, h], by simp [World.frozen?, h]⟩
  have c2 : ∀ w : World, w.heap[g + 2]? = some (.cells #[.int .i64 0] 28 (0, 0)) → w.cell? ⟨g + 2, 0, none⟩ = some (.int .i64 0) ∧ w.frozen? ⟨g + 2, 0, none⟩ = false := fun w h => ⟨by simp [World.cell?, h], by simp [World.frozen?, h]⟩
  have o1 := (setRow_other w g (g + 1) #[.slice none 0 0, .slice none 0 0] (by omega)).trans h1
  have o2 := (setRow_other w g (g + 2) #[.slice none 0 0, .slice none 0 0] (by omega)).trans h2
  obtain ⟨d1, e1⟩ := c1 _ o1
  obtain ⟨d2, e2⟩ := c2 _ o2
  clear c1 c2 o1 o2 h1 h2
  have H0 := Lib.hid h0
  clear h0
  unfold pnc at *
  apply wpS_seq
  apply wpS_region
  simp [wpOpsS, go_sem, recoverD, hu, Exit.thenS]
  refine wpS_of_wp ?_
  go_wp2_with (refine wpList_put_tree rfl _ _ rfl g _ _ _ _ _ _ rfl rfl (.slice none 0 0) (.slice none 0 0) H0.out ?_)
  unfold Left
  cases c₀
  simp_all [bodyPostS, results, Try.results11]
theorem load_int (w : World) (t : TypeId) (ht : (isAgg t).run Try.prog w = .ok false w) (a : Addr) (v : Value) (h : w.cell? a = some v) : (loadVar t a).run Try.prog w = .ok v w := by
  unfold loadVar
  simp [Sem.run_bind, ht, h, go_sem]
theorem results_parse (tmps : Array Value) (w : World) (g : Nat) (u v : Value) (p e : Int) (hp : tmps.getD 2 undef = .pointer (some ⟨g, 0, none⟩)) (hq : tmps.getD 3 undef = .pointer (some ⟨g + 1, 0, none⟩)) (hr : tmps.getD 4 undef = .pointer (some ⟨g + 1 + 1, 0, none⟩))
    (h0 : w.heap[g]? = some (.cells #[u, v] 27 (0, 0))) (h1 : w.cell? ⟨g + 1, 0, none⟩ = some (.int .i64 p)) (h2 : w.cell? ⟨g + 1 + 1, 0, none⟩ = some (.int .i64 e)) :
    (results Try.f5 tmps).run Try.prog w = .ok (.tuple #[.agg #[u, v], .int .i64 p, .int .i64 e]) w := by
  have hp' : tmps[2]?.getD undef = .pointer (some ⟨g, 0, none⟩) := by simpa using hp
  have hq' : tmps[3]?.getD undef = .pointer (some ⟨g + 1, 0, none⟩) := by simpa using hq
  have hr' : tmps[4]?.getD undef = .pointer (some ⟨g + 1 + 1, 0, none⟩) := by simpa using hr
  have l1 := load_int w 3 (by kernel_rfl) _ _ h1
  have l2 := load_int w 28 (by kernel_rfl) _ _ h2
  simp [results, Try.results5, hp', hq', hr', asAddr, run_loadVar_row w g 27 27 #[u, v] (0, 0) _ h0 Try.underlying27 rfl sizeTree', l1, l2]
/-- what Parse says -/
def PO (s : ByteArray) (w : World) (e : Ending) (w' : World) : Prop :=
  match cons (by' s) with
  | .ok _ ns ps => (∃ nv pv, e = .returned (.tuple #[.agg #[nv, pv], .int .i64 0, .int .i64 0]) ∧ NodesAt w' nv ns ∧ PartsAt w' pv ps) ∧ Below w.heap.size w w'
  | .bad lg p => e = .returned (.tuple #[.agg #[.slice none 0 0, .slice none 0 0], .int .i64 (p : Nat), .int .i64 (if lg then 3 else 8)]) ∧ Below w.heap.size w w'
theorem rd_new (w : World) (s : ByteArray) : RdAt (w.alloc (.cells #[.string s, .int .i64 0, .int .i64 0, .slice none 0 0, .slice none 0 0] 45)) w.heap.size s 0 0 [] [] (.slice none 0 0) (.slice none 0 0) := by
  refine ⟨heap_alloc_new w _, ⟨by simp [nds], .inl ⟨rfl, rfl⟩⟩, ⟨by simp [pts], .inl ⟨rfl, rfl⟩⟩⟩
set_option maxHeartbeats 1600000 in
theorem parse_any (s : ByteArray) (w : World) : Calls Try.prog 5 #[.string s] w (PO s w) := by
  have hmf : ∀ (fn : Fn) (first cap : Array Value) (w : World), (Instr.makeFunc fn first cap).run Try.prog w = .ok (.func fn first cap) w := fun _ _ _ _ => rfl
  have hg := fun q ns ps => cons_good (l := by' s) (by_lt s) (q := q) (ns := ns) (ps := ps)
  have hC := constraint_any
  go_enter_defers Try.func5, Try.ntmps5
  go_wp2_with fail
  have e0 : (((w.alloc (.cells #[.slice none 0 0, .slice none 0 0] 27)).alloc (.cells #[.int .i64 0] 3)).alloc (.cells #[.int .i64 0] 28)).heap[w.heap.size]? = some (.cells #[.slice none 0 0, .slice none 0 0] 27 (0, 0)) := by
    rw [Below.heap_alloc _ _ _ (by simp; omega), Below.heap_alloc _ _ _ (by simp)]; exact heap_alloc_new w _
  have e1 : (((w.alloc (.cells #[.slice none 0 0, .slice none 0 0] 27)).alloc (.cells #[.int .i64 0] 3)).alloc (.cells #[.int .i64 0] 28)).heap[w.heap.size + 1]? = some (.cells #[.int .i64 0] 3 (0, 0)) := by
    rw [Below.heap_alloc _ _ _ (by simp)]; have := heap_alloc_new (w.alloc (.cells #[.slice none 0 0, .slice none 0 0] 27)) (.cells #[.int .i64 0] 3); simpa using this
  have e2 : (((w.alloc (.cells #[.slice none 0 0, .slice none 0 0] 27)).alloc (.cells #[.int .i64 0] 3)).alloc (.cells #[.int .i64 0] 28)).heap[w.heap.size + 2]? = some (.cells #[.int .i64 0] 28 (0, 0)) := by
    have := heap_alloc_new ((w.alloc (.cells #[.slice none 0 0, .slice none 0 0] 27)).alloc (.cells #[.int .i64 0] 3)) (.cells #[.int .i64 0] 28); simpa using this
  have e3 : (((w.alloc (.cells #[.slice none 0 0, .slice none 0 0] 27)).alloc (.cells #[.int .i64 0] 3)).alloc (.cells #[.int .i64 0] 28)).heap.size = w.heap.size + 1 + 1 + 1 := by simp
  have e4 := (((Below.refl w.heap.size w).alloc (Nat.le_refl _) (.cells #[.slice none 0 0, .slice none 0 0] 27)).alloc (by simp) (.cells #[.int .i64 0] 3)).alloc (by simp; omega) (.cells #[.int .i64 0] 28)
  generalize (((w.alloc (.cells #[.slice none 0 0, .slice none 0 0] 27)).alloc (.cells #[.int .i64 0] 3)).alloc (.cells #[.int .i64 0] 28)) = w3 at *
  have hC := hC _ s _ _ _ (rd_new w3 s)
  have ha := (Below.refl w3.heap.size w3).alloc (Nat.le_refl _) (.cells #[.string s, .int .i64 0, .int .i64 0, .slice none 0 0, .slice none 0 0] 45)
  rw [e3] at hC ha
  have HA := Lib.hid ha
  have HE0 := Lib.hid e0
  have HE1 := Lib.hid e1
  have HE2 := Lib.hid e2
  have HE3 := Lib.hid e3
  have HE4 := Lib.hid e4
  have HG := Lib.hid hg
  clear e0 e1 e2 e3 e4 ha hg
  refine hC.mono ?_
  clear hC
  intro e w' hP
  unfold PP at hP
  unfold PO
  have hg := HG.out
  clear HG
  cases hc : cons (by' s) with
  | bad lg p =>
    rw [hc] at hP
    obtain ⟨rfl, hB⟩ := hP
    have hB := HA.out.trans hB
    have r0 := (hB.block w.heap.size (by omega)).trans HE0.out
    have r1 := (hB.block (w.heap.size + 1) (by omega)).trans HE1.out
    have r2 := (hB.block (w.heap.size + 2) (by omega)).trans HE2.out
    have HB := Lib.hid (HE4.out.trans (hB.mono (by omega)))
    clear hg hc hB
    cases lg
    case false =>
      go_wp2_with fail
      refine leaves_cons (f := 11) (args := #[.pointer (some ⟨w.heap.size, 0, none⟩), .pointer (some ⟨w.heap.size + 1, 0, none⟩), .pointer (some ⟨w.heap.size + 1 + 1, 0, none⟩)]) (by simp) (by simp [go_sem]) ?_
      refine (quit_wrong w.heap.size p w' [] r0 r1 r2).mono ?_
      rintro e u' w2 ⟨rfl, hl, rfl⟩
      have hh := left_heap hl r0 r1 r2 HB.out (by omega)
      simp only [Leaves, settle, List.dropWhile_nil]
      exact ⟨_, results_parse _ w2 w.heap.size _ _ _ _ rfl rfl rfl hh.1 hh.2.1 hh.2.2.1, rfl, hh.2.2.2.1⟩
    case true =>
      go_wp2_with fail
      refine leaves_cons (f := 11) (args := #[.pointer (some ⟨w.heap.size, 0, none⟩), .pointer (some ⟨w.heap.size + 1, 0, none⟩), .pointer (some ⟨w.heap.size + 1 + 1, 0, none⟩)]) (by simp) (by simp [go_sem]) ?_
      refine (quit_long w.heap.size p w' [] r0 r1 r2).mono ?_
      rintro e u' w2 ⟨rfl, hl, rfl⟩
      have hh := left_heap hl r0 r1 r2 HB.out (by omega)
      simp only [Leaves, settle, List.dropWhile_nil]
      exact ⟨_, results_parse _ w2 w.heap.size _ _ _ _ rfl rfl rfl hh.1 hh.2.1 hh.2.2.1, rfl, hh.2.2.2.1⟩
  | ok q ns ps =>
    rw [hc] at hP
    obtain ⟨rfl, ⟨nv, pv, hR⟩, hB⟩ := hP
    have hB := HA.out.trans hB
    have hg := hg _ _ _ hc
    have HC := Lib.hid hc
    obtain ⟨na, nc, rfl⟩ := own_slice hR.on
    obtain ⟨pa, pc, rfl⟩ := own_slice hR.op
    obtain ⟨c0, c1, c2, c3, c4⟩ := hR.row.cells
    have r0 := (hB.block w.heap.size (by omega)).trans HE0.out
    have r1 := (hB.block (w.heap.size + 1) (by omega)).trans HE1.out
    have r2 := (hB.block (w.heap.size + 2) (by omega)).trans HE2.out
    have HB := Lib.hid (HE4.out.trans (hB.mono (by omega)))
    have HG := Lib.hid hg
    clear hg hc hB
    have o1 := (setRow_other w' w.heap.size (w.heap.size + 1) #[.slice na ns.length nc, .slice pa ps.length pc] (by omega)).trans r1
    have o2 := (setRow_other w' w.heap.size (w.heap.size + 1 + 1) #[.slice na ns.length nc, .slice pa ps.length pc] (by omega)).trans r2
    have d1 : (w'.setRow w.heap.size #[.slice na ns.length nc, .slice pa ps.length pc]).cell? ⟨w.heap.size + 1, 0, none⟩ = some (.int .i64 0) ∧ (w'.setRow w.heap.size #[.slice na ns.length nc, .slice pa ps.length pc]).frozen? ⟨w.heap.size + 1, 0, none⟩ = false := ⟨by simp [World.cell?, o1], by simp [World.frozen?, o1]⟩
    have d2 : (w'.setRow w.heap.size #[.slice na ns.length nc, .slice pa ps.length pc]).cell? ⟨w.heap.size + 1 + 1, 0, none⟩ = some (.int .i64 0) ∧ (w'.setRow w.heap.size #[.slice na ns.length nc, .slice pa ps.length pc]).frozen? ⟨w.heap.size + 1 + 1, 0, none⟩ = false := ⟨by simp [World.cell?, o2], by simp [World.frozen?, o2]⟩
    obtain ⟨d1, f1⟩ := d1
    obtain ⟨d2, f2⟩ := d2
    have R0 := Lib.hid r0
    have R1 := Lib.hid r1
    have R2 := Lib.hid r2
    have HR := Lib.hid hR
    clear o1 o2 r0 r1 r2 hR
    go_wp2_with (refine wpList_put_tree rfl _ _ rfl w.heap.size _ _ _ _ _ _ rfl rfl (.slice none 0 0) (.slice none 0 0) R0.out ?_)
    refine leaves_cons (f := 11) (args := #[.pointer (some ⟨w.heap.size, 0, none⟩), .pointer (some ⟨w.heap.size + 1, 0, none⟩), .pointer (some ⟨w.heap.size + 1 + 1, 0, none⟩)]) (by simp) (by simp [go_sem]) ?_
    refine (quit_idle _ _ _ _).mono ?_
    rintro e u' w2 ⟨rfl, rfl, rfl⟩
    simp only [Leaves, settle]
    have hh := left_heap (u := .slice na ns.length nc) (v := .slice pa ps.length pc) (g := w.heap.size) (p := 0) (er := 0) rfl R0.out R1.out R2.out HB.out rfl
    refine ⟨_, results_parse _ _ w.heap.size (.slice na ns.length nc) (.slice pa ps.length pc) 0 0 rfl rfl rfl hh.1 hh.2.1 hh.2.2.1, ?_⟩
    rw [PO, HC.out]
    refine ⟨⟨_, _, rfl, ?_, ?_⟩, hh.2.2.2.1⟩
    · exact own_nodes (own_kept HR.out.on (fun g hg => by have := (HR.out.on.lt g hg).1; exact hh.2.2.2.2 g (by omega) (by omega) (by omega))) (by have := HG.out.2.1; omega) HG.out.2.2.1
    · exact own_parts (own_kept HR.out.op (fun g hg => by have := (HR.out.op.lt g hg).1; exact hh.2.2.2.2 g (by omega) (by omega) (by omega))) (by have := HG.out.2.2.2.1; omega) HG.out.2.2.2.2.1
end Go.Proofs.Ytbmoanhdpnaocaa
