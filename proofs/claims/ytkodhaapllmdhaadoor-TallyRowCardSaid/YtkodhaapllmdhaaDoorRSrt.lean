/- ref's Sort: each put where it belongs. -/
import Derived.Test.YtkodhaapllmdhaaDoorTal6
import Derived.Laws.OwnMore
import Derived.Deep.CutRange
import Derived.Deep.CutBlock
namespace Go.Proofs.YtkodhaapllmdhaaDoor
open Go.RowKit Rk Go.Sort
theorem ins_nat (r : List Nat) (x k : Nat) (h1 : ∀ j, j < k → r.getD j 0 ≤ x) (h2 : ∀ j, k ≤ j → j < r.length → x ≤ r.getD j 0) (hs : r.Pairwise (· ≤ ·)) : (r.take k ++ x :: r.drop k).Pairwise (· ≤ ·) := by
  have g1 : ∀ a ∈ r.take k, a ≤ x := by
    intro a ha
    obtain ⟨j, hj, rfl⟩ := List.mem_iff_getElem.1 ha
    have hj' := hj
    rw [List.length_take] at hj'
    have := h1 j (by omega)
    rw [List.getD_eq_getElem?_getD, List.getElem?_eq_getElem (by omega)] at this
    rw [List.getElem_take]; exact this
  have g2 : ∀ a ∈ r.drop k, x ≤ a := by
    intro a ha
    obtain ⟨j, hj, rfl⟩ := List.mem_iff_getElem.1 ha
    have hj' := hj
    rw [List.length_drop] at hj'
    have := h2 (k + j) (by omega) (by omega)
    rw [List.getD_eq_getElem?_getD, List.getElem?_eq_getElem (by omega)] at this
    rw [List.getElem_drop]; exact this
  rw [List.pairwise_append]
  refine ⟨hs.sublist (List.take_sublist _ _), ?_, ?_⟩
  · rw [List.pairwise_cons]
    exact ⟨g2, hs.sublist (List.drop_sublist _ _)⟩
  · intro a ha b hb
    rcases List.mem_cons.1 hb with rfl | hb
    · exact g1 a ha
    · exact Nat.le_trans (g1 a ha) (g2 b hb)
theorem sorted_le (r : List Nat) (hs : r.Pairwise (· ≤ ·)) (i j : Nat) (hij : i ≤ j) (hj : j < r.length) : r.getD i 0 ≤ r.getD j 0 := by
  rw [List.getD_eq_getElem?_getD, List.getElem?_eq_getElem (by omega), List.getD_eq_getElem?_getD, List.getElem?_eq_getElem hj]
  rcases Nat.lt_or_eq_of_le hij with h | rfl
  · exact List.pairwise_iff_getElem.1 hs i j (by omega) hj h
  · exact Nat.le_refl _
theorem ins_perm (r : List Nat) (x k : Nat) : (r.take k ++ x :: r.drop k).Perm (r ++ [x]) := by
  refine List.perm_middle.trans ?_
  rw [List.take_append_drop]
  exact (List.perm_append_singleton x r).symm
theorem cf_pos' (a b : Nat) : 0 < cf a b ↔ rk b < rk a := by
  unfold cf; split
  · omega
  · split <;> omega
theorem getD_map_rk (m : List Nat) (t : Nat) (ht : t < m.length) : (m.map rk).getD t 0 = rk (m.getD t 0) := by
  rw [List.getD_eq_getElem?_getD, List.getElem?_map, List.getElem?_eq_getElem ht, List.getD_eq_getElem?_getD, List.getElem?_eq_getElem ht]; rfl
theorem ins_all (m l : List Nat) (x j k : Nat) (hm : m.length = k) (hj : j ≤ k) (hlt : k < l.length) (hx : l.getD k 0 = x)
    (hS : (m.map rk).Pairwise (· ≤ ·)) (hP : (m.map rk).Perm ((l.take k).map rk)) (hG : ∀ t, j ≤ t → t < k → rk x < rk (m.getD t 0)) (hL : j = 0 ∨ rk (m.getD (j - 1) 0) ≤ rk x) :
    ((m.take j ++ x :: m.drop j).map rk).Pairwise (· ≤ ·) ∧ ((m.take j ++ x :: m.drop j).map rk).Perm ((l.take (k + 1)).map rk) := by
  have hlen : (m.map rk).length = k := by rw [List.length_map, hm]
  have e : (m.take j ++ x :: m.drop j).map rk = (m.map rk).take j ++ rk x :: (m.map rk).drop j := by simp [List.map_take, List.map_drop]
  rw [e]
  constructor
  · refine ins_nat _ _ _ (fun t ht => ?_) (fun t ht htl => ?_) hS
    · rcases hL with h | h
      · omega
      · have := sorted_le _ hS t (j - 1) (by omega) (by omega)
        rw [getD_map_rk m (j - 1) (by omega)] at this
        omega
    · rw [getD_map_rk m t (by omega)]
      exact Nat.le_of_lt (hG t ht (by omega))
  · refine (ins_perm _ _ _).trans ?_
    have e2 : l.take (k + 1) = l.take k ++ [x] := by
      rw [List.take_add_one, List.getElem?_eq_getElem hlt, ← hx, List.getD_eq_getElem?_getD, List.getElem?_eq_getElem hlt]; rfl
    rw [e2, List.map_append]
    exact hP.append_right _
theorem ins_lt (m : List Nat) (x j : Nat) (h : ∀ y ∈ m, y < 2 ^ 64) (hx : x < 2 ^ 64) : ∀ y ∈ m.take j ++ x :: m.drop j, y < 2 ^ 64 := by
  intro y hy
  rcases List.mem_append.1 hy with hy | hy
  · exact h y (List.mem_of_mem_take hy)
  · rcases List.mem_cons.1 hy with rfl | hy
    · exact hx
    · exact h y (List.mem_of_mem_drop hy)
/-- doubles as cells -/
def flL (l : List Nat) : List Value := l.map (Value.float .f64)
theorem flL_length (l : List Nat) : (flL l).length = l.length := List.length_map _
theorem flL_append (D L : List Nat) : flL (D ++ L) = flL D ++ flL L := List.map_append
theorem flL_ones (L : List Nat) : ∀ u ∈ flL L, u.oneCell' = true := by
  intro u hu
  obtain ⟨x, -, rfl⟩ := List.mem_map.1 hu
  rfl
theorem floats_cell {w : World} {ad : Addr} {cap : Nat} {L : List Nat} (h : FloatsAt w (.slice (some ad) L.length cap) L) (j : Nat) (u : Value) (hj : (flL L)[j]? = some u) : w.cell? (ad.add j) = some u := by
  obtain ⟨-, -, a, cap', e, hc⟩ := h
  cases e
  have hl := (List.getElem?_eq_some_iff.1 hj).1
  rw [flL_length] at hl
  obtain ⟨b, o, e, hq⟩ := hc j hl
  cases e
  rw [Addr.add_lit, hq, ← hj]
  unfold flL
  rw [List.getElem?_map, List.getElem?_eq_getElem hl, List.getD_eq_getElem?_getD, List.getElem?_eq_getElem hl]
  rfl
/-- a slice of doubles, and of its capacity that it holds them -/
def OutAt (B : Nat) (w : World) (v : Value) (l : List Nat) : Prop := FloatsAt w v l ∧ ((v = .slice none 0 0 ∧ l = []) ∨ ∃ q oo c, v = .slice (some ⟨q, oo, none⟩) l.length c ∧ l.length ≤ c ∧ B ≤ q)
theorem OutAt.some {B : Nat} {w : World} {v : Value} {l : List Nat} (h : OutAt B w v l) : ∃ a c, v = .slice a l.length c ∧ l.length ≤ c := by
  rcases h.2 with ⟨h1, h2⟩ | ⟨q, oo, c, h1, h2, -⟩
  · exact ⟨none, 0, by rw [h1, h2]; rfl, by rw [h2]; exact Nat.le_refl _⟩
  · exact ⟨_, c, h1, h2⟩
theorem owns_floats {w : World} {B : Nat} {v : Value} {L : List Nat} (h : w.ownsRow B 22 1 v L.length (flL L)) (hm : L.length ≤ maxLen) (hx : ∀ x ∈ L, x < 2 ^ 64) : OutAt B w v L := by
  rcases h.2 with ⟨h1, h2⟩ | ⟨g, cap, cur, h1, -, h3, hnc, -, -, h4⟩
  · refine ⟨⟨hx, hm, none, 0, by rw [h1, h2], fun i hi => by omega⟩, .inl ⟨by rw [h1], List.eq_nil_of_length_eq_zero h2⟩⟩
  · refine ⟨⟨hx, hm, _, cap, h1, fun i hi => ⟨g, 0, rfl, ?_⟩⟩, .inr ⟨g, 0, cap, h1, hnc, (h.lt g (by rw [h1]; rfl)).1⟩⟩
    rw [Nat.zero_add, cell_of_row w g _ _ _ _ h3, ← Array.getElem?_toList]
    have : (flL L)[i]? = some (.float .f64 (L.getD i 0)) := by
      unfold flL
      rw [List.getElem?_map, List.getElem?_eq_getElem hi, List.getD_eq_getElem?_getD, List.getElem?_eq_getElem hi]
      rfl
    rw [← h4, List.getElem?_take_of_lt (by rw [Nat.mul_one]; exact hi)] at this
    exact this
theorem owns_mono {w : World} {B B' : Nat} {e : TypeId} {size : Nat} {v : Value} {n : Nat} {xs : List Value} (h : w.ownsRow B e size v n xs) (hb : B' ≤ B) : w.ownsRow B' e size v n xs := by
  refine ⟨h.1, ?_⟩
  rcases h.2 with h | ⟨g, cap, cur, h1, h2, h3⟩
  · exact .inl h
  · exact .inr ⟨g, cap, cur, h1, Nat.le_trans hb h2, h3⟩
theorem owns_slice {w : World} {B : Nat} {e : TypeId} {size : Nat} {v : Value} {n : Nat} {xs : List Value} (h : w.ownsRow B e size v n xs) : ∃ a cap, v = .slice a n cap ∧ n ≤ cap := by
  rcases h.2 with ⟨h1, h2⟩ | ⟨g, cap, cur, h1, -, -, hnc, -⟩
  · exact ⟨none, 0, by rw [h1, h2], by omega⟩
  · exact ⟨_, cap, h1, hnc⟩
theorem run_append_floats (w : World) (base : Nat) (ty : TypeId) (v x : Value) (D L : List Nat) (hown : w.ownsRow base 22 1 v D.length (flL D)) (hin : FloatsAt w x L) (hb : D.length + L.length ≤ 1000) (hbase : base ≤ w.heap.size) :
    ∃ v' w', (Builtin.append_ #[35, 35] ty #[v, x]).run Tryd.prog w = .ok v' w' ∧ w'.ownsRow base 22 1 v' (D ++ L).length (flL (D ++ L)) ∧ Below base w w' := by
  obtain ⟨i0, hi, hii⟩ := Option.map_eq_some_iff.1 infoD
  simp only [Prod.mk.injEq] at hii
  obtain ⟨hz0, hz1, hz2⟩ := hii
  have hin' := hin
  obtain ⟨-, -, a, cap, rfl, hc⟩ := hin'
  cases a with
  | some ad =>
    obtain ⟨v', w', hr, h1, h2, -⟩ := run_append_own (P := Tryd.prog) w base 35 ty 22 i0 _ 1 8 Tryd.underlying35 hi hz0 hz1 hz2 rfl (by decide) v D.length (flL D) hown ad L.length cap (flL L) (by rw [flL_length, Nat.mul_one]) (floats_cell hin) (flL_ones L) (by unfold maxLen; omega) (by omega) hbase
    refine ⟨v', w', hr, ?_, (Below.refl _ _).grown h2 hbase (fun j hj => (hown.lt j hj).1)⟩
    rw [flL_append, List.length_append]
    exact h1
  | none =>
    have hL : L = [] := by
      cases L with
      | nil => rfl
      | cons S L => obtain ⟨b, o, e, -⟩ := hc 0 (by simp); cases e
    subst hL
    refine ⟨v, w, ?_, by rw [List.append_nil]; exact hown, Below.refl _ _⟩
    obtain ⟨base', cap', rfl, hcap⟩ := owns_slice hown
    have hle : D.length + 0 ≤ cap' := hcap
    cases base' <;> simp [Builtin.append_, run_underlying Tryd.underlying35, sizeOf, typeInfo, hi, Builtin.lenOf, Builtin.firstCells, loadCells, hcap, storeCells]
theorem wp_append_floats {o : Oper} {a : Act} {w : World} {K : Act → World → Prop} {Q : Exit → Act → World → Prop} (s x : Operand)
    (ho : o.op = .call { callee := .builtin .append, args := #[s, x], argTypes := #[35, 35] }) (base : Nat) (D L : List Nat)
    (hown : w.ownsRow base 22 1 (a.eval s) D.length (flL D)) (hin : FloatsAt w (a.eval x) L) (hb : D.length + L.length ≤ 1000) (hbase : base ≤ w.heap.size)
    (h : ∀ v' w', w'.ownsRow base 22 1 v' (D ++ L).length (flL (D ++ L)) → Below base w w' → K (a.put o.dst v') w') : o.wp Tryd.prog a w K Q := by
  obtain ⟨v', w', hr, h1, h2⟩ := run_append_floats w base o.type _ _ D L hown hin hb hbase
  unfold Oper.wp execOp
  simp only [ho, resolve, invoke, builtin, Sem.run_bind, Sem.run_pure, Result.andThen_ok, List.map_toArray, List.map_cons, List.map_nil, hr]
  exact h v' w' h1 h2
theorem wpList_append_floats {ops : Array Oper} {rest : List Oper} {o : Oper} {a : Act} {w : World} {Q : Exit → Act → World → Prop} (hgd : o.guard = none) (s x : Operand)
    (ho : o.op = .call { callee := .builtin .append, args := #[s, x], argTypes := #[35, 35] }) (base : Nat) (D L : List Nat)
    (hown : w.ownsRow base 22 1 (a.eval s) D.length (flL D)) (hin : FloatsAt w (a.eval x) L) (hb : D.length + L.length ≤ 1000) (hbase : base ≤ w.heap.size)
    (h : ∀ v' w', w'.ownsRow base 22 1 v' (D ++ L).length (flL (D ++ L)) → Below base w w' → wpList Tryd.prog ops Q rest (a.put o.dst v') w') : wpList Tryd.prog ops Q (o :: rest) a w :=
  wpList_plain hgd fun _ hK => wp_append_floats s x ho base D L hown hin hb hbase fun v' w' h1 h2 => hK _ _ (h v' w' h1 h2)
theorem owns_fnone (w : World) (base : Nat) (hb : base ≤ w.heap.size) : (w.alloc (.cells #[] 22)).ownsRow base 22 1 (.slice (some ⟨w.heap.size, 0, none⟩) 0 0) 0 (flL []) :=
  World.ownsRow_made w #[] 0 hb (by simp) (by simp)
theorem floats_take {w : World} {a : Option Addr} {c : Nat} {l : List Nat} (h : FloatsAt w (.slice a l.length c) l) (k c' : Nat) (hk : k ≤ l.length) : FloatsAt w (.slice a k c') (l.take k) := by
  obtain ⟨h1, h2, a', c'', e, h3⟩ := h
  cases e
  have hl : (l.take k).length = k := by simp; omega
  refine ⟨fun x hx => h1 x (List.mem_of_mem_take hx), by omega, a, c', by rw [hl], fun i hi => ?_⟩
  rw [hl] at hi
  obtain ⟨b, o, e, hc⟩ := h3 i (by omega)
  refine ⟨b, o, e, ?_⟩
  rw [hc, List.getD_eq_getElem?_getD, List.getD_eq_getElem?_getD, List.getElem?_take_of_lt hi]
theorem floats_drop {w : World} {b o c n : Nat} {l : List Nat} (h : FloatsAt w (.slice (some ⟨b, o, none⟩) l.length c) l) (hn : l.length = n) (k c' : Nat) (hk : k ≤ n) (b' o' : Nat) (hbo : k < n → b' = b ∧ o' = o + k) : FloatsAt w (.slice (some ⟨b', o', none⟩) (n - k) c') (l.drop k) := by
  subst hn
  obtain ⟨h1, h2, a', c'', e, h3⟩ := h
  cases e
  have hl : (l.drop k).length = l.length - k := by simp
  refine ⟨fun x hx => h1 x (List.mem_of_mem_drop hx), by omega, _, c', by rw [hl], fun i hi => ?_⟩
  rw [hl] at hi
  obtain ⟨rfl, rfl⟩ := hbo (by omega)
  obtain ⟨b2, o2, e, hc⟩ := h3 (k + i) (by omega)
  cases e
  refine ⟨b', o + k, rfl, ?_⟩
  rw [show o + k + i = o + (k + i) by omega, hc, List.getD_eq_getElem?_getD, List.getD_eq_getElem?_getD, List.getElem?_drop]
set_option maxHeartbeats 3200000 in
set_option maxRecDepth 100000 in
theorem refsort_any (v : Value) (l : List Nat) (w : World) (hq : FloatsAt w v l) (hn : l.length ≤ 300) :
    Calls Tryd.prog 21 #[v] w fun e w' => ∃ u m, e = .returned u ∧ OutAt w.heap.size w' u m ∧ m.length = l.length ∧ (m.map rk).Pairwise (· ≤ ·) ∧ (m.map rk).Perm (l.map rk) ∧ Below w.heap.size w w' := by
  obtain ⟨h1, h2, a, c, rfl, h3⟩ := hq
  have HQ : Hid (FloatsAt w (.slice a l.length c) l) := Lib.hid ⟨h1, h2, a, c, rfl, h3⟩
  clear h1 h2 h3
  go_enter Tryd.func21, Tryd.ntmps21
  go_wp2_with fail
  go_loopw [3, 4] (fun u i wr => ∃ (k : Nat) (m : List Nat), i = .int .i64 k ∧ k ≤ l.length ∧ m.length = k ∧ Hid (OutAt w.heap.size wr u m) ∧ Hid ((m.map rk).Pairwise (· ≤ ·)) ∧ Hid ((m.map rk).Perm ((l.take k).map rk)) ∧ Hid (Below w.heap.size w wr)) (fun _ i _ => (l.length - intOf i).toNat)
  case atStart => exact ⟨0, [], rfl, Nat.zero_le _, rfl, Lib.hid ⟨⟨by simp, by simp, none, 0, rfl, by simp⟩, .inl ⟨rfl, rfl⟩⟩, Lib.hid (by simp), Lib.hid (by simp), Lib.hid (Below.refl _ _)⟩
  case round =>
    obtain ⟨k, m, rfl, hk, hm, hO, hS, hP, hB⟩ := hrel
    generalize hwr : wr = w1 at *
    clear hwr wr
    obtain ⟨u, c', rfl, huc⟩ := hO.out.some
    by_cases hlt : k < l.length
    · have hdk : decide (k < l.length) = true := decide_eq_true hlt
      obtain ⟨b, o, rfl, hx0⟩ : ∃ b o, a = some ⟨b, o, none⟩ ∧ w.cell? ⟨b, o + k, none⟩ = some (.float .f64 (l.getD k 0)) := by
        obtain ⟨-, -, a', c'', e, h3⟩ := HQ.out
        cases e
        exact h3 k hlt
      have hxc := (hB.out.cell (p := ⟨b, o + k, none⟩) (World.block_lt_of_cell? _ _ hx0)).trans hx0
      have hbx : b < w1.heap.size := World.block_lt_of_cell? _ _ hxc
      obtain ⟨x, HX⟩ : ∃ x, Hid (l.getD k 0 = x) := ⟨_, rfl⟩
      have hxl : x < 2 ^ 64 := by rw [← HX.out]; exact getD_lt HQ.out.1 k
      have HXL := Lib.hid hxl
      rw [HX.out] at hxc
      clear hx0 hxl
      go_upto_block 2 with fail
      go_cut [5] from 7 to 48 (fun i wx => ∃ j : Nat, i = .int .i64 j ∧ j ≤ k ∧ Hid (∀ t, j ≤ t → t < k → rk x < rk (m.getD t 0)) ∧ Hid (j = 0 ∨ rk (m.getD (j - 1) 0) ≤ rk x) ∧ Hid (Below w1.heap.size w1 wx))
      case first =>
        go_wp2_with fail
        go_loopw [5] (fun i wx => ∃ j : Nat, i = .int .i64 j ∧ j ≤ k ∧ Hid (∀ t, j ≤ t → t < k → rk x < rk (m.getD t 0)) ∧ Hid (Below w1.heap.size w1 wx)) (fun i _ => (intOf i).toNat)
        case atStart => exact ⟨k, rfl, Nat.le_refl _, Lib.hid (fun t h1 h2 => by omega), Lib.hid (Below.refl _ _)⟩
        case round =>
          obtain ⟨j, rfl, hj, hG, hBj⟩ := hrel
          have hs1 := hBj.out.size
          have hout : ∀ t, t < k → ∃ q oo, u = some ⟨q, oo, none⟩ ∧ q < w1.heap.size ∧ w1.cell? ⟨q, oo + t, none⟩ = some (.float .f64 (m.getD t 0)) := fun t ht => by
            obtain ⟨⟨-, -, a', c'', e, h3⟩, -⟩ := hO.out
            cases e
            obtain ⟨q, oo, e, hc⟩ := h3 t (by omega)
            exact ⟨q, oo, e, World.block_lt_of_cell? _ _ hc, hc⟩
          by_cases hj0 : j = 0
          · subst hj0
            clear hout
            go_wp2_with fail
            refine region_fam (by kernel_rfl) (by kernel_rfl) ?_
            intro ι hι F' hF hX
            repeat (go_big_quiet_step (fail))
            refine wpQuiet_nil ?_
            rintro _ ⟨n, rfl⟩
            have HBn := hF n
            generalize F' n = w2 at *
            clear hF hX n F' hι
            go_wp2_with fail
            go_meet
            case rel => exact ⟨0, rfl, Nat.zero_le _, hG, Lib.hid (.inl rfl), Lib.hid (hBj.out.trans (HBn.mono hBj.out.size))⟩
          · obtain ⟨q, oo, rfl, hq, hcell⟩ := hout (j - 1) (by omega)
            have hjp : decide (0 < j) = true := decide_eq_true (by omega)
            have hj1 : 1 ≤ j := by omega
            have hjk : j ≤ m.length := by omega
            have hj300 : j ≤ 300 := by omega
            have hkc : k ≤ 300 := by omega
            obtain ⟨y, HY⟩ : ∃ y, Hid (m.getD (j - 1) 0 = y) := ⟨_, rfl⟩
            rw [HY.out] at hcell
            have hyl : y < 2 ^ 64 := by rw [← HY.out]; exact getD_lt hO.out.1.1 _
            have hcmp := Lib.hid (fun w => ref_compare y x hyl HXL.out w)
            have hcp := cf_pos' y x
            clear hyl hout
            generalize cf y x = z at *
            by_cases hz : 0 < z
            · have hzd : decide (0 < z) = true := decide_eq_true hz
              have hlt' := Lib.hid (hcp.1 hz)
              clear hcp hz
              go_wp2_with fail
              refine region_fam (by kernel_rfl) (by kernel_rfl) ?_
              intro ι hι F' hF hX
              have q0 := fun n => ((hBj.out.trans ((hF n).mono hs1)).cell (p := ⟨q, oo + (j - 1), none⟩) hq).trans hcell
              have q1 := fun n => ((hBj.out.trans ((hF n).mono hs1)).cell (p := ⟨b, o + k, none⟩) hbx).trans hxc
              repeat (go_big_quiet_step (first
                | (go_at_call 19; exact fam_call hF hX ((hcmp.out _).mono fun _ _ ⟨he, hw⟩ => ⟨he, hw ▸ Below.refl _ _⟩))))
              refine wpQuiet_nil ?_
              rintro _ ⟨n, rfl⟩
              have HBn := hF n
              clear q0 q1
              generalize F' n = w2 at *
              clear hF hX n F' hι
              have HB2 := Lib.hid (hBj.out.trans (HBn.mono hs1))
              clear HBn hBj
              go_wp2_with fail
              go_roundw
              case rel =>
                refine ⟨j - 1, by go_num, by omega, Lib.hid (fun t h1 h2 => ?_), HB2⟩
                by_cases htj : t = j - 1
                · subst htj; rw [HY.out]; exact hlt'.out
                · exact hG.out t (by omega) h2
              case measure => simp [intOf]; omega
            · have hzd : decide (0 < z) = false := decide_eq_false hz
              have hle' : Hid (rk y ≤ rk x) := Lib.hid (by have := hcp.2; omega)
              clear hcp hz
              go_wp2_with fail
              refine region_fam (by kernel_rfl) (by kernel_rfl) ?_
              intro ι hι F' hF hX
              have q0 := fun n => ((hBj.out.trans ((hF n).mono hs1)).cell (p := ⟨q, oo + (j - 1), none⟩) hq).trans hcell
              have q1 := fun n => ((hBj.out.trans ((hF n).mono hs1)).cell (p := ⟨b, o + k, none⟩) hbx).trans hxc
              repeat (go_big_quiet_step (first
                | (go_at_call 19; exact fam_call hF hX ((hcmp.out _).mono fun _ _ ⟨he, hw⟩ => ⟨he, hw ▸ Below.refl _ _⟩))))
              refine wpQuiet_nil ?_
              rintro _ ⟨n, rfl⟩
              have HBn := hF n
              clear q0 q1
              generalize F' n = w2 at *
              clear hF hX n F' hι
              have HB2 := Lib.hid (hBj.out.trans (HBn.mono hs1))
              clear HBn hBj
              go_wp2_with fail
              go_meet
              case rel => exact ⟨j, rfl, hj, hG, Lib.hid (.inr (by rw [HY.out]; exact hle'.out)), HB2⟩
      case rest =>
        obtain ⟨j, rfl, hj, hG, hL, hBx⟩ := hcut
        have hk300 : k ≤ 300 := by omega
        have hjm : j ≤ m.length := by omega
        have hO0 := owns_fnone wc wc.heap.size (Nat.le_refl _)
        have hB0 : Below wc.heap.size wc (wc.alloc (.cells #[] 22)) := (Below.refl _ wc).alloc (Nat.le_refl _) _
        have hI0 : FloatsAt (wc.alloc (.cells #[] 22)) (.slice u j c') (m.take j) := (floats_take (hO.out.1.below hBx.out) j c' hjm).below hB0
        have hn0 : ([] : List Nat).length + (m.take j).length ≤ 1000 := by simp; omega
        have hs0 : wc.heap.size ≤ (wc.alloc (.cells #[] 22)).heap.size := hB0.size
        have hxw : wc.cell? ⟨b, o + k, none⟩ = some (.float .f64 x) := (hBx.out.cell (p := ⟨b, o + k, none⟩) hbx).trans hxc
        have hbw : b < wc.heap.size := World.block_lt_of_cell? _ _ hxw
        have HBW := Lib.hid (hB.out.trans (hBx.out.mono hB.out.size))
        have hbs := HBW.out.size
        rcases hO.out.2 with ⟨e1, e2⟩ | ⟨q, oo, c2, e1, hc2⟩
        · injection e1 with e1a e1b e1c
          subst e1a e1c e2
          have hk0 : k = 0 := hm.symm
          subst hk0
          have hj0 : j = 0 := by omega
          subst hj0
          rw [Nat.add_zero] at hxw
          go_wp2_with (first
            | (refine wpList_append_floats rfl (.tmp 32) (.tmp 35) rfl wc.heap.size [] [] hO0 hI0 hn0 hs0 ?_
               intro v2 w2 hO2 hb2
               rw [List.nil_append] at hO2
               have hb2' : Below wc.heap.size wc w2 := hB0.trans hb2
               have hx2 := (hb2'.cell (p := ⟨b, o, none⟩) hbw).trans hxw
               have hs2 := hb2'.size
               have hO3 := hO2.alloc (.cells #[.float .f64 x] 22)
               have hI3 := floats_new w2 [x] 22 (by intro y hy; rw [List.mem_singleton.1 hy]; exact HXL.out) (by simp)
               have hn3 : ([] : List Nat).length + [x].length ≤ 1000 := by simp
               have hb3' := hb2'.alloc hs2 (.cells #[.float .f64 x] 22)
               have hs3 := hb3'.size)
            | (refine wpList_append_floats rfl (.tmp 37) (.tmp 42) rfl wc.heap.size [] [x] hO3 hI3 hn3 hs3 ?_
               intro v3 w3 hO4 hb4
               have hb4' := hb3'.trans hb4
               have hs4 := hb4'.size
               have hD4 : FloatsAt w3 (.slice none 0 0) [] := ⟨by simp, by simp [maxLen], none, 0, rfl, by simp⟩
               have hn4 : (([] : List Nat) ++ [x]).length + ([] : List Nat).length ≤ 1000 := by simp)
            | (refine wpList_append_floats rfl (.tmp 44) (.tmp 47) rfl wc.heap.size ([] ++ [x]) [] hO4 hD4 hn4 hs4 ?_
               intro v5 w5 hO5 hb5
               have hb5' := HBW.out.trans ((hb4'.trans hb5).mono hbs)
               rw [List.append_assoc, List.singleton_append] at hO5))
          have hfin := ins_all [] l x 0 0 rfl (Nat.le_refl _) hlt HX.out hS.out hP.out hG.out (.inl rfl)
          refine ⟨⟨0 + 1, [] ++ x :: [], by go_num, hlt, by simp, Lib.hid (owns_floats (owns_mono hO5 hbs) (by simp [maxLen]) (ins_lt [] x 0 (by simp) HXL.out)), Lib.hid hfin.1, Lib.hid hfin.2, Lib.hid hb5'⟩, ?_⟩
          simp only [intOf]; omega
        · injection e1 with e1a e1b e1c
          subst e1a e1c
          by_cases hcj : c' = j
          · subst hcj
            have hD0 : FloatsAt wc (.slice (some ⟨q, oo, none⟩) m.length c') m := hO.out.1.below hBx.out
            go_wp2_with (first
              | (refine wpList_append_floats rfl (.tmp 32) (.tmp 35) rfl wc.heap.size [] (m.take c') hO0 hI0 hn0 hs0 ?_
                 intro v2 w2 hO2 hb2
                 rw [List.nil_append] at hO2
                 have hb2' : Below wc.heap.size wc w2 := hB0.trans hb2
                 have hx2 := (hb2'.cell (p := ⟨b, o + k, none⟩) hbw).trans hxw
                 have hs2 := hb2'.size
                 have hO3 := hO2.alloc (.cells #[.float .f64 x] 22)
                 have hI3 := floats_new w2 [x] 22 (by intro y hy; rw [List.mem_singleton.1 hy]; exact HXL.out) (by simp)
                 have hn3 : (m.take c').length + [x].length ≤ 1000 := by simp; omega
                 have hb3' := hb2'.alloc hs2 (.cells #[.float .f64 x] 22)
                 have hs3 := hb3'.size)
              | (refine wpList_append_floats rfl (.tmp 37) (.tmp 42) rfl wc.heap.size (m.take c') [x] hO3 hI3 hn3 hs3 ?_
                 intro v3 w3 hO4 hb4
                 have hb4' := hb3'.trans hb4
                 have hs4 := hb4'.size
                 have hD4 := floats_drop (hD0.below hb4') hm c' 0 hj q oo (fun h => absurd h (by omega))
                 have hn4 : (m.take c' ++ [x]).length + (m.drop c').length ≤ 1000 := by simp; omega)
              | (refine wpList_append_floats rfl (.tmp 44) (.tmp 47) rfl wc.heap.size (m.take c' ++ [x]) (m.drop c') hO4 hD4 hn4 hs4 ?_
                 intro v5 w5 hO5 hb5
                 have hb5' := HBW.out.trans ((hb4'.trans hb5).mono hbs)
                 rw [List.append_assoc, List.singleton_append] at hO5))
            have hfin := ins_all m l x c' k hm hj hlt HX.out hS.out hP.out hG.out hL.out
            refine ⟨⟨k + 1, m.take c' ++ x :: m.drop c', by go_num, hlt, by simp; omega, Lib.hid (owns_floats (owns_mono hO5 hbs) (by simp [maxLen]; omega) (ins_lt m x c' hO.out.1.1 HXL.out)), Lib.hid hfin.1, Lib.hid hfin.2, Lib.hid hb5'⟩, ?_⟩
            simp only [intOf]; omega
          · have hD0 : FloatsAt wc (.slice (some ⟨q, oo, none⟩) m.length c') m := hO.out.1.below hBx.out
            go_wp2_with (first
              | (refine wpList_append_floats rfl (.tmp 32) (.tmp 35) rfl wc.heap.size [] (m.take j) hO0 hI0 hn0 hs0 ?_
                 intro v2 w2 hO2 hb2
                 rw [List.nil_append] at hO2
                 have hb2' : Below wc.heap.size wc w2 := hB0.trans hb2
                 have hx2 := (hb2'.cell (p := ⟨b, o + k, none⟩) hbw).trans hxw
                 have hs2 := hb2'.size
                 have hO3 := hO2.alloc (.cells #[.float .f64 x] 22)
                 have hI3 := floats_new w2 [x] 22 (by intro y hy; rw [List.mem_singleton.1 hy]; exact HXL.out) (by simp)
                 have hn3 : (m.take j).length + [x].length ≤ 1000 := by simp; omega
                 have hb3' := hb2'.alloc hs2 (.cells #[.float .f64 x] 22)
                 have hs3 := hb3'.size)
              | (refine wpList_append_floats rfl (.tmp 37) (.tmp 42) rfl wc.heap.size (m.take j) [x] hO3 hI3 hn3 hs3 ?_
                 intro v3 w3 hO4 hb4
                 have hb4' := hb3'.trans hb4
                 have hs4 := hb4'.size
                 have hD4 := floats_drop (hD0.below hb4') hm j (c' - j) hj q (oo + j) (fun _ => ⟨rfl, rfl⟩)
                 have hn4 : (m.take j ++ [x]).length + (m.drop j).length ≤ 1000 := by simp; omega)
              | (refine wpList_append_floats rfl (.tmp 44) (.tmp 47) rfl wc.heap.size (m.take j ++ [x]) (m.drop j) hO4 hD4 hn4 hs4 ?_
                 intro v5 w5 hO5 hb5
                 have hb5' := HBW.out.trans ((hb4'.trans hb5).mono hbs)
                 rw [List.append_assoc, List.singleton_append] at hO5))
            have hfin := ins_all m l x j k hm hj hlt HX.out hS.out hP.out hG.out hL.out
            refine ⟨⟨k + 1, m.take j ++ x :: m.drop j, by go_num, hlt, by simp; omega, Lib.hid (owns_floats (owns_mono hO5 hbs) (by simp [maxLen]; omega) (ins_lt m x j hO.out.1.1 HXL.out)), Lib.hid hfin.1, Lib.hid hfin.2, Lib.hid hb5'⟩, ?_⟩
            simp only [intOf]; omega
    · have hdk : decide (k < l.length) = false := decide_eq_false hlt
      have hkl : k = l.length := by omega
      subst hkl
      go_wp2_with fail
      go_ret
      have hP' := hP.out
      rw [List.take_length] at hP'
      exact ⟨_, m, rfl, hO.out, hm, hS.out, hP', hB.out⟩
end Go.Proofs.YtkodhaapllmdhaaDoor
