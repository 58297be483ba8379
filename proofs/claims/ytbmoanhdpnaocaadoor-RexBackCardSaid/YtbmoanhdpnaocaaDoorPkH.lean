/- Several texts in one. -/
import Derived.Test.YtbmoanhdpnaocaaDoorPkG
import Derived.Test.YtbmoanhdpnaocaaDoorPkB
namespace Go.Proofs.YtbmoanhdpnaocaaDoor
open Go.RowKit Sets Tr
theorem parts_ok {N : List Nd} {R : List (Int × Bool)} (h : Right N R) (hN : ∀ x ∈ N, NdOk x) : ∀ p ∈ parts N R, OkX p.1 := by
  intro p hp
  obtain ⟨q, hq, rfl⟩ := List.mem_map.1 hp
  have hq2 := h.rts q.1 (List.mem_map.2 ⟨q, hq, rfl⟩)
  obtain ⟨t, ht, hrt⟩ := is_of_low h.low q.1.toNat (by omega)
  show OkX (abs N (tr N q.1.toNat))
  rw [← hrt, tr_of ht]
  refine okX_abs h.snd (fun i hi => ?_) t ht
  exact (hN _ (by rw [List.getD_eq_getElem?_getD, List.getElem?_eq_getElem hi]; exact List.getElem_mem hi)).s
theorem parts_ne {N : List Nd} {R : List (Int × Bool)} (h : Right N R) : parts N R ≠ [] := by
  intro e
  have := congrArg List.length e
  have h1 := h.few.1
  unfold parts at this
  rw [List.length_map] at this
  simp at this
  rw [this] at h1
  simp at h1
/-- What TreePlain asks of a print. -/
theorem pr_facts {N : List Nd} {R : List (Int × Bool)} (hN : ∀ x ∈ N, NdOk x) : (∀ c ∈ prOf N R, 33 ≤ c ∧ c ≤ 126) ∧ scan (prOf N R) 0 false false = some (0, false) ∧ ((prOf N R).isEmpty = !rightB N R) ∧ dpOf N R ≤ N.length ∧ plOf N R ≤ 1073741824 := by
  by_cases h : Right N R
  · have hb := rightB_true h
    have e : prOf N R = prParts 0 (parts N R) := by unfold prOf; rw [hb]; rfl
    have hok := parts_ok h hN
    rw [e, hb]
    refine ⟨prParts_plain _ 0 hok, scan_all hok, ?_, ?_, ?_⟩
    · have := prParts_ne (parts_ne h)
      cases hh : prParts 0 (parts N R) with
      | nil => exact absurd hh this
      | cons a t => rfl
    · unfold dpOf; rw [hb]; exact depth_le h
    · unfold plOf; rw [hb]; exact Nat.min_le_right _ _
  · have hb := rightB_false h
    have e : prOf N R = [] := by unfold prOf; rw [hb]; rfl
    rw [e, hb]
    refine ⟨fun c hc => (by cases hc), rfl, rfl, ?_, ?_⟩
    · unfold dpOf; rw [hb]; exact Nat.zero_le _
    · unfold plOf; rw [hb]; exact Nat.zero_le _
theorem size_strN (P : List Nat) : (strN P).size = P.length := by
  unfold strN
  show (List.toArray _).size = _
  simp
theorem index_strN (P : List Nat) (hP : ∀ c ∈ P, c < 256) (k : Nat) (h : k < P.length) (w : World) : (Instr.index 9 (.string (strN P)) (.int .i64 k)).run Tryd.prog w = .ok (.int .u8 (P.getD k 0 : Nat)) w := by
  rw [run_index_string w _ _ _ _ Tryd.underlying9, dif_pos ⟨by omega, by rw [size_strN]; omega⟩]
  congr 3
  have hc := hP (P.getD k 0) (by rw [List.getD_eq_getElem?_getD, List.getElem?_eq_getElem h]; exact List.getElem_mem h)
  rw [List.getD_eq_getElem?_getD, List.getElem?_eq_getElem h, Option.getD_some] at hc ⊢
  have e : ((strN P)[k]'(by rw [size_strN]; exact h)).toNat = P[k] := by
    show ((P.map UInt8.ofNat).toArray[k]'(by simpa using h)).toNat = _
    simp only [List.getElem_toArray, List.getElem_map, UInt8.toNat_ofNat']
    omega
  simp only [Int.toNat_natCast]
  omega
theorem scan_step (c : Nat) (r : List Nat) (o : Nat) (b : Bool) : scan (c :: r) o b false = if c = 92 then scan r o b true else if b then scan r o (decide (c ≠ 93)) false else if c = 91 then scan r o true false else if c = 40 then scan r (o + 1) b false else if c = 41 then (if o = 0 then none else scan r (o - 1) b false) else scan r o b false := rfl
theorem scan_skip (c : Nat) (r : List Nat) (o : Nat) (b : Bool) : scan (c :: r) o b true = scan r o b false := rfl
theorem isEmpty_strN (P : List Nat) : (strN P).toList.isEmpty = P.isEmpty := by
  rw [ByteArray.toList_eq]
  unfold strN
  cases P <;> rfl
def Uns (w : World) (na pa : Option Addr) (nc pc : Nat) (N : List Nd) (R : List (Int × Bool)) : Prop :=
  greatB N.length R.length = false → NodesAt w (.slice na N.length nc) N ∧ PartsAt w (.slice pa R.length pc) R
end Go.Proofs.YtbmoanhdpnaocaaDoor
namespace Go.Proofs.YtbmoanhdpnaocaaDoor
open Go.RowKit Sets Tr
theorem strN_inj {P Q : List Nat} (hP : ∀ c ∈ P, c < 256) (hQ : ∀ c ∈ Q, c < 256) (h : strN P = strN Q) : P = Q := by
  unfold strN at h
  injection h with h
  have h2 : P.map UInt8.ofNat = Q.map UInt8.ofNat := by simpa using h
  have h3 := congrArg (List.map UInt8.toNat) h2
  simp only [List.map_map] at h3
  have key : ∀ L : List Nat, (∀ c ∈ L, c < 256) → L.map (UInt8.toNat ∘ UInt8.ofNat) = L := by
    intro L hL
    refine (List.map_congr_left fun c hc => ?_).trans (List.map_id _)
    have := hL c hc
    show (UInt8.ofNat c).toNat = c
    rw [UInt8.toNat_ofNat']
    exact Nat.mod_eq_of_lt this
  rw [key P hP, key Q hQ] at h3
  exact h3
theorem print_same {N M : List Nd} {R S : List (Int × Bool)} (hN : ∀ x ∈ N, NdOk x) (hM : ∀ x ∈ M, NdOk x) (hR : Right N R) (hS : Right M S) : strN (prOf N R) = strN (prOf M S) ↔ parts N R = parts M S := by
  have e1 : prOf N R = prParts 0 (parts N R) := by unfold prOf; rw [rightB_true hR]; rfl
  have e2 : prOf M S = prParts 0 (parts M S) := by unfold prOf; rw [rightB_true hS]; rfl
  have b1 := (pr_facts (R := R) hN).1
  have b2 := (pr_facts (R := S) hM).1
  constructor
  · intro h
    have h3 := strN_inj (fun c hc => by have := b1 c hc; omega) (fun c hc => by have := b2 c hc; omega) h
    rw [e1, e2] at h3
    exact print_inj (parts_ok hR hN) (parts_ok hS hM) (parts_ne hR) (parts_ne hS) h3
  · intro h
    rw [e1, e2, h]
/-- What the loop of TreeTwo has found behind i parts. -/
def SameTo (N M : List Nd) (R S : List (Int × Bool)) (i : Nat) : Prop := R.length = S.length ∧ ∀ q, q < i → (R.getD q default).2 = (S.getD q default).2 ∧ abs N (tr N (R.getD q default).1.toNat) = abs M (tr M (S.getD q default).1.toNat)
theorem same_zero {N M : List Nd} {R S : List (Int × Bool)} : SameTo N M R S 0 ↔ R.length = S.length := ⟨fun h => h.1, fun h => ⟨h, fun q hq => by omega⟩⟩
theorem same_step {N M : List Nd} {R S : List (Int × Bool)} {i : Nat} (h : SameTo N M R S i) : SameTo N M R S (i + 1) ↔ (R.getD i default).2 = (S.getD i default).2 ∧ abs N (tr N (R.getD i default).1.toNat) = abs M (tr M (S.getD i default).1.toNat) := by
  constructor
  · intro k; exact k.2 i (by omega)
  · intro k
    refine ⟨h.1, fun q hq => ?_⟩
    by_cases e : q = i
    · subst e; exact k
    · exact h.2 q (by omega)
theorem same_less {N M : List Nd} {R S : List (Int × Bool)} {i j : Nat} (h : SameTo N M R S i) (hj : j ≤ i) : SameTo N M R S j := ⟨h.1, fun q hq => h.2 q (by omega)⟩
theorem same_all {N M : List Nd} {R S : List (Int × Bool)} : SameTo N M R S R.length ↔ parts N R = parts M S := by
  constructor
  · intro h
    unfold parts
    refine List.ext_getElem (by simp only [List.length_map]; exact h.1) fun q h1 h2 => ?_
    have hq : q < R.length := by simpa using h1
    have hq2 : q < S.length := by rw [← h.1]; exact hq
    have := h.2 q hq
    rw [List.getD_eq_getElem?_getD, List.getD_eq_getElem?_getD, List.getElem?_eq_getElem hq, List.getElem?_eq_getElem hq2] at this
    simp only [Option.getD_some] at this
    simp only [List.getElem_map]
    exact Prod.ext this.2 this.1
  · intro h
    have hl : R.length = S.length := by have := congrArg List.length h; unfold parts at this; simpa using this
    refine ⟨hl, fun q hq => ?_⟩
    have hq2 : q < S.length := by rw [← hl]; exact hq
    have h1 : (parts N R)[q]? = (parts M S)[q]? := by rw [h]
    unfold parts at h1
    rw [List.getElem?_map, List.getElem?_map, List.getElem?_eq_getElem hq, List.getElem?_eq_getElem hq2] at h1
    simp only [Option.map_some] at h1
    injection h1 with h1
    injection h1 with h1 h2
    rw [List.getD_eq_getElem?_getD, List.getD_eq_getElem?_getD, List.getElem?_eq_getElem hq, List.getElem?_eq_getElem hq2]
    exact ⟨h2, h1⟩
/-- Two boxes of trees side by side. -/
structure Box2 (b : Nat) (v0 v1 v2 v3 : Value) (w : World) : Prop where
  c0 : w.cell? ⟨b, 0, none⟩ = some v0
  c1 : w.cell? ⟨b, 1, none⟩ = some v1
  c2 : w.cell? ⟨b + 1, 0, none⟩ = some v2
  c3 : w.cell? ⟨b + 1, 1, none⟩ = some v3
  lt : b + 1 < w.heap.size
theorem Box2.kept {b : Nat} {v0 v1 v2 v3 : Value} {w w' : World} (h : Box2 b v0 v1 v2 v3 w) (hb : Below w.heap.size w w') : Box2 b v0 v1 v2 v3 w' := by
  have h1 := h.lt
  exact ⟨(hb.cell (p := ⟨b, 0, none⟩) (by show b < _; omega)).trans h.c0, (hb.cell (p := ⟨b, 1, none⟩) (by show b < _; omega)).trans h.c1, (hb.cell (p := ⟨b + 1, 0, none⟩) h1).trans h.c2, (hb.cell (p := ⟨b + 1, 1, none⟩) h1).trans h.c3, Nat.lt_of_lt_of_le h1 hb.size⟩
theorem Box2.new (w : World) (v0 v1 v2 v3 : Value) : Box2 w.heap.size v0 v1 v2 v3 ((w.alloc (.cells #[v0, v1] 25)).alloc (.cells #[v2, v3] 25)) := by
  refine ⟨?_, ?_, ?_, ?_, by simp only [World.size_alloc]; omega⟩
  · rw [((Below.refl _ _).alloc (Nat.le_refl _) _).cell (by simp only [World.size_alloc]; omega)]; simp
  · rw [((Below.refl _ _).alloc (Nat.le_refl _) _).cell (by simp only [World.size_alloc]; omega)]; simp
  · rw [← World.size_alloc w (.cells #[v0, v1] 25)]; simp
  · rw [← World.size_alloc w (.cells #[v0, v1] 25)]; simp
/-- What Alike tells at two numbers. -/
def Alk (W : World) (nv pv mv qv : Value) (i j : Nat) (r : Bool) : Prop := ∀ w, Below W.heap.size W w →
  Calls Tryd.prog 22 #[.agg #[nv, pv], .agg #[mv, qv], .int .i64 i, .int .i64 j] w fun e w' => e = .returned (.bool r) ∧ Below w.heap.size w w'
end Go.Proofs.YtbmoanhdpnaocaaDoor
namespace Go.Proofs.YtbmoanhdpnaocaaDoor
open Go.RowKit Sets Tr
theorem sound_fields {x : Nd} (h : sound x = true) : (x.k = 1 ∨ x.k = 2 ∨ x.k = 3 ∨ x.k = 4 ∨ x.k = 5) ∧ (x.k = 1 → x.s = 0 ∧ x.mn = 0 ∧ x.mx = 0) ∧ (x.k = 2 → x.mn = 0 ∧ x.mx = 0) ∧ ((x.k = 3 ∨ x.k = 4) → x.s = 0 ∧ x.mn = 0 ∧ x.mx = 0) ∧ (x.k = 5 → x.s = 0) := by
  unfold sound at h
  by_cases h1 : x.k = 1
  · rw [if_pos h1] at h
    have := of_decide_eq_true h
    exact ⟨.inl h1, fun _ => ⟨this.1, this.2.2.2.1, this.2.2.2.2⟩, fun h => by omega, fun h => by omega, fun h => by omega⟩
  · rw [if_neg h1] at h
    by_cases h2 : x.k = 2
    · rw [if_pos h2] at h
      have := of_decide_eq_true h
      exact ⟨.inr (.inl h2), fun h => by omega, fun _ => ⟨this.2.2.1, this.2.2.2⟩, fun h => by omega, fun h => by omega⟩
    · rw [if_neg h2] at h
      by_cases h3 : x.k = 3 ∨ x.k = 4
      · rw [if_pos h3] at h
        have := of_decide_eq_true h
        exact ⟨by omega, fun h => by omega, fun h => by omega, fun _ => this, fun h => by omega⟩
      · rw [if_neg h3] at h
        by_cases h5 : x.k = 5
        · rw [if_pos h5] at h
          simp only [Bool.and_eq_true] at h
          have := of_decide_eq_true h.1
          exact ⟨by omega, fun h => by omega, fun h => by omega, fun h => by omega, fun _ => this.1⟩
        · rw [if_neg h5] at h; cases h
theorem same_fields {N M : List Nd} {t u : T} (ht : Is N t) (hu : Is M u) (sn : sound (N.getD t.root default) = true) (sm : sound (M.getD u.root default) = true) (h : abs N t = abs M u) :
    (N.getD t.root default).k = (M.getD u.root default).k ∧ (N.getD t.root default).s = (M.getD u.root default).s ∧ (N.getD t.root default).mn = (M.getD u.root default).mn ∧ (N.getD t.root default).mx = (M.getD u.root default).mx := by
  have hk : (N.getD t.root default).k = (M.getD u.root default).k := by rw [← kd_abs ht sn, ← kd_abs hu sm, h]
  obtain ⟨k0, k1, k2, k3, k5⟩ := sound_fields sn
  obtain ⟨l0, l1, l2, l3, l5⟩ := sound_fields sm
  refine ⟨hk, ?_⟩
  cases t with
  | leaf i =>
    have a1 := leaf_kind ht.2
    simp only [root_leaf] at *
    have c12 : (N.getD i default).k = 1 ∨ (N.getD i default).k = 2 := by omega
    cases u with
    | leaf j =>
      simp only [root_leaf] at *
      rcases c12 with c | c
      · have := k1 c
        have := l1 (by omega)
        exact ⟨by omega, by omega, by omega⟩
      · have := k2 c
        have := l2 (by omega)
        simp only [abs] at h
        rw [if_neg (by omega), if_neg (by omega)] at h
        injection h with h
        exact ⟨h, by omega, by omega⟩
    | one j b => have := one_kind hu.2.1; simp only [root_one] at *; omega
    | two j b c => have := two_kind hu.2.1; simp only [root_two] at *; omega
  | one i a =>
    have a1 := one_kind ht.2.1
    simp only [root_one] at *
    cases u with
    | leaf j => have := leaf_kind hu.2; simp only [root_leaf] at *; omega
    | one j b =>
      simp only [root_one] at *
      simp only [abs] at h
      injection h with h1 h2 h3
      have := k5 (by omega)
      have := l5 (by omega)
      exact ⟨by omega, h2, h3⟩
    | two j b c => have := two_kind hu.2.1; simp only [root_two] at *; omega
  | two i a b =>
    have a1 := two_kind ht.2.1
    simp only [root_two] at *
    have := k3 (by omega)
    have := l3 (by omega)
    exact ⟨by omega, by omega, by omega⟩
theorem wp_neq_set {o : Oper} {a : Act} {w : World} {K : Act → World → Prop} {Q : Exit → Act → World → Prop} (x y : Operand) (t : TypeId)
    (ho : o.op = .binOp .neq 38 x y t) (S T : Nat) (hx : a.eval x = .agg #[.int .u64 (wd S 0), .int .u64 (wd S 1), .int .u64 (wd S 2), .int .u64 (wd S 3)]) (hy : a.eval y = .agg #[.int .u64 (wd T 0), .int .u64 (wd T 1), .int .u64 (wd T 2), .int .u64 (wd T 3)]) (hS : S < 2 ^ 256) (hT : T < 2 ^ 256)
    (h : K (a.put o.dst (.bool (!decide (S = T)))) w) : o.wp Tryd.prog a w K Q := by
  have hg : Tryd.prog.eqGuardType Tryd.prog.depth 38 = false := by kernel_rfl
  unfold Oper.wp execOp
  simp only [ho, hx, hy, Sem.run_bind, run_eqGuard_agg w .neq 38 x y _ _ hg, run_neq_struct, eqSet, beq_words hS hT, Result.andThen_ok, Sem.run_pure]
  exact h
theorem shape2 {N M : List Nd} {t u : T} (ht : Is N t) (hu : Is M u) (sn : sound (N.getD t.root default) = true) (hk : (N.getD t.root default).k = (M.getD u.root default).k) (hs : (N.getD t.root default).s = (M.getD u.root default).s) (hm : (N.getD t.root default).mn = (M.getD u.root default).mn) (hx : (N.getD t.root default).mx = (M.getD u.root default).mx) :
    (((N.getD t.root default).k = 1 ∨ (N.getD t.root default).k = 2) ∧ abs N t = abs M u) ∨
    ((N.getD t.root default).k = 5 ∧ ∃ a c : T, (N.getD t.root default).a = (a.root : Int) ∧ (M.getD u.root default).a = (c.root : Int) ∧ Is N a ∧ Is M c ∧ (a.sum fun _ => 1) < (t.sum fun _ => 1) ∧ (abs N t = abs M u ↔ abs N a = abs M c)) ∨
    (((N.getD t.root default).k = 3 ∨ (N.getD t.root default).k = 4) ∧ ∃ a b c d : T, (N.getD t.root default).a = (a.root : Int) ∧ (N.getD t.root default).b = (b.root : Int) ∧ (M.getD u.root default).a = (c.root : Int) ∧ (M.getD u.root default).b = (d.root : Int) ∧ Is N a ∧ Is N b ∧ Is M c ∧ Is M d ∧
      (a.sum fun _ => 1) < (t.sum fun _ => 1) ∧ (b.sum fun _ => 1) < (t.sum fun _ => 1) ∧ (abs N t = abs M u ↔ abs N a = abs M c ∧ abs N b = abs M d)) := by
  have k0 := (sound_fields sn).1
  cases t with
  | leaf i =>
    have a1 := leaf_kind ht.2
    simp only [root_leaf] at *
    cases u with
    | leaf j =>
      simp only [root_leaf] at *
      refine .inl ⟨by omega, ?_⟩
      simp only [abs]
      rw [hk, hs]
    | one j b => have := one_kind hu.2.1; simp only [root_one] at *; omega
    | two j b c => have := two_kind hu.2.1; simp only [root_two] at *; omega
  | one i a =>
    have a1 := one_kind ht.2.1
    simp only [root_one] at *
    cases u with
    | leaf j => have := leaf_kind hu.2; simp only [root_leaf] at *; omega
    | one j c =>
      have b1 := one_kind hu.2.1
      simp only [root_one] at *
      refine .inr (.inl ⟨by omega, a, c, a1.2, b1.2, ht.2.2.2, hu.2.2.2, by simp only [T.sum]; omega, ?_⟩)
      simp only [abs]
      rw [hm, hx]
      exact ⟨fun h => by injection h, fun h => by rw [h]⟩
    | two j b c => have := two_kind hu.2.1; simp only [root_two] at *; omega
  | two i a b =>
    have a1 := two_kind ht.2.1
    simp only [root_two] at *
    cases u with
    | leaf j => have := leaf_kind hu.2; simp only [root_leaf] at *; omega
    | one j c => have := one_kind hu.2.1; simp only [root_one] at *; omega
    | two j c d =>
      have b1 := two_kind hu.2.1
      simp only [root_two] at *
      have := T.sum_pos a
      have := T.sum_pos b
      refine .inr (.inr ⟨a1.1, a, b, c, d, a1.2.1, a1.2.2, b1.2.1, b1.2.2, ht.2.2.2.2.1, ht.2.2.2.2.2, hu.2.2.2.2.1, hu.2.2.2.2.2, by simp only [T.sum]; omega, by simp only [T.sum]; omega, ?_⟩)
      simp only [abs]
      rw [← hk]
      rcases a1.1 with h3 | h4
      · rw [if_pos h3, if_pos h3]
        exact ⟨fun h => by injection h with h1 h2; exact ⟨h1, h2⟩, fun h => by rw [h.1, h.2]⟩
      · rw [if_neg (by omega), if_neg (by omega)]
        exact ⟨fun h => by injection h with h1 h2; exact ⟨h1, h2⟩, fun h => by rw [h.1, h.2]⟩
end Go.Proofs.YtbmoanhdpnaocaaDoor
