/- shibbolethlaw06.Alike. -/
import Derived.Test.YtpchahlnnbgpkaaDoorTwoM
namespace Go.Proofs.YtpchahlnnbgpkaaDoor
open Go.RowKit Sets Tr
theorem sound_fields {x : Nd} (h : sound x = true) : (x.k = 1 ∨ x.k = 2 ∨ x.k = 3 ∨ x.k = 4 ∨ x.k = 5) ∧ (x.k = 1 → x.s = 0 ∧ x.mn = 0 ∧ x.mx = 0) ∧ (x.k = 2 → x.mn = 0 ∧ x.mx = 0) ∧ ((x.k = 3 ∨ x.k = 4) → x.s = 0 ∧ x.mn = 0 ∧ x.mx = 0) ∧ (x.k = 5 → x.s = 0) := by
  unfold sound at h
  by_cases h1 : x.k = 1
  · rw [if_pos h1] at h
    have := of_decide_eq_true h
    exact ⟨.inl h1, fun _ => ⟨this.1, this.2.2.2.1, this.2.2.2.2⟩, fun h => by omega, fun h => by omega, fun h => by omega⟩
  · rw [if_neg h1] at h
    by_cases h2 : x.k = 2
    · rw [if_pos h2] at h
      have := of_decide_eq_true h
      exact ⟨.inr (.inl h2), fun h => by omega, fun _ => ⟨this.2.2.1, this.2.2.2⟩, fun h => by omega, fun h => by omega⟩
    · rw [if_neg h2] at h
      by_cases h3 : x.k = 3 ∨ x.k = 4
      · rw [if_pos h3] at h
        have := of_decide_eq_true h
        exact ⟨by omega, fun h => by omega, fun h => by omega, fun _ => this, fun h => by omega⟩
      · rw [if_neg h3] at h
        by_cases h5 : x.k = 5
        · rw [if_pos h5] at h
          simp only [Bool.and_eq_true] at h
          have := of_decide_eq_true h.1
          exact ⟨by omega, fun h => by omega, fun h => by omega, fun h => by omega, fun _ => this.1⟩
        · rw [if_neg h5] at h; cases h
theorem same_fields {N M : List Nd} {t u : T} (ht : Is N t) (hu : Is M u) (sn : sound (N.getD t.root default) = true) (sm : sound (M.getD u.root default) = true) (h : abs N t = abs M u) :
    (N.getD t.root default).k = (M.getD u.root default).k ∧ (N.getD t.root default).s = (M.getD u.root default).s ∧ (N.getD t.root default).mn = (M.getD u.root default).mn ∧ (N.getD t.root default).mx = (M.getD u.root default).mx := by
  have hk : (N.getD t.root default).k = (M.getD u.root default).k := by rw [← kd_abs ht sn, ← kd_abs hu sm, h]
  obtain ⟨k0, k1, k2, k3, k5⟩ := sound_fields sn
  obtain ⟨l0, l1, l2, l3, l5⟩ := sound_fields sm
  refine ⟨hk, ?_⟩
  cases t with
  | leaf i =>
    have a1 := leaf_kind ht.2
    simp only [root_leaf] at *
    have c12 : (N.getD i default).k = 1 ∨ (N.getD i default).k = 2 := by omega
    cases u with
    | leaf j =>
      simp only [root_leaf] at *
      rcases c12 with c | c
      · have := k1 c
        have := l1 (by omega)
        exact ⟨by omega, by omega, by omega⟩
      · have := k2 c
        have := l2 (by omega)
        simp only [abs] at h
        rw [if_neg (by omega), if_neg (by omega)] at h
        injection h with h
        exact ⟨h, by omega, by omega⟩
    | one j b => have := one_kind hu.2.1; simp only [root_one] at *; omega
    | two j b c => have := two_kind hu.2.1; simp only [root_two] at *; omega
  | one i a =>
    have a1 := one_kind ht.2.1
    simp only [root_one] at *
    cases u with
    | leaf j => have := leaf_kind hu.2; simp only [root_leaf] at *; omega
    | one j b =>
      simp only [root_one] at *
      simp only [abs] at h
      injection h with h1 h2 h3
      have := k5 (by omega)
      have := l5 (by omega)
      exact ⟨by omega, h2, h3⟩
    | two j b c => have := two_kind hu.2.1; simp only [root_two] at *; omega
  | two i a b =>
    have a1 := two_kind ht.2.1
    simp only [root_two] at *
    have := k3 (by omega)
    have := l3 (by omega)
    exact ⟨by omega, by omega, by omega⟩
theorem wp_neq_set {o : Oper} {a : Act} {w : World} {K : Act → World → Prop} {Q : Exit → Act → World → Prop} (x y : Operand) (t : TypeId)
    (ho : o.op = .binOp .neq 24 x y t) (S T : Nat) (hx : a.eval x = .agg #[.int .u64 (wd S 0), .int .u64 (wd S 1), .int .u64 (wd S 2), .int .u64 (wd S 3)]) (hy : a.eval y = .agg #[.int .u64 (wd T 0), .int .u64 (wd T 1), .int .u64 (wd T 2), .int .u64 (wd T 3)]) (hS : S < 2 ^ 256) (hT : T < 2 ^ 256)
    (h : K (a.put o.dst (.bool (!decide (S = T)))) w) : o.wp Tryd.prog a w K Q := by
  have hg : Tryd.prog.eqGuardType Tryd.prog.depth 24 = false := by kernel_rfl
  unfold Oper.wp execOp
  simp only [ho, hx, hy, Sem.run_bind, run_eqGuard_agg w .neq 24 x y _ _ hg, run_neq_struct, eqSet, beq_words hS hT, Result.andThen_ok, Sem.run_pure]
  exact h
theorem shape2 {N M : List Nd} {t u : T} (ht : Is N t) (hu : Is M u) (sn : sound (N.getD t.root default) = true) (hk : (N.getD t.root default).k = (M.getD u.root default).k) (hs : (N.getD t.root default).s = (M.getD u.root default).s) (hm : (N.getD t.root default).mn = (M.getD u.root default).mn) (hx : (N.getD t.root default).mx = (M.getD u.root default).mx) :
    (((N.getD t.root default).k = 1 ∨ (N.getD t.root default).k = 2) ∧ abs N t = abs M u) ∨
    ((N.getD t.root default).k = 5 ∧ ∃ a c : T, (N.getD t.root default).a = (a.root : Int) ∧ (M.getD u.root default).a = (c.root : Int) ∧ Is N a ∧ Is M c ∧ (a.sum fun _ => 1) < (t.sum fun _ => 1) ∧ (abs N t = abs M u ↔ abs N a = abs M c)) ∨
    (((N.getD t.root default).k = 3 ∨ (N.getD t.root default).k = 4) ∧ ∃ a b c d : T, (N.getD t.root default).a = (a.root : Int) ∧ (N.getD t.root default).b = (b.root : Int) ∧ (M.getD u.root default).a = (c.root : Int) ∧ (M.getD u.root default).b = (d.root : Int) ∧ Is N a ∧ Is N b ∧ Is M c ∧ Is M d ∧
      (a.sum fun _ => 1) < (t.sum fun _ => 1) ∧ (b.sum fun _ => 1) < (t.sum fun _ => 1) ∧ (abs N t = abs M u ↔ abs N a = abs M c ∧ abs N b = abs M d)) := by
  have k0 := (sound_fields sn).1
  cases t with
  | leaf i =>
    have a1 := leaf_kind ht.2
    simp only [root_leaf] at *
    cases u with
    | leaf j =>
      simp only [root_leaf] at *
      refine .inl ⟨by omega, ?_⟩
      simp only [abs]
      rw [hk, hs]
    | one j b => have := one_kind hu.2.1; simp only [root_one] at *; omega
    | two j b c => have := two_kind hu.2.1; simp only [root_two] at *; omega
  | one i a =>
    have a1 := one_kind ht.2.1
    simp only [root_one] at *
    cases u with
    | leaf j => have := leaf_kind hu.2; simp only [root_leaf] at *; omega
    | one j c =>
      have b1 := one_kind hu.2.1
      simp only [root_one] at *
      refine .inr (.inl ⟨by omega, a, c, a1.2, b1.2, ht.2.2.2, hu.2.2.2, by simp only [T.sum]; omega, ?_⟩)
      simp only [abs]
      rw [hm, hx]
      exact ⟨fun h => by injection h, fun h => by rw [h]⟩
    | two j b c => have := two_kind hu.2.1; simp only [root_two] at *; omega
  | two i a b =>
    have a1 := two_kind ht.2.1
    simp only [root_two] at *
    cases u with
    | leaf j => have := leaf_kind hu.2; simp only [root_leaf] at *; omega
    | one j c => have := one_kind hu.2.1; simp only [root_one] at *; omega
    | two j c d =>
      have b1 := two_kind hu.2.1
      simp only [root_two] at *
      have := T.sum_pos a
      have := T.sum_pos b
      refine .inr (.inr ⟨a1.1, a, b, c, d, a1.2.1, a1.2.2, b1.2.1, b1.2.2, ht.2.2.2.2.1, ht.2.2.2.2.2, hu.2.2.2.2.1, hu.2.2.2.2.2, by simp only [T.sum]; omega, by simp only [T.sum]; omega, ?_⟩)
      simp only [abs]
      rw [← hk]
      rcases a1.1 with h3 | h4
      · rw [if_pos h3, if_pos h3]
        exact ⟨fun h => by injection h with h1 h2; exact ⟨h1, h2⟩, fun h => by rw [h.1, h.2]⟩
      · rw [if_neg (by omega), if_neg (by omega)]
        exact ⟨fun h => by injection h with h1 h2; exact ⟨h1, h2⟩, fun h => by rw [h.1, h.2]⟩
end Go.Proofs.YtpchahlnnbgpkaaDoor
