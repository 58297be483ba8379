/- Several texts in one. -/
import Derived.Test.YtcgllipcnmlkbaaDoorPkB
import Derived.Test.YtcgllipcnmlkbaaDoorPkL
import Derived.Test.YtcgllipcnmlkbaaDoorPkO
import Derived.Test.YtcgllipcnmlkbaaDoorPkR
namespace Go.Proofs.YtcgllipcnmlkbaaDoor
namespace Tr
open Sets
theorem getD_app (N M : List Nd) {i : Nat} (h : i < N.length) : (N ++ M).getD i default = N.getD i default := by
  rw [List.getD_eq_getElem?_getD, List.getElem?_append_left h, ← List.getD_eq_getElem?_getD]
theorem is_app {N : List Nd} (M : List Nd) : ∀ {t : T}, Is N t → Is (N ++ M) t ∧ abs (N ++ M) t = abs N t
  | .leaf i, h => by
    have e := getD_app N M h.1
    refine ⟨⟨by rw [List.length_append]; exact Nat.lt_of_lt_of_le h.1 (Nat.le_add_right _ _), by rw [e]; exact h.2⟩, ?_⟩
    unfold abs
    rw [e]
  | .one i a, h => by
    have e := getD_app N M h.1
    have ih := is_app M h.2.2.2
    refine ⟨⟨by rw [List.length_append]; exact Nat.lt_of_lt_of_le h.1 (Nat.le_add_right _ _), by rw [e]; exact h.2.1, h.2.2.1, ih.1⟩, ?_⟩
    unfold abs
    rw [e, ih.2]
  | .two i a b, h => by
    have e := getD_app N M h.1
    have i1 := is_app M h.2.2.2.2.1
    have i2 := is_app M h.2.2.2.2.2
    refine ⟨⟨by rw [List.length_append]; exact Nat.lt_of_lt_of_le h.1 (Nat.le_add_right _ _), by rw [e]; exact h.2.1, h.2.2.1, h.2.2.2.1, i1.1, i2.1⟩, ?_⟩
    unfold abs
    rw [e, i1.2, i2.2]
theorem getD_new (N : List Nd) (x : Nd) : (N ++ [x]).getD N.length default = x := by
  rw [List.getD_eq_getElem?_getD, List.getElem?_append_right (Nat.le_refl _), Nat.sub_self]; rfl
/-- one node more, whose kids are the roots -/
theorem right_more {N : List Nd} {R : List (Int × Bool)} (h : Right N R) (x : Nd) (hx : kids x = roots R) (hs : sound x = true) (hn : N.length ≤ 599) (b : Bool) : Right (N ++ [x]) [((N.length : Int), b)] := by
  have hE : edges (N ++ [x]) = edges N ++ roots R := by unfold edges; rw [List.flatMap_append]; simp [hx]
  have hlow : ∀ c ∈ edges N, 0 ≤ c ∧ c < N.length := by
    intro c hc
    obtain ⟨y, hy, hcy⟩ := List.mem_flatMap.1 hc
    obtain ⟨i, hi, rfl⟩ := List.getElem_of_mem hy
    have := h.low i hi c (by rw [List.getD_eq_getElem?_getD, List.getElem?_eq_getElem hi]; exact hcy)
    omega
  refine ⟨⟨by simp, by simp, by rw [List.length_append]; simp; omega⟩, ?_, ?_, ?_, ?_, ?_⟩
  · intro i hi
    rw [List.length_append, List.length_singleton] at hi
    by_cases hl : i < N.length
    · rw [getD_app N [x] hl]; exact h.snd i hl
    · obtain rfl : i = N.length := by omega
      rw [getD_new]; exact hs
  · intro i hi c hc
    rw [List.length_append, List.length_singleton] at hi
    by_cases hl : i < N.length
    · rw [getD_app N [x] hl] at hc; exact h.low i hl c hc
    · obtain rfl : i = N.length := by omega
      rw [getD_new, hx] at hc; exact h.rts c hc
  · intro c hc
    simp only [roots, List.map_cons, List.map_nil, List.mem_singleton] at hc
    subst hc
    rw [List.length_append, List.length_singleton]; omega
  · rw [hE]
    refine List.nodup_append.2 ⟨h.nod, by simp [roots], ?_⟩
    intro a ha c hc e
    simp only [roots, List.map_cons, List.map_nil, List.mem_singleton] at hc
    subst hc e
    rcases List.mem_append.1 ha with h1 | h1
    · have := hlow _ h1; omega
    · have := h.rts _ h1; omega
  · intro j hj
    rw [List.length_append, List.length_singleton] at hj
    rw [hE]
    by_cases hl : j < N.length
    · exact List.mem_append_left _ (h.all j hl)
    · obtain rfl : j = N.length := by omega
      exact List.mem_append_right _ (by simp [roots])
/-- a leaf more, which is a root -/
theorem right_leaf {N : List Nd} {R : List (Int × Bool)} (h : Right N R) (x : Nd) (hx : kids x = []) (hs : sound x = true) (hn : N.length ≤ 599) (hr : R.length ≤ 19) (b : Bool) : Right (N ++ [x]) (R ++ [((N.length : Int), b)]) := by
  have hE : edges (N ++ [x]) = edges N := by unfold edges; rw [List.flatMap_append]; simp [hx]
  have hR : roots (R ++ [((N.length : Int), b)]) = roots R ++ [(N.length : Int)] := by unfold roots; simp
  have hlow : ∀ c ∈ edges N, 0 ≤ c ∧ c < N.length := by
    intro c hc
    obtain ⟨y, hy, hcy⟩ := List.mem_flatMap.1 hc
    obtain ⟨i, hi, rfl⟩ := List.getElem_of_mem hy
    have := h.low i hi c (by rw [List.getD_eq_getElem?_getD, List.getElem?_eq_getElem hi]; exact hcy)
    omega
  refine ⟨⟨by rw [List.length_append]; simp, by rw [List.length_append]; simp; omega, by rw [List.length_append]; simp; omega⟩, ?_, ?_, ?_, ?_, ?_⟩
  · intro i hi
    rw [List.length_append, List.length_singleton] at hi
    by_cases hl : i < N.length
    · rw [getD_app N [x] hl]; exact h.snd i hl
    · obtain rfl : i = N.length := by omega
      rw [getD_new]; exact hs
  · intro i hi c hc
    rw [List.length_append, List.length_singleton] at hi
    by_cases hl : i < N.length
    · rw [getD_app N [x] hl] at hc; exact h.low i hl c hc
    · obtain rfl : i = N.length := by omega
      rw [getD_new, hx] at hc; cases hc
  · intro c hc
    rw [hR] at hc
    rw [List.length_append, List.length_singleton]
    rcases List.mem_append.1 hc with h1 | h1
    · have := h.rts c h1; omega
    · simp only [List.mem_singleton] at h1
      omega
  · rw [hE, hR, ← List.append_assoc]
    refine List.nodup_append.2 ⟨h.nod, by simp, ?_⟩
    intro a ha c hc e
    simp only [List.mem_singleton] at hc
    subst hc e
    rcases List.mem_append.1 ha with h1 | h1
    · have := hlow _ h1; omega
    · have := h.rts _ h1; omega
  · intro j hj
    rw [List.length_append, List.length_singleton] at hj
    rw [hE, hR, ← List.append_assoc]
    by_cases hl : j < N.length
    · exact List.mem_append_left _ (h.all j hl)
    · obtain rfl : j = N.length := by omega
      exact List.mem_append_right _ (by simp)
/-- the same tree, its nodes named from n on -/
def shN (n : Nat) (x : Nd) : Nd := if x.k = 3 ∨ x.k = 4 then { x with a := x.a + n, b := x.b + n } else if x.k = 5 then { x with a := x.a + n } else x
def shT (n : Nat) : T → T
  | .leaf i => .leaf (i + n)
  | .one i a => .one (i + n) (shT n a)
  | .two i a b => .two (i + n) (shT n a) (shT n b)
theorem shT_root (n : Nat) (t : T) : (shT n t).root = t.root + n := by cases t <;> rfl
theorem kids_sh (n : Nat) (x : Nd) : kids (shN n x) = (kids x).map (· + (n : Int)) := by
  unfold shN
  split
  · rename_i h; unfold kids; simp only [h, if_true]; rfl
  · rename_i h
    split
    · rename_i h2; unfold kids; simp only [h2, if_true]; simp
    · rename_i h2; unfold kids; simp [h, h2]
theorem shN_k (n : Nat) (x : Nd) : (shN n x).k = x.k ∧ (shN n x).s = x.s ∧ (shN n x).mn = x.mn ∧ (shN n x).mx = x.mx := by
  unfold shN
  split
  · exact ⟨rfl, rfl, rfl, rfl⟩
  · split <;> exact ⟨rfl, rfl, rfl, rfl⟩
theorem getD_sh (N M : List Nd) {i : Nat} (h : i < M.length) : (N ++ M.map (shN N.length)).getD (i + N.length) default = shN N.length (M.getD i default) := by
  rw [List.getD_eq_getElem?_getD, List.getElem?_append_right (by omega), Nat.add_sub_cancel, List.getElem?_map, List.getElem?_eq_getElem h, List.getD_eq_getElem?_getD, List.getElem?_eq_getElem h]
  rfl
theorem is_sh (N : List Nd) {M : List Nd} : ∀ {t : T}, Is M t → Is (N ++ M.map (shN N.length)) (shT N.length t) ∧ abs (N ++ M.map (shN N.length)) (shT N.length t) = abs M t
  | .leaf i, h => by
    have e := getD_sh N M h.1
    refine ⟨⟨by rw [List.length_append, List.length_map]; have := h.1; omega, by rw [e, kids_sh, h.2]; rfl⟩, ?_⟩
    unfold shT abs
    rw [e, (shN_k _ _).1, (shN_k _ _).2.1]
  | .one i a, h => by
    have e := getD_sh N M h.1
    have ih := is_sh N h.2.2.2
    refine ⟨⟨by rw [List.length_append, List.length_map]; have := h.1; omega, by rw [e, kids_sh, h.2.1, shT_root]; simp, by rw [shT_root]; have := h.2.2.1; omega, ih.1⟩, ?_⟩
    show X.tim (abs _ (shT N.length a)) _ _ = X.tim (abs M a) _ _
    rw [ih.2, e, (shN_k _ _).2.2.1, (shN_k _ _).2.2.2]
  | .two i a b, h => by
    have e := getD_sh N M h.1
    have i1 := is_sh N h.2.2.2.2.1
    have i2 := is_sh N h.2.2.2.2.2
    refine ⟨⟨by rw [List.length_append, List.length_map]; have := h.1; omega, by rw [e, kids_sh, h.2.1, shT_root, shT_root]; simp, by rw [shT_root]; have := h.2.2.1; omega, by rw [shT_root]; have := h.2.2.2.1; omega, i1.1, i2.1⟩, ?_⟩
    unfold shT abs
    rw [e, (shN_k _ _).1, i1.2, i2.2]
theorem sound_sh (n : Nat) (x : Nd) : sound (shN n x) = sound x := by
  unfold shN
  split
  · rename_i h; rcases h with h | h <;> simp [sound, h]
  · split
    · rename_i h; simp [sound, h]
    · rfl
theorem edges_sh (n : Nat) (M : List Nd) : edges (M.map (shN n)) = (edges M).map (· + (n : Int)) := by
  unfold edges
  induction M with
  | nil => rfl
  | cons x M ih => rw [List.map_cons, List.flatMap_cons, List.flatMap_cons, List.map_append, ih, kids_sh]
theorem edges_app (N M : List Nd) : edges (N ++ M) = edges N ++ edges M := by unfold edges; rw [List.flatMap_append]
theorem edges_lt {N : List Nd} {R : List (Int × Bool)} (h : Right N R) : ∀ c ∈ edges N ++ roots R, 0 ≤ c ∧ c < N.length := by
  intro c hc
  rcases List.mem_append.1 hc with hc | hc
  · obtain ⟨y, hy, hcy⟩ := List.mem_flatMap.1 hc
    obtain ⟨i, hi, rfl⟩ := List.getElem_of_mem hy
    have := h.low i hi c (by rw [List.getD_eq_getElem?_getD, List.getElem?_eq_getElem hi]; exact hcy)
    omega
  · exact h.rts c hc
/-- two trees side by side -/
theorem right_join {N M : List Nd} {R S : List (Int × Bool)} (h : Right N R) (g : Right M S) (hr : R.length + S.length ≤ 20) (hn : N.length + M.length ≤ 600) :
    Right (N ++ M.map (shN N.length)) (R ++ S.map fun p => (p.1 + (N.length : Int), p.2)) := by
  have hR : roots (R ++ S.map fun p => (p.1 + (N.length : Int), p.2)) = roots R ++ (roots S).map (· + (N.length : Int)) := by
    unfold roots; rw [List.map_append, List.map_map, List.map_map]; rfl
  have hE : edges (N ++ M.map (shN N.length)) = edges N ++ (edges M).map (· + (N.length : Int)) := by rw [edges_app, edges_sh]
  have hp : ((edges N ++ (edges M).map (· + (N.length : Int))) ++ (roots R ++ (roots S).map (· + (N.length : Int)))).Perm ((edges N ++ roots R) ++ (edges M ++ roots S).map (· + (N.length : Int))) := by
    rw [List.map_append, List.append_assoc, List.append_assoc]
    refine List.Perm.append_left _ ?_
    rw [← List.append_assoc, ← List.append_assoc]
    exact List.Perm.append_right _ List.perm_append_comm
  have hl := edges_lt h
  have gl := edges_lt g
  refine ⟨⟨by rw [List.length_append]; have := h.few.1; omega, by rw [List.length_append, List.length_map]; exact hr, by rw [List.length_append, List.length_map]; exact hn⟩, ?_, ?_, ?_, ?_, ?_⟩
  · intro i hi
    rw [List.length_append, List.length_map] at hi
    by_cases hx : i < N.length
    · rw [getD_app N _ hx]; exact h.snd i hx
    · have e := getD_sh N M (i := i - N.length) (by omega)
      rw [show i - N.length + N.length = i from by omega] at e
      rw [e, sound_sh]; exact g.snd _ (by omega)
  · intro i hi c hc
    rw [List.length_append, List.length_map] at hi
    by_cases hx : i < N.length
    · rw [getD_app N _ hx] at hc; exact h.low i hx c hc
    · have e := getD_sh N M (i := i - N.length) (by omega)
      rw [show i - N.length + N.length = i from by omega] at e
      rw [e, kids_sh] at hc
      obtain ⟨d, hd, rfl⟩ := List.mem_map.1 hc
      have := g.low _ (by omega) d hd
      omega
  · intro c hc
    rw [hR] at hc
    rw [List.length_append, List.length_map]
    rcases List.mem_append.1 hc with h1 | h1
    · have := h.rts c h1; omega
    · obtain ⟨d, hd, rfl⟩ := List.mem_map.1 h1
      have := g.rts d hd
      omega
  · rw [hE, hR, hp.nodup_iff]
    refine List.nodup_append.2 ⟨h.nod, List.Pairwise.map _ (fun a b hab e => hab (by omega)) g.nod, ?_⟩
    intro a ha c hc e
    obtain ⟨d, hd, rfl⟩ := List.mem_map.1 hc
    have h1 := hl a ha
    have h2 := gl d hd
    omega
  · intro j hj
    rw [List.length_append, List.length_map] at hj
    rw [hE, hR, hp.mem_iff]
    by_cases hx : j < N.length
    · exact List.mem_append_left _ (h.all j hx)
    · refine List.mem_append_right _ (List.mem_map.2 ⟨((j - N.length : Nat) : Int), g.all _ (by omega), ?_⟩)
      omega
end Tr
end Go.Proofs.YtcgllipcnmlkbaaDoor
namespace Go.Proofs.YtcgllipcnmlkbaaDoor
namespace Rx
open Sets Tr
/-- m has l's bytes from s on, and behind them its end or the mark of a part -/
structure Emb (l m : List Nat) (s : Nat) : Prop where
  at_ : ∀ p, p < l.length → pk m (s + p) = pk l p
  en : pk m (s + l.length) = 256 ∨ pk m (s + l.length) = 38
  le : s + l.length ≤ m.length
  by_ : ∀ x ∈ l, x < 256
theorem Emb.lt {l m : List Nat} {s : Nat} (_ : Emb l m s) {p : Nat} (h : pk l p ≠ 256) (_ : p ≤ l.length) : p < l.length := by
  rcases Nat.lt_or_ge p l.length with h1 | h1
  · exact h1
  · exact absurd (pk_end h1) h
/-- a byte that is not the mark of a part: here as there -/
theorem Emb.is {l m : List Nat} {s : Nat} (e : Emb l m s) {p c : Nat} (hp : p ≤ l.length) (h1 : c ≠ 256) (h2 : c ≠ 38) : pk m (s + p) = c ↔ pk l p = c := by
  rcases Nat.lt_or_ge p l.length with h | h
  · rw [e.at_ p h]
  · obtain rfl : p = l.length := by omega
    have h3 := pk_end (l := l) (p := l.length) (Nat.le_refl _)
    constructor
    · intro h4; rcases e.en with h5 | h5 <;> omega
    · intro h4; omega
theorem hx_e {l m : List Nat} {s : Nat} (e : Emb l m s) {p x : Nat} (h : hx l p = some x) : hx m (s + p) = some x := by
  have h1 := hx_some h
  unfold hx at *
  rw [show s + p + 2 = s + (p + 2) from by omega, show s + p + 3 = s + (p + 3) from by omega, e.at_ _ (by omega), e.at_ _ (by omega)]
  exact h
theorem single_e {l m : List Nat} {s : Nat} (e : Emb l m s) {k : List Nat} (hk : MOk k) {p x q : Nat} (h : single l k p = .ok x q) : single m k (s + p) = .ok x (s + q) := by
  have hb := single_ok hk e.by_ h
  unfold single at h ⊢
  split at h
  · cases h
  · rename_i h0
    have hp : p < l.length := by omega
    rw [e.at_ p hp, if_neg h0]
    split at h
    · rename_i h92
      rw [if_pos h92]
      unfold escape at h ⊢
      rw [show s + p + 1 = s + (p + 1) from by omega]
      split at h
      · rename_i hc
        have h1 := pk_lt (hk _ hc)
        injection h with h2 h3
        subst h2 h3
        rw [e.at_ _ h1, if_pos hc, show s + p + 2 = s + (p + 2) from by omega]
      · rename_i hc
        split at h
        · rename_i h120
          have h1 := pk_lt (l := l) (p := p + 1) (by omega)
          rw [e.at_ _ h1, if_neg hc, if_pos h120]
          split at h
          · rename_i y hy
            injection h with h2 h3
            subst h2 h3
            rw [hx_e e hy, show s + p + 4 = s + (p + 4) from by omega]
          · cases h
        · cases h
    · rename_i h92
      rw [if_neg h92]
      split at h
      · cases h
      · rename_i hc
        injection h with h2 h3
        subst h2 h3
        rw [if_neg hc, Nat.add_assoc]
theorem digit_e {l m : List Nat} {s : Nat} (e : Emb l m s) {p x q : Nat} (h : digit l p = .ok x q) : digit m (s + p) = .ok x (s + q) := by
  unfold digit at *
  split at h
  · rename_i h0
    have hp := pk_lt (l := l) (p := p) (by omega)
    injection h with h1 h2
    subst h1 h2
    rw [e.at_ p hp, if_pos h0, Nat.add_assoc]
  · cases h
theorem need_e {l m : List Nat} {s c : Nat} (e : Emb l m s) (hc : c < 256) {p q : Nat} {x y : Nat × Nat} (h : need l c p x = .ok y q) : need m c (s + p) x = .ok y (s + q) := by
  unfold need at *
  split at h
  · rename_i h0
    have hp := pk_lt (l := l) (p := p) (by omega)
    injection h with h1 h2
    subst h1 h2
    rw [e.at_ p hp, if_pos h0, Nat.add_assoc]
  · cases h
theorem counts_e {l m : List Nat} {s : Nat} (e : Emb l m s) {p q : Nat} {y : Nat × Nat} (h : counts l p = .ok y q) : counts m (s + p) = .ok y (s + q) := by
  unfold counts at h ⊢
  split at h
  · cases h
  · rename_i a p1 hd
    rw [digit_e e hd]
    have h1 := digit_ok hd
    simp only
    by_cases h44 : pk l p1 = 44
    · rw [if_pos h44] at h
      rw [if_pos ((e.is h1.2.2 (by decide) (by decide)).2 h44), Nat.add_assoc]
      split at h
      · cases h
      · rename_i b p2 hd2
        rw [digit_e e hd2]
        simp only
        split at h
        · cases h
        · rename_i hba
          rw [if_neg hba]
          exact need_e e (by decide) h
    · rw [if_neg h44] at h
      rw [if_neg (fun h2 => h44 ((e.is h1.2.2 (by decide) (by decide)).1 h2))]
      exact need_e e (by decide) h
theorem times_e {l m : List Nat} {s : Nat} (e : Emb l m s) {p q : Nat} {y : Option (Int × Int)} (hp : p ≤ l.length) (h : times l p = .ok y q) : times m (s + p) = .ok y (s + q) := by
  unfold times at h ⊢
  have i1 := e.is (p := p) (c := 42) hp (by decide) (by decide)
  have i2 := e.is (p := p) (c := 43) hp (by decide) (by decide)
  have i3 := e.is (p := p) (c := 63) hp (by decide) (by decide)
  have i4 := e.is (p := p) (c := 123) hp (by decide) (by decide)
  by_cases h1 : pk l p = 42
  · rw [if_pos h1] at h; rw [if_pos (i1.2 h1)]; injection h with h5 h6; subst h5 h6; rw [Nat.add_assoc]
  · rw [if_neg h1] at h; rw [if_neg (fun h5 => h1 (i1.1 h5))]
    by_cases h2 : pk l p = 43
    · rw [if_pos h2] at h; rw [if_pos (i2.2 h2)]; injection h with h5 h6; subst h5 h6; rw [Nat.add_assoc]
    · rw [if_neg h2] at h; rw [if_neg (fun h5 => h2 (i2.1 h5))]
      by_cases h3 : pk l p = 63
      · rw [if_pos h3] at h; rw [if_pos (i3.2 h3)]; injection h with h5 h6; subst h5 h6; rw [Nat.add_assoc]
      · rw [if_neg h3] at h; rw [if_neg (fun h5 => h3 (i3.1 h5))]
        by_cases h4 : pk l p = 123
        · rw [if_pos h4] at h; rw [if_pos (i4.2 h4)]
          split at h
          · rename_i a b q2 hcn
            injection h with h5 h6
            subst h5 h6
            rw [Nat.add_assoc, counts_e e hcn]
          · cases h
        · rw [if_neg h4] at h; rw [if_neg (fun h5 => h4 (i4.1 h5))]
          injection h with h5 h6; subst h5 h6; rfl
theorem times_le {l : List Nat} {p q : Nat} {y : Option (Int × Int)} (hp : p ≤ l.length) (h : times l p = .ok y q) : q ≤ l.length := by
  unfold times at h
  by_cases h1 : pk l p = 42
  · rw [if_pos h1] at h; injection h with h5 h6; have := pk_lt (l := l) (p := p) (by omega); omega
  · rw [if_neg h1] at h
    by_cases h2 : pk l p = 43
    · rw [if_pos h2] at h; injection h with h5 h6; have := pk_lt (l := l) (p := p) (by omega); omega
    · rw [if_neg h2] at h
      by_cases h3 : pk l p = 63
      · rw [if_pos h3] at h; injection h with h5 h6; have := pk_lt (l := l) (p := p) (by omega); omega
      · rw [if_neg h3] at h
        by_cases h4 : pk l p = 123
        · rw [if_pos h4] at h
          split at h
          · rename_i a b q2 hcn
            injection h with h5 h6
            subst h6
            unfold counts at hcn
            split at hcn
            · cases hcn
            · split at hcn
              · split at hcn
                · cases hcn
                · split at hcn
                  · cases hcn
                  · exact (need_ok (by decide) hcn).2.2
              · exact (need_ok (by decide) hcn).2.2
          · cases h
        · rw [if_neg h4] at h; injection h with h5 h6; omega
theorem inner_mok : MOk inner := fun _ => inner_lt
theorem marks_mok : MOk marks := fun _ => marks_lt
theorem item_e {l m : List Nat} {s : Nat} (e : Emb l m s) {p x q : Nat} (h : item l p = .ok x q) : item m (s + p) = .ok x (s + q) := by
  unfold item at h ⊢
  split at h
  · cases h
  · rename_i a p1 hs
    have hb := single_ok inner_mok e.by_ hs
    rw [single_e e inner_mok hs]
    simp only
    by_cases h45 : pk l p1 = 45
    · rw [if_pos h45] at h
      rw [if_pos ((e.is hb.2.2 (by decide) (by decide)).2 h45), Nat.add_assoc]
      split at h
      · cases h
      · rename_i b p2 hs2
        rw [single_e e inner_mok hs2]
        simp only
        split at h
        · cases h
        · rename_i hba
          rw [if_neg hba]
          injection h with h5 h6
          subst h5 h6
          rfl
    · rw [if_neg h45] at h
      rw [if_neg (fun h2 => h45 ((e.is hb.2.2 (by decide) (by decide)).1 h2))]
      injection h with h5 h6
      subst h5 h6
      rfl
theorem item_le {l : List Nat} (hl : ∀ x ∈ l, x < 256) {p x q : Nat} (h : item l p = .ok x q) : p < l.length ∧ q ≤ l.length := by
  unfold item at h
  split at h
  · cases h
  · rename_i a p1 hs
    have hb := single_ok inner_mok hl hs
    split at h
    · split at h
      · cases h
      · rename_i b p2 hs2
        have hb2 := single_ok inner_mok hl hs2
        split at h
        · cases h
        · injection h with h5 h6; omega
    · injection h with h5 h6; omega
theorem clsL_e {l m : List Nat} {s : Nat} (e : Emb l m s) : ∀ (f g S p : Nat) {T q : Nat}, p ≤ l.length → f ≤ g → clsL l f S p = .ok T q → clsL m g S (s + p) = .ok T (s + q)
  | 0, g, S, p, T, q, _, _, h => by unfold clsL at h; cases h
  | f + 1, 0, S, p, T, q, _, hg, h => by omega
  | f + 1, g + 1, S, p, T, q, hp, hg, h => by
    unfold clsL at h ⊢
    by_cases h93 : pk l p = 93
    · rw [if_pos h93] at h
      rw [if_pos ((e.is hp (by decide) (by decide)).2 h93)]
      injection h with h5 h6
      subst h5 h6
      rw [Nat.add_assoc]
    · rw [if_neg h93] at h
      rw [if_neg (fun h2 => h93 ((e.is hp (by decide) (by decide)).1 h2))]
      split at h
      · cases h
      · rename_i U p1 hi
        rw [item_e e hi]
        exact clsL_e e f g (S ||| U) p1 (item_le e.by_ hi).2 (by omega) h
theorem clsL_le {l : List Nat} (hl : ∀ x ∈ l, x < 256) : ∀ (f S p : Nat) {T q : Nat}, clsL l f S p = .ok T q → q ≤ l.length
  | 0, S, p, T, q, h => by unfold clsL at h; cases h
  | f + 1, S, p, T, q, h => by
    unfold clsL at h
    split at h
    · rename_i h93
      injection h with h5 h6
      have := pk_lt (l := l) (p := p) (by omega)
      omega
    · split at h
      · cases h
      · exact clsL_le hl f _ _ h
theorem cls_e {l m : List Nat} {s : Nat} (e : Emb l m s) {p T q : Nat} (hp : p ≤ l.length) (h : cls l p = .ok T q) : cls m (s + p) = .ok T (s + q) ∧ q ≤ l.length := by
  have hle := e.le
  unfold cls at h ⊢
  by_cases h94 : pk l p = 94
  · rw [if_pos h94] at h
    rw [if_pos ((e.is hp (by decide) (by decide)).2 h94)]
    have hlt := pk_lt (l := l) (p := p) (by omega)
    split at h
    · rename_i S q2 hc
      injection h with h5 h6
      subst h5 h6
      rw [Nat.add_assoc, clsL_e e _ (m.length + 1) 0 (p + 1) (by omega) (by omega) hc]
      exact ⟨rfl, clsL_le e.by_ _ _ _ hc⟩
    · cases h
  · rw [if_neg h94] at h
    rw [if_neg (fun h2 => h94 ((e.is hp (by decide) (by decide)).1 h2))]
    exact ⟨clsL_e e _ (m.length + 1) 0 p hp (by omega) h, clsL_le e.by_ _ _ _ h⟩
theorem ends_e {l m : List Nat} {s : Nat} (e : Emb l m s) {p : Nat} (hp : p ≤ l.length) : ends m (s + p) = ends l p := by
  unfold ends
  rcases Nat.lt_or_ge p l.length with h | h
  · rw [e.at_ p h]
  · obtain rfl : p = l.length := by omega
    have h3 := pk_end (l := l) (p := l.length) (Nat.le_refl _)
    rw [h3]
    rcases e.en with h5 | h5 <;> rw [h5] <;> rfl
theorem bind_ok {g : G} {k : Nat → Nat → List Nd → G} {n q : Nat} {ns : List Nd} (h : g.bind k = .ok n q ns) : ∃ n1 q1 ns1, g = .ok n1 q1 ns1 ∧ k n1 q1 ns1 = .ok n q ns := by
  cases g with
  | ok n1 q1 ns1 => exact ⟨n1, q1, ns1, rfl, h⟩
  | bad b p => cases h
theorem lbind_ok {α : Type} {g : L α} {k : α → Nat → G} {n q : Nat} {ns : List Nd} (h : g.bind k = .ok n q ns) : ∃ x q1, g = .ok x q1 ∧ k x q1 = .ok n q ns := by
  cases g with
  | ok x q1 => exact ⟨x, q1, rfl, h⟩
  | bad p => cases h
/-- nodes behind others -/
def sft (P ns : List Nd) : List Nd := P ++ ns.map (shN P.length)
theorem sft_len (P ns : List Nd) : (sft P ns).length = ns.length + P.length := by unfold sft; rw [List.length_append, List.length_map, Nat.add_comm]
theorem sft_snoc (P ns : List Nd) (x : Nd) : sft P (ns ++ [x]) = sft P ns ++ [shN P.length x] := by unfold sft; rw [List.map_append, List.append_assoc]; rfl
def upM (K : Nat) : Md → Md
  | .pat => .pat
  | .patL n => .patL (n + K)
  | .bra => .bra
  | .braL n => .braL (n + K)
  | .pie => .pie
  | .ato => .ato
theorem go_e {l m : List Nat} {s : Nat} (e : Emb l m s) (P : List Nd) : ∀ (f g : Nat) (md : Md) (o p : Nat) (ns : List Nd) {n q : Nat} {ns' : List Nd}, p ≤ l.length → f ≤ g → go l f md o p ns = .ok n q ns' →
    go m g (upM P.length md) o (s + p) (sft P ns) = .ok (n + P.length) (s + q) (sft P ns') ∧ q ≤ l.length
  | 0, g, md, o, p, ns, n, q, ns', _, _, h => by unfold go at h; cases h
  | f + 1, 0, md, o, p, ns, n, q, ns', _, hg, h => by omega
  | f + 1, g + 1, .pat, o, p, ns, n, q, ns', hp, hg, h => by
    unfold go at h
    obtain ⟨n1, q1, ns1, h1, h2⟩ := bind_ok h
    obtain ⟨h3, h4⟩ := go_e e P f g .bra o p ns hp (by omega) h1
    obtain ⟨h5, h6⟩ := go_e e P f g (.patL n1) o q1 ns1 h4 (by omega) h2
    refine ⟨?_, h6⟩
    show go m (g + 1) .pat o (s + p) (sft P ns) = _
    unfold go
    rw [show go m g .bra o (s + p) (sft P ns) = _ from h3]
    exact h5
  | f + 1, g + 1, .patL n0, o, p, ns, n, q, ns', hp, hg, h => by
    unfold go at h
    show go m (g + 1) (.patL (n0 + P.length)) o (s + p) (sft P ns) = _ ∧ _
    unfold go
    by_cases h1 : pk l p = 124
    · rw [if_pos h1] at h
      rw [if_pos ((e.is hp (by decide) (by decide)).2 h1)]
      have hlt := pk_lt (l := l) (p := p) (by omega)
      obtain ⟨n1, q1, ns1, h2, h3⟩ := bind_ok h
      obtain ⟨h4, h5⟩ := go_e e P f g .bra o (p + 1) ns (by omega) (by omega) h2
      obtain ⟨h6, h7⟩ := go_e e P f g (.patL ns1.length) o q1 (ns1 ++ [⟨4, 0, n0, n1, 0, 0⟩]) h5 (by omega) h3
      refine ⟨?_, h7⟩
      rw [Nat.add_assoc, show go m g .bra o (s + (p + 1)) (sft P ns) = _ from h4]
      simp only [G.bind]
      rw [sft_len]
      rw [sft_snoc] at h6
      have hs : shN P.length (⟨4, 0, n0, n1, 0, 0⟩ : Nd) = ⟨4, 0, ((n0 + P.length : Nat) : Int), ((n1 + P.length : Nat) : Int), 0, 0⟩ := by unfold shN; simp
      rw [hs] at h6
      exact h6
    · rw [if_neg h1] at h
      rw [if_neg (fun h2 => h1 ((e.is hp (by decide) (by decide)).1 h2))]
      injection h with h2 h3 h4
      subst h2 h3 h4
      exact ⟨rfl, hp⟩
  | f + 1, g + 1, .bra, o, p, ns, n, q, ns', hp, hg, h => by
    unfold go at h
    show go m (g + 1) .bra o (s + p) (sft P ns) = _ ∧ _
    unfold go
    rw [ends_e e hp]
    by_cases h1 : ends l p = true
    · rw [if_pos h1] at h ⊢
      unfold add at h ⊢
      injection h with h2 h3 h4
      subst h2 h3 h4
      rw [sft_len, sft_snoc]
      exact ⟨rfl, hp⟩
    · rw [if_neg h1] at h ⊢
      obtain ⟨n1, q1, ns1, h2, h3⟩ := bind_ok h
      obtain ⟨h4, h5⟩ := go_e e P f g .pie o p ns hp (by omega) h2
      obtain ⟨h6, h7⟩ := go_e e P f g (.braL n1) o q1 ns1 h5 (by omega) h3
      refine ⟨?_, h7⟩
      rw [show go m g .pie o (s + p) (sft P ns) = _ from h4]
      exact h6
  | f + 1, g + 1, .braL n0, o, p, ns, n, q, ns', hp, hg, h => by
    unfold go at h
    show go m (g + 1) (.braL (n0 + P.length)) o (s + p) (sft P ns) = _ ∧ _
    unfold go
    rw [ends_e e hp]
    by_cases h1 : ends l p = true
    · rw [if_pos h1] at h ⊢
      injection h with h2 h3 h4
      subst h2 h3 h4
      exact ⟨rfl, hp⟩
    · rw [if_neg h1] at h ⊢
      obtain ⟨n1, q1, ns1, h2, h3⟩ := bind_ok h
      obtain ⟨h4, h5⟩ := go_e e P f g .pie o p ns hp (by omega) h2
      obtain ⟨h6, h7⟩ := go_e e P f g (.braL ns1.length) o q1 (ns1 ++ [⟨3, 0, n0, n1, 0, 0⟩]) h5 (by omega) h3
      refine ⟨?_, h7⟩
      rw [show go m g .pie o (s + p) (sft P ns) = _ from h4]
      simp only [G.bind]
      rw [sft_len]
      rw [sft_snoc] at h6
      have hs : shN P.length (⟨3, 0, n0, n1, 0, 0⟩ : Nd) = ⟨3, 0, ((n0 + P.length : Nat) : Int), ((n1 + P.length : Nat) : Int), 0, 0⟩ := by unfold shN; simp
      rw [hs] at h6
      exact h6
  | f + 1, g + 1, .pie, o, p, ns, n, q, ns', hp, hg, h => by
    unfold go at h
    show go m (g + 1) .pie o (s + p) (sft P ns) = _ ∧ _
    unfold go
    obtain ⟨n1, q1, ns1, h2, h3⟩ := bind_ok h
    obtain ⟨h4, h5⟩ := go_e e P f g .ato o p ns hp (by omega) h2
    rw [show go m g .ato o (s + p) (sft P ns) = _ from h4]
    obtain ⟨r, q2, h6, h7⟩ := lbind_ok h3
    have h8 := times_e e h5 h6
    have h9 := times_le h5 h6
    simp only [G.bind]
    rw [h8]
    simp only [L.bind]
    cases r with
    | none =>
      injection h7 with h10 h11 h12
      subst h10 h11 h12
      exact ⟨rfl, h9⟩
    | some ab =>
      obtain ⟨a, b⟩ := ab
      simp only [add] at h7 ⊢
      injection h7 with h10 h11 h12
      subst h10 h11 h12
      rw [sft_len, sft_snoc]
      have hs : shN P.length (⟨5, 0, n1, 0, a, b⟩ : Nd) = ⟨5, 0, ((n1 + P.length : Nat) : Int), 0, a, b⟩ := by unfold shN; simp
      rw [hs]
      exact ⟨rfl, h9⟩
  | f + 1, g + 1, .ato, o, p, ns, n, q, ns', hp, hg, h => by
    unfold go at h
    show go m (g + 1) .ato o (s + p) (sft P ns) = _ ∧ _
    unfold go
    by_cases h40 : pk l p = 40
    · rw [if_pos h40] at h
      rw [if_pos ((e.is hp (by decide) (by decide)).2 h40)]
      have hlt := pk_lt (l := l) (p := p) (by omega)
      by_cases ho : o = 16
      · rw [if_pos ho] at h; cases h
      · rw [if_neg ho] at h ⊢
        obtain ⟨n1, q1, ns1, h2, h3⟩ := bind_ok h
        obtain ⟨h4, h5⟩ := go_e e P f g .pat (o + 1) (p + 1) ns (by omega) (by omega) h2
        rw [Nat.add_assoc, show go m g .pat (o + 1) (s + (p + 1)) (sft P ns) = _ from h4]
        simp only [G.bind]
        by_cases h41 : pk l q1 = 41
        · rw [if_pos h41] at h3
          rw [if_pos ((e.is h5 (by decide) (by decide)).2 h41)]
          have := pk_lt (l := l) (p := q1) (by omega)
          injection h3 with h10 h11 h12
          subst h10 h11 h12
          rw [Nat.add_assoc]
          exact ⟨rfl, by omega⟩
        · rw [if_neg h41] at h3; cases h3
    · rw [if_neg h40] at h
      rw [if_neg (fun h2 => h40 ((e.is hp (by decide) (by decide)).1 h2))]
      have hset : ∀ S p1, addS S p1 ns = .ok n q ns' → addS S (s + p1) (sft P ns) = .ok (n + P.length) (s + q) (sft P ns') ∧ q = p1 := by
        intro S p1 h2
        unfold addS add at h2 ⊢
        injection h2 with h10 h11 h12
        subst h10 h11 h12
        rw [sft_len, sft_snoc]
        exact ⟨rfl, rfl⟩
      by_cases h91 : pk l p = 91
      · rw [if_pos h91] at h
        rw [if_pos ((e.is hp (by decide) (by decide)).2 h91)]
        have hlt := pk_lt (l := l) (p := p) (by omega)
        obtain ⟨S, q1, h2, h3⟩ := lbind_ok h
        obtain ⟨h4, h5⟩ := cls_e e (p := p + 1) (by omega) h2
        rw [Nat.add_assoc, h4]
        obtain ⟨h6, h7⟩ := hset S q1 h3
        exact ⟨h6, by omega⟩
      · rw [if_neg h91] at h
        rw [if_neg (fun h2 => h91 ((e.is hp (by decide) (by decide)).1 h2))]
        by_cases h46 : pk l p = 46
        · rw [if_pos h46] at h
          rw [if_pos ((e.is hp (by decide) (by decide)).2 h46)]
          have hlt := pk_lt (l := l) (p := p) (by omega)
          obtain ⟨h6, h7⟩ := hset full (p + 1) h
          rw [Nat.add_assoc]
          exact ⟨h6, by omega⟩
        · rw [if_neg h46] at h
          rw [if_neg (fun h2 => h46 ((e.is hp (by decide) (by decide)).1 h2))]
          obtain ⟨c, q1, h2, h3⟩ := lbind_ok h
          have hb := single_ok marks_mok e.by_ h2
          rw [single_e e marks_mok h2]
          obtain ⟨h6, h7⟩ := hset (2 ^ c) q1 h3
          exact ⟨h6, by omega⟩
end Rx
end Go.Proofs.YtcgllipcnmlkbaaDoor
namespace Go.Proofs.YtcgllipcnmlkbaaDoor
namespace Rx
open Sets Tr
theorem nots_e {l m : List Nat} {s : Nat} (e : Emb l m s) : ∀ (f g : Nat) (b : Bool) (p : Nat), p ≤ l.length → l.length < p + f → m.length < s + p + g → nots m g b (s + p) = ((nots l f b p).1, s + (nots l f b p).2)
  | 0, g, b, p, hp, hf, _ => by omega
  | f + 1, 0, b, p, hp, hf, hg => by have := e.le; omega
  | f + 1, g + 1, b, p, hp, hf, hg => by
    unfold nots
    by_cases h : pk l p = 33
    · rw [if_pos h, if_pos ((e.is hp (by decide) (by decide)).2 h)]
      have hlt := pk_lt (l := l) (p := p) (by omega)
      rw [Nat.add_assoc]
      exact nots_e e f g (!b) (p + 1) (by omega) (by omega) (by omega)
    · rw [if_neg h, if_neg (fun h2 => h ((e.is hp (by decide) (by decide)).1 h2))]
theorem nots_flip (l : List Nat) : ∀ (f : Nat) (b : Bool) (p : Nat), nots l f (!b) p = (!(nots l f b p).1, (nots l f b p).2)
  | 0, b, p => rfl
  | f + 1, b, p => by
    unfold nots
    split
    · exact nots_flip l f (!b) (p + 1)
    · rfl
def shP (K : Nat) (ps : List (Int × Bool)) : List (Int × Bool) := ps.map fun x => (x.1 + (K : Int), x.2)
theorem fl_le {l m : List Nat} {s : Nat} (e : Emb l m s) : fl l ≤ fl m := by unfold fl; have := e.le; omega
theorem prtE_e {l m : List Nat} {s : Nat} (e : Emb l m s) (P : List Nd) (ps0 ps : List (Int × Bool)) {ns ns' : List Nd} {ps' : List (Int × Bool)} {b : Bool} {p q : Nat} (hp : p ≤ l.length) (h : prtE l ns ps b p = .ok q ns' ps') :
    prtE m (sft P ns) (ps0 ++ shP P.length ps) b (s + p) = .ok (s + q) (sft P ns') (ps0 ++ shP P.length ps') ∧ q ≤ l.length := by
  unfold prtE at h ⊢
  split at h
  · rename_i n p1 ns1 hg
    obtain ⟨h1, h2⟩ := go_e e P (fl l) (fl m) .pat 0 p ns hp (fl_le e) hg
    rw [show go m (fl m) .pat 0 (s + p) (sft P ns) = _ from h1]
    injection h with h3 h4 h5
    subst h3 h4 h5
    refine ⟨?_, h2⟩
    simp only [shP, List.map_append, List.map_cons, List.map_nil, List.append_assoc, Int.natCast_add]
  · cases h
theorem prt_e {l m : List Nat} {s : Nat} (e : Emb l m s) (P : List Nd) (ps0 ps : List (Int × Bool)) {ns ns' : List Nd} {ps' : List (Int × Bool)} {p q : Nat} (hp : p ≤ l.length) (h : prt l p ns ps = .ok q ns' ps') :
    prt m (s + p) (sft P ns) (ps0 ++ shP P.length ps) = .ok (s + q) (sft P ns') (ps0 ++ shP P.length ps') ∧ q ≤ l.length := by
  unfold prt at h ⊢
  have hn := nots_ok (l := l) (l.length + 1) false p hp (by omega)
  rw [nots_e e (l.length + 1) (m.length + 1) false p hp (by omega) (by omega)]
  exact prtE_e e P ps0 ps hn.2.1 h
theorem prt_ge {l : List Nat} (hl : ∀ x ∈ l, x < 256) {p q : Nat} {ns ns' : List Nd} {ps ps' : List (Int × Bool)} (hp : p ≤ l.length) (h : prt l p ns ps = .ok q ns' ps') : p ≤ q := by
  have := prt_x (m := l) hl 0 p ns ps hp
  rw [h] at this
  exact this.1
theorem roots_not (R : List (Int × Bool)) : roots (R.map fun p => (p.1, !p.2)) = roots R := by unfold roots; rw [List.map_map]; rfl
theorem right_not {N : List Nd} {R : List (Int × Bool)} (h : Right N R) : Right N (R.map fun p => (p.1, !p.2)) :=
  ⟨by rw [List.length_map]; exact h.few, h.snd, h.low, by rw [roots_not]; exact h.rts, by rw [roots_not]; exact h.nod, by rw [roots_not]; exact h.all⟩
theorem not_not_R (R : List (Int × Bool)) : (R.map fun p => (p.1, !p.2)).map (fun p => (p.1, !p.2)) = R := by
  rw [List.map_map]
  refine (List.map_congr_left fun x _ => ?_).trans (List.map_id R)
  cases x; simp
theorem plOf_not (N : List Nd) (R : List (Int × Bool)) : plOf N (R.map fun p => (p.1, !p.2)) = plOf N R := by
  have hp : places N (R.map fun p => (p.1, !p.2)) = places N R := by unfold places; rw [List.map_map]; rfl
  have hb : rightB N (R.map fun p => (p.1, !p.2)) = rightB N R := by
    cases hh : rightB N R with
    | true => exact rightB_true (right_not (rightB_iff.1 hh))
    | false =>
      refine rightB_false (fun h => ?_)
      have := rightB_true (right_not h)
      rw [not_not_R, hh] at this
      cases this
  unfold plOf
  rw [hp, hb]
/-- what stands behind: read on, or too many parts -/
theorem prtsL_e {l m : List Nat} {s : Nat} (e : Emb l m s) (P : List Nd) (ps0 : List (Int × Bool)) : ∀ (f g p : Nat) (ns : List Nd) (ps : List (Int × Bool)) {q : Nat} {ns' : List Nd} {ps' : List (Int × Bool)}, p ≤ l.length → m.length < s + p + g → prtsL l f p ns ps = .ok q ns' ps' → q = l.length →
    (∃ p', prtsL m g (s + p) (sft P ns) (ps0 ++ shP P.length ps) = .bad true p' ∧ 20 < ps0.length + ps'.length) ∨ ∃ g', m.length < s + l.length + g' ∧ prtsL m g (s + p) (sft P ns) (ps0 ++ shP P.length ps) = prtsL m g' (s + l.length) (sft P ns') (ps0 ++ shP P.length ps')
  | 0, g, p, ns, ps, q, ns', ps', _, _, h, _ => by unfold prtsL at h; cases h
  | f + 1, 0, p, ns, ps, q, ns', ps', hp, hg, h, _ => by have := e.le; omega
  | f + 1, g + 1, p, ns, ps, q, ns', ps', hp, hg, h, hq => by
    unfold prtsL at h
    by_cases h38 : pk l p = 38
    · rw [if_pos h38] at h
      have hlt := pk_lt (l := l) (p := p) (by omega)
      by_cases h20 : ps.length = 20
      · rw [if_pos h20] at h; cases h
      · rw [if_neg h20] at h
        split at h
        · rename_i p1 ns1 ps1 h1
          have hle := prtsL_parts f p1 h
          have hle2 := prt_parts h1
          by_cases hm : (ps0 ++ shP P.length ps).length = 20
          · left
            refine ⟨s + p, ?_, ?_⟩
            · unfold prtsL
              rw [e.at_ p hlt, if_pos h38, if_pos hm]
            · rw [List.length_append, shP, List.length_map] at hm
              omega
          · obtain ⟨h2, h3⟩ := prt_e e P ps0 ps (p := p + 1) (by omega) h1
            have h4 := prt_ge e.by_ (p := p + 1) (by omega) h1
            rcases prtsL_e e P ps0 f g p1 ns1 ps1 h3 (by omega) h hq with ⟨p', h5, h6⟩ | ⟨g', h5, h6⟩
            · left
              refine ⟨p', ?_, h6⟩
              unfold prtsL
              rw [e.at_ p hlt, if_pos h38, if_neg hm, Nat.add_assoc, h2]
              exact h5
            · right
              refine ⟨g', h5, ?_⟩
              rw [← h6]
              conv => lhs; unfold prtsL
              rw [e.at_ p hlt, if_pos h38, if_neg hm, Nat.add_assoc, h2]
        · cases h
    · rw [if_neg h38] at h
      injection h with h1 h2 h3
      subst h2 h3
      right
      exact ⟨g + 1, by omega, by rw [← hq, ← h1]⟩
theorem sft_nil (P : List Nd) : sft P [] = P := by unfold sft; simp
theorem shP_nil (K : Nat) : shP K [] = [] := rfl
theorem shN_zero (x : Nd) : shN 0 x = x := by unfold shN; cases x; simp
theorem sft_zero (ns : List Nd) : sft [] ns = ns := by
  unfold sft
  rw [List.nil_append]
  exact (List.map_congr_left fun x _ => shN_zero x).trans (List.map_id ns)
theorem shP_zero (ps : List (Int × Bool)) : shP 0 ps = ps := by
  unfold shP
  refine (List.map_congr_left fun x _ => ?_).trans (List.map_id ps)
  cases x; simp
/-- what cons says of a text, opened -/
theorem cons_open {l : List Nat} {q : Nat} {N : List Nd} {R : List (Int × Bool)} (h : cons l = .ok q N R) :
    l.length ≤ 200 ∧ ∃ p1 ns1 ps1, prt l 0 [] [] = .ok p1 ns1 ps1 ∧ prtsL l (l.length + 1) p1 ns1 ps1 = .ok q N R ∧ ¬ q < l.length ∧ plOf N R ≤ 63 := by
  unfold cons at h
  split at h
  · cases h
  · rename_i h200
    split at h
    · cases h
    · rename_i p1 ns1 ps1 h1
      split at h
      · cases h
      · rename_i p2 ns2 ps2 h2
        split at h
        · cases h
        · rename_i h3
          split at h
          · cases h
          · rename_i h4
            injection h with h5 h6 h7
            subst h5 h6 h7
            exact ⟨by omega, p1, ns1, ps1, h1, h2, h3, by omega⟩
theorem cons_shut {l : List Nat} {p1 q : Nat} {ns1 N : List Nd} {ps1 R : List (Int × Bool)} (h : l.length ≤ 200) (h1 : prt l 0 [] [] = .ok p1 ns1 ps1) (h2 : prtsL l (l.length + 1) p1 ns1 ps1 = .ok q N R) (h3 : ¬ q < l.length) :
    cons l = if 63 < plOf N R then .bad true q else .ok q N R := by
  unfold cons
  rw [if_neg (by omega), h1]
  simp only
  rw [h2]
  simp only
  rw [if_neg h3]
theorem prtsL_le {l m : List Nat} {s : Nat} (e : Emb l m s) : ∀ (f p : Nat) (ns : List Nd) (ps : List (Int × Bool)) {q : Nat} {ns' : List Nd} {ps' : List (Int × Bool)}, p ≤ l.length → prtsL l f p ns ps = .ok q ns' ps' → q ≤ l.length
  | 0, p, ns, ps, q, ns', ps', _, h => by unfold prtsL at h; cases h
  | f + 1, p, ns, ps, q, ns', ps', hp, h => by
    unfold prtsL at h
    split at h
    · rename_i h38
      have hlt := pk_lt (l := l) (p := p) (by omega)
      split at h
      · cases h
      · split at h
        · rename_i p1 ns1 ps1 h1
          exact prtsL_le e f p1 ns1 ps1 (prt_e e [] [] ps (p := p + 1) (by omega) h1).2 h
        · cases h
    · injection h with h1 h2 h3; omega
/-- two texts, with the mark of a part between them -/
theorem cons_and {a b : List Nat} (ha : ∀ x ∈ a, x < 256) (hb : ∀ x ∈ b, x < 256) {x y : Nat} {N M : List Nd} {R S : List (Int × Bool)} (h : cons a = .ok x N R) (g : cons b = .ok y M S) :
    (∃ p, cons (a ++ 38 :: b) = .bad true p) ∨ ∃ z, cons (a ++ 38 :: b) = .ok z (sft N M) (R ++ shP N.length S) ∧ plOf (sft N M) (R ++ shP N.length S) ≤ 63 := by
  obtain ⟨a200, p1, ns1, ps1, a1, a2, a3, a4⟩ := cons_open h
  obtain ⟨b200, p2, ns2, ps2, b1, b2, b3, b4⟩ := cons_open g
  have ea : Emb a (a ++ 38 :: b) 0 := by
    refine ⟨fun p hp => ?_, .inr ?_, by simp, ha⟩
    · unfold pk; rw [Nat.zero_add, List.getD_eq_getElem?_getD, List.getElem?_append_left hp, List.getD_eq_getElem?_getD]
    · unfold pk; rw [Nat.zero_add, List.getD_eq_getElem?_getD, List.getElem?_append_right (Nat.le_refl _), Nat.sub_self]; rfl
  have eb : Emb b (a ++ 38 :: b) (a.length + 1) := by
    refine ⟨fun p hp => ?_, .inl ?_, by simp; omega, hb⟩
    · unfold pk; rw [List.getD_eq_getElem?_getD, List.getElem?_append_right (by omega), show a.length + 1 + p - a.length = p + 1 from by omega, List.getElem?_cons_succ, List.getD_eq_getElem?_getD]
    · exact pk_end (by simp; omega)
  have hlen : (a ++ 38 :: b).length = a.length + b.length + 1 := by simp; omega
  by_cases h200 : 200 < (a ++ 38 :: b).length
  · left; exact ⟨200, by unfold cons; rw [if_pos h200]⟩
  obtain ⟨c1, c2⟩ := prt_e ea [] [] [] (p := 0) (Nat.zero_le _) a1
  rw [sft_nil, List.length_nil, shP_nil, List.append_nil, sft_zero, shP_zero, List.nil_append, Nat.zero_add, Nat.zero_add] at c1
  have hx : x = a.length := by
    have := prtsL_le ea _ _ _ _ c2 a2
    omega
  have hy : y = b.length := by
    have := prtsL_le eb _ _ _ _ (prt_e eb [] [] [] (p := 0) (Nat.zero_le _) b1).2 b2
    omega
  rcases prtsL_e ea [] [] (a.length + 1) ((a ++ 38 :: b).length + 1) p1 ns1 ps1 c2 (by omega) a2 hx with ⟨p', d1, d2⟩ | ⟨g1, d1, d2⟩
  · have hps := (cons_good ha h).2.2.2.1
    rw [List.length_nil] at d2
    omega
  rw [List.length_nil, shP_zero, shP_zero, sft_zero, sft_zero, List.nil_append, List.nil_append, Nat.zero_add, Nat.zero_add] at d2
  have hbad : ∀ p', prtsL (a ++ 38 :: b) ((a ++ 38 :: b).length + 1) p1 ns1 ps1 = .bad true p' → ∃ p, cons (a ++ 38 :: b) = .bad true p := by
    intro p' hh
    refine ⟨p', ?_⟩
    unfold cons
    rw [if_neg h200, c1]
    simp only
    rw [hh]
  have h38 : pk (a ++ 38 :: b) a.length = 38 := by
    rcases ea.en with h5 | h5
    · rw [Nat.zero_add] at h5
      unfold pk at h5
      rw [List.getD_eq_getElem?_getD, List.getElem?_append_right (Nat.le_refl _), Nat.sub_self] at h5
      cases h5
    · rw [Nat.zero_add] at h5; exact h5
  cases g1 with
  | zero => omega
  | succ g1 =>
    have d3 : prtsL (a ++ 38 :: b) (g1 + 1) a.length N R = (if R.length = 20 then .bad true a.length else match prt (a ++ 38 :: b) (a.length + 1) N R with
      | .ok p ns ps => prtsL (a ++ 38 :: b) g1 p ns ps
      | .bad lg p => .bad lg p) := by
      conv => lhs; unfold prtsL
      rw [if_pos h38]
      rfl
    by_cases h20 : R.length = 20
    · rw [if_pos h20] at d3
      left; exact hbad _ (d2.trans d3)
    · rw [if_neg h20] at d3
      obtain ⟨f1, f2⟩ := prt_e eb N R [] (p := 0) (Nat.zero_le _) b1
      rw [sft_nil, shP_nil, List.append_nil, Nat.add_zero] at f1
      rw [f1] at d3
      rcases prtsL_e eb N R (b.length + 1) g1 p2 ns2 ps2 f2 (by omega) b2 hy with ⟨p', k1, k2⟩ | ⟨g2, k1, k2⟩
      · left
        exact hbad p' ((d2.trans d3).trans k1)
      · have hend : pk (a ++ 38 :: b) (a.length + 1 + b.length) ≠ 38 := by rw [pk_end (by omega)]; decide
        cases g2 with
        | zero => omega
        | succ g2 =>
          have k3 : prtsL (a ++ 38 :: b) (g2 + 1) (a.length + 1 + b.length) (sft N M) (R ++ shP N.length S) = .ok (a.length + 1 + b.length) (sft N M) (R ++ shP N.length S) := by
            unfold prtsL; rw [if_neg hend]
          have hall := ((d2.trans d3).trans k2).trans k3
          have hc := cons_shut (by omega) c1 hall (by omega)
          by_cases h63 : 63 < plOf (sft N M) (R ++ shP N.length S)
          · rw [if_pos h63] at hc
            left; exact ⟨_, hc⟩
          · rw [if_neg h63] at hc
            right; exact ⟨_, hc, by omega⟩
/-- marks ahead of a text -/
theorem cons_ahead {a u : List Nat} (ha : ∀ x ∈ a, x < 256) (fb : Bool) {x : Nat} {N : List Nd} {R : List (Int × Bool)} (h : cons a = .ok x N R) (hl : (u ++ a).length ≤ 200)
    (hu : ∀ f, (u ++ a).length < f → nots (u ++ a) f false 0 = nots (u ++ a) (f - u.length) fb u.length) (h1 : fb = true → ∀ c ∈ a, c ≠ 38) :
    ∃ z, cons (u ++ a) = .ok z N (if fb then R.map (fun p => (p.1, !p.2)) else R) := by
  obtain ⟨a200, p1, ns1, ps1, a1, a2, a3, a4⟩ := cons_open h
  have e : Emb a (u ++ a) u.length := by
    refine ⟨fun p hp => ?_, .inl (pk_end (by simp)), by simp, ha⟩
    unfold pk; rw [List.getD_eq_getElem?_getD, List.getElem?_append_right (by omega), Nat.add_sub_cancel_left, List.getD_eq_getElem?_getD]
  have hlen : (u ++ a).length = u.length + a.length := List.length_append
  have hn := nots_ok (l := a) (a.length + 1) false 0 (Nat.zero_le _) (by omega)
  have n1 : nots (u ++ a) ((u ++ a).length + 1) false 0 = ((nots a (a.length + 1) fb 0).1, u.length + (nots a (a.length + 1) false 0).2) := by
    rw [hu _ (by omega)]
    have := nots_e e (a.length + 1) ((u ++ a).length + 1 - u.length) fb 0 (Nat.zero_le _) (by omega) (by omega)
    rw [show nots (u ++ a) ((u ++ a).length + 1 - u.length) fb u.length = _ from this]
    cases fb with
    | false => rfl
    | true => rw [show (true : Bool) = !false from rfl, nots_flip]
  have hx : x = a.length := by
    have := prtsL_le e _ _ _ _ (prt_e e [] [] [] (p := 0) (Nat.zero_le _) a1).2 a2
    omega
  cases fb with
  | false =>
    have p0 : prt (u ++ a) 0 [] [] = .ok (u.length + p1) ns1 ps1 := by
      unfold prt at a1 ⊢
      rw [n1]
      obtain ⟨k1, -⟩ := prtE_e e [] [] [] hn.2.1 a1
      rw [sft_nil, List.length_nil, shP_nil, sft_zero, shP_zero, List.append_nil, List.nil_append] at k1
      exact k1
    rcases prtsL_e e [] [] (a.length + 1) ((u ++ a).length + 1) p1 ns1 ps1 (prt_e e [] [] [] (p := 0) (Nat.zero_le _) a1).2 (by omega) a2 hx with ⟨p', d1, d2⟩ | ⟨g1, d1, d2⟩
    · have hps := (cons_good ha h).2.2.2.1
      rw [List.length_nil] at d2
      omega
    · rw [List.length_nil, shP_zero, shP_zero, sft_zero, sft_zero, List.nil_append, List.nil_append] at d2
      cases g1 with
      | zero => omega
      | succ g1 =>
        have k3 : prtsL (u ++ a) (g1 + 1) (u.length + a.length) N R = .ok (u.length + a.length) N R := by
          unfold prtsL; rw [if_neg (by rw [pk_end (by omega)]; decide)]
        have hc := cons_shut hl p0 (d2.trans k3) (by omega)
        rw [if_neg (by omega)] at hc
        exact ⟨_, hc⟩
  | true =>
    have hno : pk a p1 ≠ 38 := by
      intro h5
      have hlt := pk_lt (l := a) (p := p1) (by omega)
      unfold pk at h5
      rw [List.getD_eq_getElem?_getD, List.getElem?_eq_getElem hlt] at h5
      exact h1 rfl _ (List.getElem_mem hlt) h5
    have a5 : p1 = x ∧ ns1 = N ∧ ps1 = R := by
      unfold prtsL at a2
      rw [if_neg hno] at a2
      injection a2 with h5 h6 h7
      exact ⟨h5, h6, h7⟩
    obtain ⟨rfl, rfl, rfl⟩ := a5
    have p0 : prt (u ++ a) 0 [] [] = .ok (u.length + p1) ns1 (ps1.map fun p => (p.1, !p.2)) := by
      unfold prt at a1 ⊢
      rw [n1]
      have hf : (nots a (a.length + 1) true 0).1 = !(nots a (a.length + 1) false 0).1 := by rw [show (true : Bool) = !false from rfl, nots_flip]
      rw [hf]
      unfold prtE at a1 ⊢
      split at a1
      · rename_i n q ns2 hg
        obtain ⟨k1, k2⟩ := go_e e [] (fl a) (fl (u ++ a)) .pat 0 _ [] hn.2.1 (fl_le e) hg
        rw [sft_nil, List.length_nil, sft_zero, Nat.add_zero] at k1
        rw [show go (u ++ a) (fl (u ++ a)) .pat 0 (u.length + (nots a (a.length + 1) false 0).2) [] = _ from k1]
        injection a1 with h5 h6 h7
        subst h5 h6 h7
        rfl
      · cases a1
    have k3 : prtsL (u ++ a) ((u ++ a).length + 1) (u.length + p1) ns1 (ps1.map fun p => (p.1, !p.2)) = .ok (u.length + p1) ns1 (ps1.map fun p => (p.1, !p.2)) := by
      unfold prtsL; rw [if_neg (by rw [pk_end (by omega)]; decide)]
    have hc := cons_shut hl p0 k3 (by omega)
    have hpl : plOf ns1 (ps1.map fun p => (p.1, !p.2)) = plOf ns1 ps1 := plOf_not ns1 ps1
    rw [if_neg (by omega)] at hc
    exact ⟨_, hc⟩
end Rx
end Go.Proofs.YtcgllipcnmlkbaaDoor
