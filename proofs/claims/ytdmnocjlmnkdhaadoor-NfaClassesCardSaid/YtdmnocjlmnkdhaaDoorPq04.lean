/- Automata made state by state (no program). -/
import Derived.Test.YtdmnocjlmnkdhaaDoorPq00
import Derived.Test.YtdmnocjlmnkdhaaDoorPq03
namespace Go.Proofs.YtdmnocjlmnkdhaaDoor
namespace Df
section
variable {σ : Type} [DecidableEq σ]
/-- The place of s in l; as long as l, if it is not there. -/
def ix : List σ → σ → Nat
  | [], _ => 0
  | x :: l, s => if x = s then 0 else ix l s + 1
def put (L : List σ) (s : σ) : List σ := if s ∈ L then L else L ++ [s]
def puts (f : Nat → σ) (L : List σ) : Nat → List σ
  | 0 => L
  | c + 1 => put (puts f L c) (f c)
theorem ix_lt : ∀ {L : List σ} {s : σ}, s ∈ L → ix L s < L.length
  | x :: l, s, h => by
    unfold ix
    by_cases e : x = s
    · rw [if_pos e]; simp
    · rw [if_neg e]
      have := ix_lt (L := l) (s := s) (by rcases List.mem_cons.1 h with h | h; exact absurd h.symm e; exact h)
      simp; exact this
theorem ix_out : ∀ {L : List σ} {s : σ}, s ∉ L → ix L s = L.length
  | [], _, _ => rfl
  | x :: l, s, h => by
    unfold ix
    rw [if_neg (fun e => h (by rw [e]; exact List.mem_cons_self ..)), ix_out (fun hm => h (List.mem_cons_of_mem _ hm))]; rfl
theorem ix_le (L : List σ) (s : σ) : ix L s ≤ L.length := by
  by_cases h : s ∈ L
  · exact Nat.le_of_lt (ix_lt h)
  · rw [ix_out h]; exact Nat.le_refl _
theorem ix_get : ∀ {L : List σ} {s : σ}, s ∈ L → L[ix L s]? = some s
  | x :: l, s, h => by
    unfold ix
    by_cases e : x = s
    · rw [if_pos e, e]; rfl
    · rw [if_neg e, List.getElem?_cons_succ]
      exact ix_get (by rcases List.mem_cons.1 h with h | h; exact absurd h.symm e; exact h)
theorem ix_app : ∀ {L : List σ} {s : σ} (M : List σ), s ∈ L → ix (L ++ M) s = ix L s
  | x :: l, s, M, h => by
    rw [List.cons_append]
    unfold ix
    by_cases e : x = s
    · rw [if_pos e, if_pos e]
    · rw [if_neg e, if_neg e, ix_app M (by rcases List.mem_cons.1 h with h | h; exact absurd h.symm e; exact h)]
theorem ix_at : ∀ {L : List σ} {i : Nat} {s : σ}, L.Nodup → L[i]? = some s → ix L s = i
  | x :: l, 0, s, _, h => by
    simp at h; subst h; unfold ix; rw [if_pos rfl]
  | x :: l, i + 1, s, hn, h => by
    rw [List.getElem?_cons_succ] at h
    have hm : s ∈ l := List.mem_of_getElem? h
    have hne : x ≠ s := fun e => (List.nodup_cons.1 hn).1 (e ▸ hm)
    unfold ix
    rw [if_neg hne, ix_at (List.nodup_cons.1 hn).2 h]
theorem put_old {L : List σ} {s : σ} (h : s ∈ L) : put L s = L := if_pos h
theorem put_new {L : List σ} {s : σ} (h : s ∉ L) : put L s = L ++ [s] := if_neg h
theorem put_pre (L : List σ) (s : σ) : ∃ M, put L s = L ++ M := by
  by_cases h : s ∈ L
  · exact ⟨[], by rw [put_old h, List.append_nil]⟩
  · exact ⟨[s], put_new h⟩
theorem mem_put (L : List σ) (s x : σ) : x ∈ put L s ↔ x ∈ L ∨ x = s := by
  by_cases h : s ∈ L
  · rw [put_old h]
    exact ⟨.inl, fun k => k.elim id (fun e => e ▸ h)⟩
  · rw [put_new h, List.mem_append, List.mem_singleton]
theorem put_nodup {L : List σ} (h : L.Nodup) (s : σ) : (put L s).Nodup := by
  by_cases hs : s ∈ L
  · rw [put_old hs]; exact h
  · rw [put_new hs]
    rw [List.nodup_append]
    refine ⟨h, by simp, fun a ha b hb => ?_⟩
    rw [List.mem_singleton] at hb
    subst hb
    exact fun e => hs (e ▸ ha)
theorem ix_put (L : List σ) (s : σ) : ix (put L s) s = ix L s := by
  by_cases h : s ∈ L
  · rw [put_old h]
  · rw [put_new h, ix_out h]
    have : ∀ (L : List σ), s ∉ L → ix (L ++ [s]) s = L.length := by
      intro L
      induction L with
      | nil => intro _; show ix [s] s = 0; unfold ix; rw [if_pos rfl]
      | cons x l ih =>
        intro h
        rw [List.cons_append]
        unfold ix
        rw [if_neg (fun e => h (by rw [e]; exact List.mem_cons_self ..)), ih (fun hm => h (List.mem_cons_of_mem _ hm))]; rfl
    exact this L h
theorem puts_pre (f : Nat → σ) (L : List σ) : ∀ c d, ∃ M, puts f L (c + d) = puts f L c ++ M
  | _, 0 => ⟨[], by simp⟩
  | c, d + 1 => by
    obtain ⟨M, hM⟩ := puts_pre f L c d
    obtain ⟨K, hK⟩ := put_pre (puts f L (c + d)) (f (c + d))
    refine ⟨M ++ K, ?_⟩
    show put (puts f L (c + d)) (f (c + d)) = _
    rw [hK, hM, List.append_assoc]
theorem puts_nodup {L : List σ} (h : L.Nodup) (f : Nat → σ) : ∀ c, (puts f L c).Nodup
  | 0 => h
  | c + 1 => put_nodup (puts_nodup h f c) _
theorem mem_puts (f : Nat → σ) (L : List σ) (x : σ) : ∀ c, x ∈ puts f L c ↔ x ∈ L ∨ ∃ d, d < c ∧ x = f d
  | 0 => ⟨.inl, fun h => h.elim id (fun ⟨d, hd, _⟩ => absurd hd (Nat.not_lt_zero _))⟩
  | c + 1 => by
    show x ∈ put (puts f L c) (f c) ↔ _
    rw [mem_put, mem_puts f L x c]
    constructor
    · rintro ((h | ⟨d, hd, h⟩) | h)
      · exact .inl h
      · exact .inr ⟨d, by omega, h⟩
      · exact .inr ⟨c, by omega, h⟩
    · rintro (h | ⟨d, hd, h⟩)
      · exact .inl (.inl h)
      · by_cases e : d = c
        · exact .inr (e ▸ h)
        · exact .inl (.inr ⟨d, by omega, h⟩)
/-- The numbers of the first c classes. -/
def rowTo (f : Nat → σ) (L : List σ) (c : Nat) : List Int := (List.range c).map fun d => ((ix (puts f L c) (f d) : Nat) : Int)
theorem rowTo_len (f : Nat → σ) (L : List σ) (c : Nat) : (rowTo f L c).length = c := by unfold rowTo; simp
theorem rowTo_get (f : Nat → σ) (L : List σ) (c d : Nat) (h : d < c) : (rowTo f L c).getD d 0 = (ix (puts f L c) (f d) : Nat) := by
  unfold rowTo
  rw [List.getD_eq_getElem?_getD, List.getElem?_map, List.getElem?_range h]; rfl
theorem ix_puts (f : Nat → σ) (L : List σ) (c d : Nat) (h : d < c) : ix (puts f L (c + 1)) (f d) = ix (puts f L c) (f d) := by
  obtain ⟨M, hM⟩ := puts_pre f L c 1
  rw [hM]
  exact ix_app M ((mem_puts f L _ c).2 (.inr ⟨d, h, rfl⟩))
theorem nodup_len : ∀ (L U : List σ), L.Nodup → (∀ s ∈ L, s ∈ U) → L.length ≤ U.length
  | [], U, _, _ => Nat.zero_le _
  | x :: l, U, hn, hu => by
    have h1 := List.nodup_cons.1 hn
    have hx : x ∈ U := hu x (List.mem_cons_self ..)
    have := nodup_len l (U.erase x) h1.2 (fun s hs => (List.mem_erase_of_ne (show s ≠ x from fun e => h1.1 (e ▸ hs))).2 (hu s (List.mem_cons_of_mem _ hs)))
    rw [List.length_erase_of_mem hx] at this
    have h0 : 0 < U.length := List.length_pos_of_mem hx
    rw [List.length_cons]; omega
/-- What has been made: the states L, of the first of them their rows R and whether they are final. -/
structure Mk (into : σ → Nat → σ) (fin : σ → Bool) (nc : Nat) (s0 : σ) (Ok : σ → Prop) (L : List σ) (R : List (List Int)) (F : List Bool) : Prop where
  nd : L.Nodup
  hd : L[0]? = some s0
  len : R.length ≤ L.length
  flen : F.length = R.length
  row : ∀ i s, i < R.length → L[i]? = some s → R[i]? = some ((List.range nc).map fun c => ((ix L (into s c) : Nat) : Int)) ∧ ∀ c, c < nc → into s c ∈ L
  fin : ∀ i s, i < R.length → L[i]? = some s → F[i]? = some (fin s)
  ok : ∀ s ∈ L, Ok s
  reach : ∀ i s, 0 < i → L[i]? = some s → ∃ j t c, j < i ∧ j < R.length ∧ c < nc ∧ L[j]? = some t ∧ s = into t c
theorem Mk.start {into : σ → Nat → σ} {fin : σ → Bool} {nc : Nat} {s0 : σ} {Ok : σ → Prop} (h : Ok s0) : Mk into fin nc s0 Ok [s0] [] [] := by
  refine ⟨by simp, rfl, by simp, rfl, fun i s hi => absurd hi (Nat.not_lt_zero _), fun i s hi => absurd hi (Nat.not_lt_zero _), fun s hs => ?_, fun i s hi h1 => ?_⟩
  · rw [List.mem_singleton] at hs; rw [hs]; exact h
  · rw [List.getElem?_eq_none (by simp; omega)] at h1; cases h1
theorem Mk.step {into : σ → Nat → σ} {fin : σ → Bool} {nc : Nat} {s0 : σ} {Ok : σ → Prop} {L : List σ} {R : List (List Int)} {F : List Bool} (h : Mk into fin nc s0 Ok L R F) {s : σ} (hs : L[R.length]? = some s)
    (hok : ∀ t c, Ok t → c < nc → Ok (into t c)) : Mk into fin nc s0 Ok (puts (into s) L nc) (R ++ [rowTo (into s) L nc]) (F ++ [fin s]) := by
  obtain ⟨M, hM⟩ := puts_pre (into s) L 0 nc
  rw [Nat.zero_add] at hM
  have hM : puts (into s) L nc = L ++ M := hM
  have hsL : R.length < L.length := (List.getElem?_eq_some_iff.1 hs).1
  have hget : ∀ i, i < L.length → (puts (into s) L nc)[i]? = L[i]? := fun i hi => by rw [hM, List.getElem?_append_left hi]
  refine ⟨puts_nodup h.nd _ _, ?_, ?_, ?_, fun i t hi ht => ?_, fun i t hi ht => ?_, fun t ht => ?_, fun i t hi ht => ?_⟩
  · rw [hget 0 (by omega)]; exact h.hd
  · rw [List.length_append, hM, List.length_append]; simp; omega
  · rw [List.length_append, List.length_append, h.flen]; simp
  · rw [List.length_append, List.length_cons, List.length_nil] at hi
    rw [hget i (by omega)] at ht
    by_cases e : i < R.length
    · obtain ⟨h1, h2⟩ := h.row i t e ht
      rw [List.getElem?_append_left e, h1]
      refine ⟨?_, fun c hc => (mem_puts _ _ _ _).2 (.inl (h2 c hc))⟩
      congr 1
      refine List.map_congr_left (fun c hc => ?_)
      rw [hM, ix_app M (h2 c (List.mem_range.1 hc))]
    · have e2 : i = R.length := by omega
      subst e2
      rw [hs] at ht
      cases ht
      rw [List.getElem?_append_right (Nat.le_refl _), Nat.sub_self]
      exact ⟨rfl, fun c hc => (mem_puts _ _ _ _).2 (.inr ⟨c, hc, rfl⟩)⟩
  · rw [List.length_append, List.length_cons, List.length_nil] at hi
    rw [hget i (by omega)] at ht
    by_cases e : i < R.length
    · rw [List.getElem?_append_left (by rw [h.flen]; exact e)]; exact h.fin i t e ht
    · have e2 : i = R.length := by omega
      subst e2
      rw [hs] at ht
      cases ht
      rw [List.getElem?_append_right (by rw [h.flen]; exact Nat.le_refl _), h.flen, Nat.sub_self]; rfl
  · rcases (mem_puts _ _ _ _).1 ht with h1 | ⟨d, hd, rfl⟩
    · exact h.ok t h1
    · exact hok _ _ (h.ok s (List.mem_of_getElem? hs)) hd
  · by_cases e : i < L.length
    · rw [hget i e] at ht
      obtain ⟨j, u, c, h1, h2, h3, h4, h5⟩ := h.reach i t hi ht
      exact ⟨j, u, c, h1, by rw [List.length_append]; omega, h3, by rw [hget j (by omega)]; exact h4, h5⟩
    · have hm : t ∈ puts (into s) L nc := List.mem_of_getElem? ht
      rcases (mem_puts _ _ _ _).1 hm with h1 | ⟨d, hd, rfl⟩
      · exfalso
        have hi1 := ix_at (puts_nodup h.nd (into s) nc) ht
        rw [hM, ix_app M h1] at hi1
        have := ix_lt h1
        omega
      · exact ⟨R.length, s, d, by omega, by rw [List.length_append]; simp, hd, by rw [hget _ hsL]; exact hs, rfl⟩
end
/-- An automaton as a value. -/
structure Dm where
  of : Nat → Nat
  n : Int
  R : List (List Int)
  F : List Bool
def inB (many : Nat) (k : Int) : Bool := decide (0 ≤ k) && decide (k < (many : Int))
def rightD (d : Dm) : Bool := prightB d.of d.n && (decide (0 < d.R.length) && (decide (d.F.length = d.R.length) && d.R.all fun l => decide ((l.length : Int) = d.n) && l.all (inB d.R.length)))
def goD (d : Dm) (i c : Nat) : Nat := ((d.R.getD i []).getD (d.of c) 0).toNat
def takesD (d : Dm) (w : List Nat) : Bool := rightD d && d.F.getD (w.foldl (goD d) 0) false
/-- What is made of all states: right, and it takes what the states say. -/
structure Done {σ : Type} [DecidableEq σ] (into : σ → Nat → σ) (fin : σ → Bool) (s0 : σ) (Ok : σ → Prop) (L : List σ) (d : Dm) : Prop where
  nc : ∃ nc : Nat, d.n = nc ∧ (∀ c, c < 256 → d.of c < nc) ∧ Mk into fin nc s0 Ok L d.R d.F
  all : d.R.length = L.length
  pr : prightB d.of d.n = true
section
variable {σ : Type} [DecidableEq σ] {into : σ → Nat → σ} {fin : σ → Bool} {s0 : σ} {Ok : σ → Prop} {L : List σ} {d : Dm}
theorem Done.many (h : Done into fin s0 Ok L d) : 0 < d.R.length := by
  obtain ⟨nc, -, -, hm⟩ := h.nc
  rw [h.all]; exact (List.getElem?_eq_some_iff.1 hm.hd).1
theorem Done.right (h : Done into fin s0 Ok L d) : rightD d = true := by
  obtain ⟨nc, hn, hof, hm⟩ := h.nc
  unfold rightD
  simp only [Bool.and_eq_true, decide_eq_true_iff, List.all_eq_true]
  refine ⟨h.pr, h.many, hm.flen, fun l hl => ?_⟩
  obtain ⟨i, hi⟩ := List.getElem?_of_mem hl
  have hiR := (List.getElem?_eq_some_iff.1 hi).1
  obtain ⟨s, hs⟩ : ∃ s, L[i]? = some s := ⟨_, List.getElem?_eq_getElem (by rw [← h.all]; exact hiR)⟩
  obtain ⟨h1, h2⟩ := hm.row i s hiR hs
  rw [hi] at h1
  injection h1 with h1
  subst h1
  refine ⟨by rw [hn]; simp, fun k hk => ?_⟩
  obtain ⟨c, hc, rfl⟩ := List.mem_map.1 hk
  have := ix_lt (h2 c (List.mem_range.1 hc))
  unfold inB
  rw [Bool.and_eq_true, decide_eq_true_iff, decide_eq_true_iff, h.all]
  omega
theorem Done.go (h : Done into fin s0 Ok L d) {i c : Nat} {s : σ} (hi : L[i]? = some s) (hc : c < 256) : L[goD d i c]? = some (into s (d.of c)) := by
  obtain ⟨nc, hn, hof, hm⟩ := h.nc
  have hiL := (List.getElem?_eq_some_iff.1 hi).1
  obtain ⟨h1, h2⟩ := hm.row i s (by rw [h.all]; exact hiL) hi
  unfold goD
  rw [List.getD_eq_getElem?_getD (l := d.R), h1, Option.getD_some, List.getD_eq_getElem?_getD, List.getElem?_map, List.getElem?_range (hof c hc)]
  exact ix_get (h2 _ (hof c hc))
theorem Done.fold (h : Done into fin s0 Ok L d) : ∀ (w : List Nat) (i : Nat) (s : σ), (∀ c ∈ w, c < 256) → L[i]? = some s → L[w.foldl (goD d) i]? = some (w.foldl (fun t c => into t (d.of c)) s)
  | [], _, _, _, hi => hi
  | c :: w, i, s, hw, hi => by
    rw [List.foldl_cons, List.foldl_cons]
    exact h.fold w _ _ (fun x hx => hw x (List.mem_cons_of_mem _ hx)) (h.go hi (hw c (List.mem_cons_self ..)))
theorem Done.takes (h : Done into fin s0 Ok L d) (w : List Nat) (hw : ∀ c ∈ w, c < 256) : takesD d w = fin (w.foldl (fun t c => into t (d.of c)) s0) := by
  obtain ⟨nc, hn, hof, hm⟩ := h.nc
  have hf := h.fold w 0 s0 hw hm.hd
  unfold takesD
  rw [h.right, Bool.true_and, List.getD_eq_getElem?_getD, hm.fin _ _ (by rw [h.all]; exact (List.getElem?_eq_some_iff.1 hf).1) hf]; rfl
end
end Df
end Go.Proofs.YtdmnocjlmnkdhaaDoor
