/- Two prints are one just if the trees are alike: the end. Plain; no program. -/
import Derived.Test.YtpchahlnnbgpkaaDoorTreK
namespace Go.Proofs.YtpchahlnnbgpkaaDoor
namespace Tr
open Sets
/-- nothing, or one of these -/
def Hd (l : List Nat) (r : List Nat) : Prop := r = [] ∨ ∃ a t, r = a :: t ∧ a ∈ l
/-- what is wrong of a text's head -/
def Nt (l : List Nat) (r : List Nat) : Prop := r = [] ∨ ∃ a t, r = a :: t ∧ a ∉ l
theorem Hd.nt {l m : List Nat} {r : List Nat} (h : Hd l r) (hl : ∀ a ∈ l, a ∉ m) : Nt m r := h.imp id (fun ⟨a, t, e, ha⟩ => ⟨a, t, e, hl a ha⟩)
theorem Hd.clash {l m : List Nat} {r : List Nat} (h : Hd l r) (hl : ∀ a ∈ l, a ∈ m) {a : Nat} {t : List Nat} (e : r = a :: t) : a ∈ m := by
  rcases h with h | ⟨b, u, h, hb⟩
  · rw [h] at e; cases e
  · rw [h] at e; injection e with e1 e2; exact e1 ▸ hl b hb
theorem nt_of_head {m : List Nat} {l r : List Nat} (h : ∃ a t, l = a :: t ∧ a ∉ B0) (hm : ∀ a ∈ m, a ∈ B0) : Nt m (l ++ r) := by
  obtain ⟨a, t, rfl, ha⟩ := h
  exact .inr ⟨a, t ++ r, rfl, fun h => ha (hm a h)⟩
theorem head_piece (x : X) : ∃ a t, pieceP x = a :: t ∧ a ∉ B0 := head_wr _ (head_prX x)
theorem head_br (x : X) : ∃ a t, brP x = a :: t ∧ a ∉ B0 := head_wr _ (head_prX x)
theorem th_b0 : ∀ a ∈ TH, a ∈ B0 := by decide
/-- x is read back from its print -/
def Top (x : X) : Prop := ∀ y r s, OkX y → Hd [41, 38] r → Hd [41, 38] s → prX x ++ r = prX y ++ s → x = y ∧ r = s
theorem atom_emp {y : X} {r s : List Nat} (hy : OkX y) (h : 40 :: 41 :: r = atomP y ++ s) : y = .emp ∧ r = s := by
  unfold atomP at h
  cases y with
  | emp => simp [X.kd, wr, prX] at h; exact ⟨rfl, h⟩
  | set t =>
    obtain ⟨a, u, e, ha⟩ := head_ne40 t
    have : prX (.set t) = setPr t := rfl
    simp [X.kd, wr, this, e] at h
    exact absurd h.1.symm ha
  | seq a b =>
    obtain ⟨c, u, e, hc⟩ := head_prX (.seq a b)
    simp [X.kd, wr, e] at h
    exact absurd (h.1 ▸ hc) (by decide)
  | alt a b =>
    obtain ⟨c, u, e, hc⟩ := head_prX (.alt a b)
    simp [X.kd, wr, e] at h
    exact absurd (h.1 ▸ hc) (by decide)
  | tim a m n =>
    obtain ⟨c, u, e, hc⟩ := head_prX (.tim a m n)
    simp [X.kd, wr, e] at h
    exact absurd (h.1 ▸ hc) (by decide)
theorem kd_cases (y : X) : y = .emp ∨ (∃ t, y = .set t) ∨ 2 < y.kd := by cases y <;> simp [X.kd]
theorem atom_read {z y : X} (hz : OkX z) (hy : OkX y) (hT : 2 < z.kd → Top z) {r s : List Nat} (h : atomP z ++ r = atomP y ++ s) : z = y ∧ r = s := by
  rcases kd_cases z with rfl | ⟨t, rfl⟩ | hk
  · have h' : 40 :: 41 :: r = atomP y ++ s := by rw [← h]; rfl
    have := atom_emp hy h'
    exact ⟨this.1.symm, this.2⟩
  · rcases kd_cases y with rfl | ⟨u, rfl⟩ | hk2
    · have h' : 40 :: 41 :: s = atomP (.set t) ++ r := by rw [h]; rfl
      have := atom_emp hz h'
      cases this.1
    · have h' : setPr t ++ r = setPr u ++ s := h
      obtain ⟨e, h'⟩ := setPr_read hz hy h'
      exact ⟨by rw [e], h'⟩
    · exfalso
      unfold atomP at h
      rw [decide_eq_true hk2] at h
      obtain ⟨a, u, e, ha⟩ := head_ne40 t
      have h' : setPr t ++ r = wr true (prX y) ++ s := h
      rw [e] at h'
      simp [wr] at h'
      exact ha h'.1
  · rcases kd_cases y with rfl | ⟨u, rfl⟩ | hk2
    · have h' : 40 :: 41 :: s = atomP z ++ r := by rw [h]; rfl
      have := atom_emp hz h'
      rw [this.1] at hk
      exact absurd hk (by decide)
    · exfalso
      unfold atomP at h
      rw [decide_eq_true hk] at h
      obtain ⟨a, v, e, ha⟩ := head_ne40 u
      have h' : wr true (prX z) ++ r = setPr u ++ s := h
      rw [e] at h'
      simp [wr] at h'
      exact ha h'.1.symm
    · unfold atomP at h
      rw [decide_eq_true hk, decide_eq_true hk2] at h
      simp only [wr, if_true, List.cons_append, List.append_assoc, List.cons.injEq, true_and, List.nil_append] at h
      have := hT hk y (41 :: r) (41 :: s) hy (.inr ⟨41, r, rfl, by decide⟩) (.inr ⟨41, s, rfl, by decide⟩) h
      exact ⟨this.1, by simpa using this.2⟩
/-- May p stand as a piece of what is no greater than n? -/
def PO (n : Nat) (p : X) : Prop := OkX p ∧ (p.kd ≤ 2 ∨ (p.kd = 5 ∧ p.sz ≤ n) ∨ p.sz < n)
theorem piece_tim (a : X) (m n : Int) : pieceP (.tim a m n) = atomP a ++ tm m n := rfl
theorem piece_other {z : X} (h : z.kd ≠ 5) : pieceP z = atomP z := by
  cases z <;> first | rfl | exact absurd rfl h
theorem tim_or (z : X) : (∃ a m n, z = .tim a m n) ∨ z.kd ≠ 5 := by cases z <;> simp [X.kd]
theorem piece_read {n : Nat} (H : ∀ z, z.sz < n → OkX z → Top z) {p q : X} (hp : PO n p) (hq : OkX q) {r s : List Nat} (hr : Nt TH r) (hs : Nt TH s) (h : pieceP p ++ r = pieceP q ++ s) : p = q ∧ r = s := by
  have clash : ∀ (m n : Int) (u v : List Nat), Nt TH v → tm m n ++ u = v → False := by
    intro m n u v hv e
    obtain ⟨a, t, e2, ha⟩ := tm_head m n
    rcases hv with h | ⟨b, w, h, hb⟩
    · rw [e2, h] at e; cases e
    · rw [e2, h] at e; simp at e; exact hb (e.1 ▸ ha)
  obtain ⟨ho, hc⟩ := hp
  rcases tim_or p with ⟨a, m, k, rfl⟩ | hp5 <;> rcases tim_or q with ⟨b, m', k', rfl⟩ | hq5
  · rw [piece_tim, piece_tim, List.append_assoc, List.append_assoc] at h
    have hsz : a.sz < n := by
      rcases hc with hc | hc | hc
      · simp [X.kd] at hc
      · have := hc.2; simp only [X.sz] at this; omega
      · simp only [X.sz] at hc; omega
    obtain ⟨e, h⟩ := atom_read ho.1 hq.1 (fun _ => H a hsz ho.1) h
    obtain ⟨e1, e2, h⟩ := tm_read ho.2 hq.2 h
    exact ⟨by rw [e, e1, e2], h⟩
  · exfalso
    rw [piece_tim, piece_other hq5, List.append_assoc] at h
    have hsz : a.sz < n := by
      rcases hc with hc | hc | hc
      · simp [X.kd] at hc
      · have := hc.2; simp only [X.sz] at this; omega
      · simp only [X.sz] at hc; omega
    obtain ⟨e, h⟩ := atom_read ho.1 hq (fun _ => H a hsz ho.1) h
    exact clash m k r s hs h
  · exfalso
    rw [piece_tim, piece_other hp5, List.append_assoc] at h
    obtain ⟨e, h⟩ := atom_read ho hq.1 (fun hk => by
      rcases hc with hc | hc | hc
      · omega
      · exact absurd hc.1 hp5
      · exact H p hc ho) h
    exact clash m' k' s r hr h.symm
  · rw [piece_other hp5, piece_other hq5] at h
    exact atom_read ho hq (fun hk => by
      rcases hc with hc | hc | hc
      · omega
      · exact absurd hc.1 hp5
      · exact H p hc ho) h
theorem pieces_read {n : Nat} (H : ∀ z, z.sz < n → OkX z → Top z) : ∀ (ps qs : List X) (r s : List Nat), (∀ p ∈ ps, PO n p) → (∀ q ∈ qs, OkX q) → Hd [41, 38, 124] r → Hd [41, 38, 124] s →
    ps.flatMap pieceP ++ r = qs.flatMap pieceP ++ s → ps = qs ∧ r = s := by
  have hb : ∀ a ∈ [41, 38, 124], a ∈ B0 := by decide
  have ht : ∀ a ∈ [41, 38, 124], a ∉ TH := by decide
  intro ps
  induction ps with
  | nil =>
    intro qs r s _ hq hr _ h
    cases qs with
    | nil => exact ⟨rfl, h⟩
    | cons q qs =>
      exfalso
      obtain ⟨a, t, e, ha⟩ := head_piece q
      rw [List.flatMap_cons, e] at h
      exact ha (hr.clash hb (by simpa using h))
  | cons p ps ih =>
    intro qs r s hp hq hr hs h
    cases qs with
    | nil =>
      exfalso
      obtain ⟨a, t, e, ha⟩ := head_piece p
      rw [List.flatMap_cons, e] at h
      exact ha (hs.clash hb (by simpa using h.symm))
    | cons q qs =>
      rw [List.flatMap_cons, List.flatMap_cons, List.append_assoc, List.append_assoc] at h
      have nt : ∀ (l : List X) (u : List Nat), Hd [41, 38, 124] u → Nt TH (l.flatMap pieceP ++ u) := by
        intro l u hu
        cases l with
        | nil => exact hu.nt ht
        | cons z l =>
          rw [List.flatMap_cons, List.append_assoc]
          exact nt_of_head (head_piece z) th_b0
      obtain ⟨e, h⟩ := piece_read H (hp p (by simp)) (hq q (by simp)) (nt ps r hr) (nt qs s hs) h
      obtain ⟨e2, h⟩ := ih qs r s (fun z hz => hp z (by simp [hz])) (fun z hz => hq z (by simp [hz])) hr hs h
      exact ⟨by rw [e, e2], h⟩
theorem br_read {n : Nat} (H : ∀ z, z.sz < n → OkX z → Top z) {b c : X} (hb : OkX b) (hbs : b.sz ≤ n) (hb4 : b.kd = 4 → b.sz < n) (hc : OkX c) {r s : List Nat} (hr : Hd [41, 38, 124] r) (hs : Hd [41, 38, 124] s)
    (h : brP b ++ r = brP c ++ s) : b = c ∧ r = s := by
  rw [brP_pcs, brP_pcs] at h
  obtain ⟨e, h⟩ := pieces_read H (pcs b) (pcs c) r s (fun p hp => by
    obtain ⟨h1, h2, h3⟩ := pcs_ok b hb p hp
    refine ⟨h1, ?_⟩
    have hk : p.kd ≤ 2 ∨ p.kd = 3 ∨ p.kd = 4 ∨ p.kd = 5 := by cases p <;> simp [X.kd]
    rcases hk with hk | hk | hk | hk
    · exact .inl hk
    · rcases h3 (.inl hk) with h | h
      · exact .inr (.inr (by omega))
      · have := hb4 h; exact .inr (.inr (by omega))
    · rcases h3 (.inr hk) with h | h
      · exact .inr (.inr (by omega))
      · have := hb4 h; exact .inr (.inr (by omega))
    · exact .inr (.inl ⟨hk, by omega⟩)) (fun q hq => (pcs_ok c hc q hq).1) hr hs h
  exact ⟨pcs_inj e, h⟩
theorem brs_read {n : Nat} (H : ∀ z, z.sz < n → OkX z → Top z) : ∀ (bs cs : List X) (r s : List Nat), (∀ b ∈ bs, OkX b ∧ b.sz ≤ n ∧ (b.kd = 4 → b.sz < n)) → (∀ c ∈ cs, OkX c) → Hd [41, 38] r → Hd [41, 38] s →
    bs.flatMap (fun b => 124 :: brP b) ++ r = cs.flatMap (fun b => 124 :: brP b) ++ s → bs = cs ∧ r = s := by
  have hx : ∀ a ∈ [41, 38], a ∈ [41, 38, 124] := by decide
  have up : ∀ u, Hd [41, 38] u → Hd [41, 38, 124] u := fun u h => h.imp id (fun ⟨a, t, e, ha⟩ => ⟨a, t, e, hx a ha⟩)
  have hd : ∀ (l : List X) (u : List Nat), Hd [41, 38] u → Hd [41, 38, 124] (l.flatMap (fun b => 124 :: brP b) ++ u) := by
    intro l u hu
    cases l with
    | nil => exact up u hu
    | cons z l => exact .inr ⟨124, _, rfl, by decide⟩
  intro bs
  induction bs with
  | nil =>
    intro cs r s _ _ hr _ h
    cases cs with
    | nil => exact ⟨rfl, h⟩
    | cons c cs =>
      exfalso
      have : (124 : Nat) ∈ [41, 38] := hr.clash (fun a h => h) (by simpa using h)
      revert this; decide
  | cons b bs ih =>
    intro cs r s hb hc hr hs h
    cases cs with
    | nil =>
      exfalso
      have : (124 : Nat) ∈ [41, 38] := hs.clash (fun a h => h) (by simpa using h.symm)
      revert this; decide
    | cons c cs =>
      rw [List.flatMap_cons, List.flatMap_cons, List.append_assoc, List.append_assoc] at h
      simp only [List.cons_append, List.cons.injEq, true_and] at h
      have hb1 := hb b (by simp)
      obtain ⟨e, h⟩ := br_read H hb1.1 hb1.2.1 hb1.2.2 (hc c (by simp)) (hd bs r hr) (hd cs s hs) h
      obtain ⟨e2, h⟩ := ih cs r s (fun z hz => hb z (by simp [hz])) (fun z hz => hc z (by simp [hz])) hr hs h
      exact ⟨by rw [e, e2], h⟩
theorem top_all : ∀ (n : Nat) (x : X), x.sz ≤ n → OkX x → Top x := by
  intro n
  induction n with
  | zero => intro x hx; have := X.sz_pos x; omega
  | succ n ih =>
    intro x hx ho y r s hy hr hs h
    have H : ∀ z, z.sz < x.sz → OkX z → Top z := fun z hz hz2 => ih z (by omega) hz2
    obtain ⟨a, t, e1, e2⟩ := prX_brs x
    obtain ⟨b, u, e3, e4⟩ := prX_brs y
    have okx := brs_ok x ho
    have oky := brs_ok y hy
    rw [e1] at okx
    rw [e3] at oky
    rw [e2, e4, List.append_assoc, List.append_assoc] at h
    have hx : ∀ a ∈ [41, 38], a ∈ [41, 38, 124] := by decide
    have hd : ∀ (l : List X) (u : List Nat), Hd [41, 38] u → Hd [41, 38, 124] (l.flatMap (fun b => 124 :: brP b) ++ u) := by
      intro l u hu
      cases l with
      | nil => exact hu.imp id (fun ⟨a, t, e, ha⟩ => ⟨a, t, e, hx a ha⟩)
      | cons z l => exact .inr ⟨124, _, rfl, by decide⟩
    have ha := okx a (by simp)
    obtain ⟨e, h⟩ := br_read H ha.1 ha.2.1 ha.2.2 (oky b (by simp)).1 (hd t r hr) (hd u s hs) h
    obtain ⟨e5, h⟩ := brs_read H t u r s (fun z hz => okx z (by simp [hz])) (fun z hz => (oky z (by simp [hz])).1) hr hs h
    refine ⟨brs_inj ?_, h⟩
    rw [e1, e3, e, e5]
theorem parts_read : ∀ (l m : List (X × Bool)) (i : Nat), (∀ p ∈ l, OkX p.1) → (∀ p ∈ m, OkX p.1) → prParts (i + 1) l = prParts (i + 1) m → l = m := by
  intro l
  induction l with
  | nil =>
    intro m i _ _ h
    cases m with
    | nil => rfl
    | cons q m => simp [prParts] at h
  | cons p l ih =>
    intro m i hl hm h
    cases m with
    | nil => simp [prParts] at h
    | cons q m =>
      simp only [prParts, if_pos (Nat.succ_pos i), List.cons_append, List.nil_append, List.cons.injEq, true_and] at h
      have hd : ∀ (k : Nat) (z : List (X × Bool)), Hd [41, 38] (prParts (k + 1) z) := by
        intro k z
        cases z with
        | nil => exact .inl rfl
        | cons z0 z => exact .inr ⟨38, _, by rw [prParts, if_pos (Nat.succ_pos k)]; rfl, by decide⟩
      have main : ∀ (a b : X × Bool), OkX a.1 → OkX b.1 → (if a.2 = true then [33] else []) ++ (prX a.1 ++ prParts (i + 1 + 1) l) = (if b.2 = true then [33] else []) ++ (prX b.1 ++ prParts (i + 1 + 1) m) → a = b ∧ prParts (i + 1 + 1) l = prParts (i + 1 + 1) m := by
        intro a b ha hb h
        obtain ⟨a1, a2⟩ := a
        obtain ⟨b1, b2⟩ := b
        cases a2 <;> cases b2
        · simp only [Bool.false_eq_true, if_false, List.nil_append] at h
          obtain ⟨e, h⟩ := top_all _ a1 (Nat.le_refl _) ha b1 _ _ hb (hd _ _) (hd _ _) h
          exact ⟨by rw [e], h⟩
        · exfalso
          obtain ⟨c, t, e, hc⟩ := head_prX a1
          simp [e] at h
          exact absurd (h.1 ▸ hc) (by decide)
        · exfalso
          obtain ⟨c, t, e, hc⟩ := head_prX b1
          simp [e] at h
          exact absurd (h.1 ▸ hc) (by decide)
        · simp only [if_true, List.cons_append, List.nil_append, List.cons.injEq, true_and] at h
          obtain ⟨e, h⟩ := top_all _ a1 (Nat.le_refl _) ha b1 _ _ hb (hd _ _) (hd _ _) h
          exact ⟨by rw [e], h⟩
      obtain ⟨e, h⟩ := main p q (hl p (by simp)) (hm q (by simp)) h
      rw [e, ih m (i + 1) (fun z hz => hl z (by simp [hz])) (fun z hz => hm z (by simp [hz])) h]
theorem prParts_pos : ∀ (l : List (X × Bool)) (i : Nat), prParts (i + 1) l = prParts 1 l := by
  intro l
  induction l with
  | nil => intro i; rfl
  | cons p l ih =>
    intro i
    simp only [prParts, if_pos (Nat.succ_pos i), if_pos (Nat.succ_pos 0)]
    rw [ih (i + 1), ih (1)]
theorem prParts_one (p : X × Bool) (l : List (X × Bool)) : prParts 1 (p :: l) = 38 :: prParts 0 (p :: l) := by
  simp only [prParts, if_pos (Nat.succ_pos 0), Nat.lt_irrefl, if_false, List.nil_append, List.cons_append]
  rw [prParts_pos l 1]
/-- Two prints of right trees are one just if their parts are. -/
theorem print_inj {l m : List (X × Bool)} (hl : ∀ p ∈ l, OkX p.1) (hm : ∀ p ∈ m, OkX p.1) (hl1 : l ≠ []) (hm1 : m ≠ []) (h : prParts 0 l = prParts 0 m) : l = m := by
  refine parts_read l m 0 hl hm ?_
  cases l with
  | nil => exact absurd rfl hl1
  | cons p l =>
    cases m with
    | nil => exact absurd rfl hm1
    | cons q m =>
      rw [prParts_one, prParts_one, h]
end Tr
end Go.Proofs.YtpchahlnnbgpkaaDoor
