/- Several texts in one. -/
import Derived.Test.YtmjjkamndlefmaaDoorPq00
import Derived.Test.YtmjjkamndlefmaaDoorPq10
import Derived.Test.YtmjjkamndlefmaaDoorPq06
import Derived.Maps.AppendAt
import Derived.OwnWalk
import Derived.Test.YtmjjkamndlefmaaDoorPq07
namespace Go.Proofs.YtmjjkamndlefmaaDoor
namespace Nf
open Sets
def rchN (G : List Nat) (W : Nat) : Nat → Nat → Nat → Nat
  | 0, all, _ => all
  | f + 1, all, more => if more = 0 then all else rchN G W f (all ||| more) ((bh G more &&& W) &&& (full ^^^ (all ||| more)))
def rch (F : Nat) (G : List Nat) (W : Nat) : Nat := rchN G W 257 0 (F &&& W)
theorem cnt_pos {S : Nat} (h : S ≠ 0) (hS : S < 2 ^ 256) : 0 < cnt S := by
  obtain ⟨k, hk⟩ := Nat.exists_testBit_of_ne_zero h
  rw [← listN_length]
  refine List.length_pos_of_mem ((mem_listN S k).2 ⟨?_, hk⟩)
  rcases Nat.lt_or_ge k 256 with h1 | h1
  · exact h1
  · rw [testBit_ge hS h1] at hk; cases hk
theorem cnt_zero : cnt 0 = 0 := by decide +kernel
theorem cnt_apart {A B : Nat} (h : A &&& B = 0) : cnt (A ||| B) = cnt A + cnt B := by
  have := cnt_and_or A B
  rw [h, cnt_zero] at this
  omega
theorem and_eq_zero {A B : Nat} (h : ∀ k, A.testBit k = true → B.testBit k = true → False) : A &&& B = 0 := by
  apply Nat.eq_of_testBit_eq
  intro k
  rw [Nat.testBit_and, Nat.zero_testBit, Bool.eq_false_iff]
  intro hh
  rw [Bool.and_eq_true] at hh
  exact h k hh.1 hh.2
theorem not_bit (A k : Nat) (hk : k < 256) : (full ^^^ A).testBit k = true ↔ ¬ A.testBit k = true := by
  rw [Nat.testBit_xor, testBit_full, decide_eq_true hk]
  cases A.testBit k <;> simp
theorem bit256 {A k : Nat} (hA : A < 2 ^ 256) (h : A.testBit k = true) : k < 256 := by
  rcases Nat.lt_or_ge k 256 with h1 | h1
  · exact h1
  · rw [testBit_ge hA h1] at h; cases h
theorem next_bit (G : List Nat) (W A B k : Nat) (hW : W < 2 ^ 256) : ((bh G B &&& W) &&& (full ^^^ A)).testBit k = true ↔ (∃ i, i < 256 ∧ B.testBit i = true ∧ (G.getD i 0).testBit k = true) ∧ W.testBit k = true ∧ ¬ A.testBit k = true := by
  rw [Nat.testBit_and, Nat.testBit_and, Bool.and_eq_true, Bool.and_eq_true, bh_bit]
  constructor
  · rintro ⟨⟨h1, h2⟩, h3⟩
    exact ⟨h1, h2, (not_bit A k (bit256 hW h2)).1 h3⟩
  · rintro ⟨h1, h2, h3⟩
    exact ⟨⟨h1, h2⟩, (not_bit A k (bit256 hW h2)).2 h3⟩
theorem next_apart (G : List Nat) (W A B : Nat) (hW : W < 2 ^ 256) : A &&& ((bh G B &&& W) &&& (full ^^^ A)) = 0 :=
  and_eq_zero (fun k h1 h2 => ((next_bit G W A B k hW).1 h2).2.2 h1)
theorem next_lt (G : List Nat) (W A B : Nat) (hW : W < 2 ^ 256) : ((bh G B &&& W) &&& (full ^^^ A)) < 2 ^ 256 :=
  Nat.lt_of_le_of_lt Nat.and_le_left (Nat.lt_of_le_of_lt Nat.and_le_right hW)
abbrev Ed (G : List Nat) : Nat → Nat → Prop := fun i k => (G.getD i 0).testBit k = true
theorem rchN_iff (G : List Nat) (F W : Nat) (hW : W < 2 ^ 256) : ∀ (f all more : Nat), 256 - cnt all < f → all < 2 ^ 256 → more < 2 ^ 256 → all &&& more = 0 →
    (∀ k, all.testBit k = true → Rc F W (Ed G) k) → (∀ k, more.testBit k = true → Rc F W (Ed G) k) →
    (∀ k, F.testBit k = true → W.testBit k = true → all.testBit k = true ∨ more.testBit k = true) →
    (∀ i k, all.testBit i = true → Ed G i k → W.testBit k = true → all.testBit k = true ∨ more.testBit k = true) →
    (rchN G W f all more < 2 ^ 256 ∧ ∀ k, (rchN G W f all more).testBit k = true ↔ Rc F W (Ed G) k)
  | 0, _, _, hf, _, _, _, _, _, _, _ => absurd hf (Nat.not_lt_zero _)
  | f + 1, all, more, hf, ha, hm, hd, h1, h2, h3, h4 => by
    unfold rchN
    by_cases h0 : more = 0
    · rw [if_pos h0]
      subst h0
      refine ⟨ha, fun k => ⟨h1 k, fun h => ?_⟩⟩
      refine Rc.least (p := fun k => all.testBit k = true) (fun k a b => ?_) (fun i k a b c => ?_) k h
      · rcases h3 k a b with h | h
        · exact h
        · rw [Nat.zero_testBit] at h; cases h
      · rcases h4 i k a b c with h | h
        · exact h
        · rw [Nat.zero_testBit] at h; cases h
    · rw [if_neg h0]
      have hor : ∀ k, (all ||| more).testBit k = true ↔ all.testBit k = true ∨ more.testBit k = true := fun k => by rw [Nat.testBit_or, Bool.or_eq_true]
      have hcp := cnt_pos h0 hm
      have hca := cnt_apart hd
      have hle := cnt_le (all ||| more)
      refine rchN_iff G F W hW f _ _ (by omega) (lt_or ha hm) (next_lt _ _ _ _ hW) (next_apart _ _ _ _ hW) ?_ ?_ ?_ ?_
      · intro k hk
        rcases (hor k).1 hk with h | h
        · exact h1 k h
        · exact h2 k h
      · intro k hk
        obtain ⟨⟨i, -, a, b⟩, c, -⟩ := (next_bit _ _ _ _ _ hW).1 hk
        exact .step (h2 i a) b c
      · intro k a b
        exact .inl ((hor k).2 (h3 k a b))
      · intro i k a b c
        by_cases hk : (all ||| more).testBit k = true
        · exact .inl hk
        · refine .inr ((next_bit _ _ _ _ _ hW).2 ⟨?_, c, hk⟩)
          rcases (hor i).1 a with h | h
          · exact absurd ((hor k).2 (h4 i k h b c)) hk
          · exact ⟨i, bit256 hm h, h, b⟩
theorem rch_iff (G : List Nat) (F W : Nat) (hW : W < 2 ^ 256) : rch F G W < 2 ^ 256 ∧ ∀ k, (rch F G W).testBit k = true ↔ Rc F W (Ed G) k := by
  refine rchN_iff G F W hW 257 0 (F &&& W) (by rw [cnt_zero]; decide) (Nat.two_pow_pos 256) (Nat.lt_of_le_of_lt Nat.and_le_right hW) (Nat.zero_and _) ?_ ?_ ?_ ?_
  · intro k h; rw [Nat.zero_testBit] at h; cases h
  · intro k h
    rw [Nat.testBit_and, Bool.and_eq_true] at h
    exact .base h.1 h.2
  · intro k a b
    exact .inr (by rw [Nat.testBit_and, a, b]; rfl)
  · intro i k h; rw [Nat.zero_testBit] at h; cases h
theorem rchN_step (G : List Nat) (W f all more : Nat) (h : more ≠ 0) : rchN G W (f + 1) all more = rchN G W f (all ||| more) ((bh G more &&& W) &&& (full ^^^ (all ||| more))) := by
  rw [rchN, if_neg h]
theorem rchN_stop (G : List Nat) (W f all : Nat) : rchN G W f all 0 = all := by
  cases f with
  | zero => rfl
  | succ f => rw [rchN, if_pos rfl]
/-- who leads to k -/
def turnL (L : List (List Int)) (k : Nat) : List Int := ((List.range L.length).filter fun i => (L.getD i []).contains (k : Int)).map fun (i : Nat) => (i : Int)
theorem turnL_bit {n : Nat} {L : List (List Int)} (hn : ∀ l ∈ L, rise n l = true) (i k : Nat) : (grp (turnL L k)).testBit i = true ↔ (grp (L.getD i [])).testBit k = true := by
  rw [testBit_grp]
  unfold turnL
  rw [List.map_map, List.mem_map]
  have hgi : ∀ i, (L.getD i []).contains (k : Int) = true ↔ (grp (L.getD i [])).testBit k = true := by
    intro i
    rw [List.contains_iff_mem]
    rcases Nat.lt_or_ge i L.length with h | h
    · exact (grp_bit (hn _ (getD_mem h)) k).symm
    · rw [getD_ge h]; simp [grp, ofN]
  constructor
  · rintro ⟨j, hj, rfl⟩
    rw [List.mem_filter] at hj
    exact (hgi _).1 hj.2
  · intro h
    have h2 := (hgi i).2 h
    refine ⟨i, ?_, by simp⟩
    rw [List.mem_filter, List.mem_range]
    refine ⟨?_, h2⟩
    rcases Nat.lt_or_ge i L.length with h | h
    · exact h
    · rw [getD_ge h] at h2; cases h2
/-- The set of useful spots, as the program reckons it. -/
def useN (m : Mc) : Nat := rch (grp m.fi) (m.fo.map grp) (fullN m) &&& rch (lastN m) ((List.range m.sp.length).map fun k => grp (turnL m.fo k)) (fullN m)
theorem full_lt {m : Mc} (h : m.sp.length ≤ 256) : fullN m < 2 ^ 256 := ofN_lt _ (fun x hx => by
  have := List.mem_range.1 (List.mem_filter.1 hx).1; omega)
theorem useN_us {m : Mc} (h : Rt m) : Us m (useN m) := by
  have h250 := h.many
  have hW := full_lt (m := m) (by omega)
  intro k
  unfold useN
  rw [Nat.testBit_and, Bool.and_eq_true, (rch_iff _ _ _ hW).2, (rch_iff _ _ _ hW).2]
  have e1 : ∀ i k, Ed (m.fo.map grp) i k ↔ (foN m i).testBit k = true := fun i k => by unfold Ed; rw [map_grp]
  have e2 : ∀ i k, k < m.sp.length → (Ed ((List.range m.sp.length).map fun k => grp (turnL m.fo k)) i k ↔ (foN m k).testBit i = true) := fun i k hk => by
    unfold Ed
    rcases Nat.lt_or_ge i m.sp.length with hi | hi
    · rw [List.getD_eq_getElem?_getD, List.getElem?_map, List.getElem?_range hi]
      show (grp (turnL m.fo i)).testBit k = true ↔ _
      exact turnL_bit h.foR k i
    · rw [getD_ge (by simpa using hi)]
      constructor
      · intro h; rw [Nat.zero_testBit] at h; cases h
      · intro h2; have := fo_lt h h2; omega
  have hk : ∀ k, (fullN m).testBit k = true → k < m.sp.length := fun k hk => by
    rw [full_bit] at hk
    rcases Nat.lt_or_ge k m.sp.length with h | h
    · exact h
    · unfold stN at hk; rw [getD_ge h] at hk; exact absurd rfl hk
  constructor
  · rintro ⟨a, b⟩
    refine ⟨Rc.least (p := Co m) (fun k x y => .base x y) (fun i k x y z => .step x ((e1 i k).1 y) z) k a, Rc.least (p := Gg m) (fun k x y => .base x y) (fun i k x y z => .step x ((e2 i k (hk k z)).1 y) z) k b⟩
  · rintro ⟨a, b⟩
    refine ⟨Rc.least (p := Rc _ _ (Ed (m.fo.map grp))) (fun k x y => .base x y) (fun i k x y z => .step x ((e1 i k).2 y) z) k a, Rc.least (p := Rc _ _ (Ed ((List.range m.sp.length).map fun k => grp (turnL m.fo k)))) (fun k x y => .base x y) (fun i k x y z => .step x ((e2 i k (hk k z)).2 y) z) k b⟩
end Nf
end Go.Proofs.YtmjjkamndlefmaaDoor
namespace Go.Proofs.YtmjjkamndlefmaaDoor
open Go.RowKit Sets Nf
namespace Nf
open Classical in
noncomputable def setOf (w : World) (B : Nat) : Nat := if h : ∃ S, SetB w B S ∧ S < 2 ^ 256 then h.choose else 0
theorem SetB.one {w : World} {B S T : Nat} (h : SetB w B S) (g : SetB w B T) (hS : S < 2 ^ 256) (hT : T < 2 ^ 256) : S = T := by
  have e := h.row.symm.trans g.row
  injection e with e
  injection e with e1
  have e2 : setC S = setC T := e1
  unfold setC at e2
  refine ext_words hS hT (fun i hi => ?_)
  have h4 : i = 0 ∨ i = 1 ∨ i = 2 ∨ i = 3 := by omega
  simp at e2
  rcases h4 with rfl | rfl | rfl | rfl <;> omega
theorem setOf_eq {w : World} {B S : Nat} (h : SetB w B S) (hS : S < 2 ^ 256) : setOf w B = S := by
  unfold setOf
  have hex : ∃ S, SetB w B S ∧ S < 2 ^ 256 := ⟨S, h, hS⟩
  rw [dif_pos hex]
  exact SetB.one hex.choose_spec.1 h hex.choose_spec.2 hS
theorem wpList_neq_some {ops : Array Oper} {rest : List Oper} {o : Oper} {a : Act} {w : World} {Q : Exit → Act → World → Prop} (hgd : o.guard = none) (t : TypeId) (x y : Operand) (ho : o.op = .binOp .neq 54 x y t)
    (S : Nat) (hx : a.eval x = .agg (setC S)) (hy : a.eval y = .agg #[.int .u64 0, .int .u64 0, .int .u64 0, .int .u64 0]) (hS : S < 2 ^ 256) (h0 : ¬ S = 0) (h : wpList Tryd.prog ops Q rest (a.put o.dst (.bool true)) w) : wpList Tryd.prog ops Q (o :: rest) a w :=
  wpList_neq_zero hgd t x y ho S hx hy hS (by rw [decide_eq_false h0]; exact h)
theorem wpList_neq_none {ops : Array Oper} {rest : List Oper} {o : Oper} {a : Act} {w : World} {Q : Exit → Act → World → Prop} (hgd : o.guard = none) (t : TypeId) (x y : Operand) (ho : o.op = .binOp .neq 54 x y t)
    (S : Nat) (hx : a.eval x = .agg (setC S)) (hy : a.eval y = .agg #[.int .u64 0, .int .u64 0, .int .u64 0, .int .u64 0]) (hS : S < 2 ^ 256) (h0 : S = 0) (h : wpList Tryd.prog ops Q rest (a.put o.dst (.bool false)) w) : wpList Tryd.prog ops Q (o :: rest) a w :=
  wpList_neq_zero hgd t x y ho S hx hy hS (by rw [decide_eq_true h0]; exact h)
/-- the state of reach -/
structure ReI (G : List Nat) (W R n f all more : Nat) : Prop where
  fu : 256 - cnt all < f
  a : all < 2 ^ 256
  m : more < 2 ^ 256
  d : all &&& more = 0
  r : rchN G W f all more = R
  s : ∀ k, more.testBit k = true → k < n
theorem ReI.step {G : List Nat} {W R n f all more : Nat} (h : ReI G W R n (f + 1) all more) (hW : W < 2 ^ 256) (hWn : ∀ k, W.testBit k = true → k < n) (h0 : more ≠ 0) :
    ReI G W R n f (all ||| more) ((bh G more &&& W) &&& (full ^^^ (all ||| more))) ∧ cnt all < cnt (all ||| more) := by
  have h1 := cnt_pos h0 h.m
  have h2 := cnt_apart h.d
  have h3 := cnt_le (all ||| more)
  have h4 := h.fu
  refine ⟨⟨by omega, lt_or h.a h.m, next_lt _ _ _ _ hW, next_apart _ _ _ _ hW, by rw [← rchN_step _ _ _ _ _ h0]; exact h.r, fun k hk => ?_⟩, by omega⟩
  exact hWn k ((next_bit _ _ _ _ _ hW).1 hk).2.1
end Nf
end Go.Proofs.YtmjjkamndlefmaaDoor
namespace Go.Proofs.YtmjjkamndlefmaaDoor
open Go.RowKit Sets Nf
namespace Nf
theorem own_kept {w w' : World} {base : Nat} {e : TypeId} {size : Nat} {v : Value} {n : Nat} {xs : List Value} (h : w.ownsRow base e size v n xs) (hk : ∀ g, v.ownBlock = some g → w'.heap[g]? = w.heap[g]?) : w'.ownsRow base e size v n xs := by
  obtain ⟨h1, h2⟩ := h
  refine ⟨h1, ?_⟩
  rcases h2 with h2 | ⟨g, cap, cur, h3, h4, h5, h6⟩
  · exact .inl h2
  · exact .inr ⟨g, cap, cur, h3, h4, by rw [hk g (by rw [h3]; rfl)]; exact h5, h6⟩
theorem own_slice {w : World} {base : Nat} {e : TypeId} {size : Nat} {v : Value} {n : Nat} {xs : List Value} (h : w.ownsRow base e size v n xs) : ∃ a c, v = .slice a n c ∧ (n = 0 ∨ ∃ g, a = some ⟨g, 0, none⟩ ∧ base ≤ g ∧ g < w.heap.size) := by
  rcases h.2 with ⟨h1, h2⟩ | ⟨g, cap, cur, h1, h3, h4, h2, -⟩
  · exact ⟨none, 0, by rw [h1, h2], .inl h2⟩
  · exact ⟨_, cap, h1, .inr ⟨g, rfl, h3, (Array.getElem?_eq_some_iff.1 h4).1⟩⟩
theorem own_stay {w w' : World} {base : Nat} {e : TypeId} {size : Nat} {v : Value} {n : Nat} {xs : List Value} (h : w.ownsRow base e size v n xs) (hb : Below w.heap.size w w') : w'.ownsRow base e size v n xs :=
  own_kept h fun g hg => hb.block g (h.lt g hg).2
theorem own_mono {w : World} {base base' : Nat} {e : TypeId} {size : Nat} {v : Value} {n : Nat} {xs : List Value} (h : w.ownsRow base e size v n xs) (hb : base' ≤ base) : w.ownsRow base' e size v n xs := by
  obtain ⟨h1, h2⟩ := h
  refine ⟨h1, ?_⟩
  rcases h2 with h2 | ⟨g, cap, cur, h3, h4, h5⟩
  · exact .inl h2
  · exact .inr ⟨g, cap, cur, h3, Nat.le_trans hb h4, h5⟩
/-- What an append onto v leaves of w: all but v's own block; and v' lies there, or is new. -/
structure Ap (w : World) (v : Value) (w' : World) (v' : Value) : Prop where
  size : w.heap.size ≤ w'.heap.size
  block : ∀ k, k < w.heap.size → v.ownBlock ≠ some k → w'.heap[k]? = w.heap[k]?
  own : ∀ g, v'.ownBlock = some g → v.ownBlock = some g ∨ w.heap.size ≤ g
theorem wpList_push {ops : Array Oper} {rest : List Oper} {o : Oper} {a : Act} {w : World} {Q : Exit → Act → World → Prop} (ts e : TypeId) (z : Value) (size bytes : Nat) (hu : Tryd.prog.underlying ts = some (.slice e))
    (hinfo : (Tryd.prog.info? e).map (fun i => (i.zero, i.size, i.bytes)) = some (some z, size, bytes)) (hzs : z.cells.size = size) (hsz : 0 < size) (hgd : o.guard = none) (s x : Operand)
    (ho : o.op = .call { callee := .builtin .append, args := #[s, x], argTypes := #[ts, ts] }) (B : Nat) (v : Value) (n : Nat) (xs : List Value) (hs : a.eval s = v)
    (hown : w.ownsRow B e size v n xs) (news : List Value) (cs : Array Value) (hcs : cs = news.toArray) (hl : news.length = size) (h1 : ∀ u ∈ news, u.oneCell' = true) (hx : a.eval x = .slice (some ⟨w.heap.size, 0, none⟩) 1 1) (hn : n ≤ 100000) (hb : bytes ≤ 1000) (hbase : B ≤ w.heap.size)
    (h : ∀ v' w', w'.ownsRow B e size v' (n + 1) (xs ++ news) → Below B w w' → Ap w v w' v' → wpList Tryd.prog ops Q rest (a.put o.dst v') w') :
    wpList Tryd.prog ops Q (o :: rest) a (w.alloc (.cells cs e)) := by
  subst hcs
  obtain ⟨i0, hi, hz0, hz1, hz2⟩ := info_parts hinfo
  have hmul : (n + 1) * bytes ≤ 100001 * 1000 := Nat.mul_le_mul (by omega) hb
  refine wpList_append_own_at _ hgd s x ts ho B e i0 z size bytes hu hi hz0 hz1 hz2 hzs hsz v _ _ hs (hown.alloc _) ⟨w.heap.size, 0, none⟩ 1 1 news hx (by rw [hl, Nat.one_mul]) ?_ h1 ?_ ?_ ?_ ?_
  · intro j u hj
    have e : (⟨w.heap.size, 0, none⟩ : Addr).add j = ⟨w.heap.size, 0 + j, none⟩ := by unfold Addr.add; split <;> simp_all
    rw [e, Nat.zero_add, World.cell?_alloc_new, List.getElem?_toArray]
    exact hj
  · unfold maxLen; omega
  · omega
  · simp; omega
  · intro v' w' h1 h2 _ h4
    refine h v' w' h1 (((Below.refl _ _).alloc hbase _).grown h2 (by simp; omega) (fun j hj => (hown.lt j hj).1)) ⟨?_, ?_, ?_⟩
    · have := h2.size; simp at this; omega
    · intro k hk hne
      rw [h2.block k (by simp; omega) (fun e => hne e.symm)]
      exact ((Below.refl w.heap.size w).alloc (Nat.le_refl _) _).block k hk
    · intro g hg
      rcases h4 with h4 | h4
      · exact .inl (by rw [← h4]; exact hg)
      · rw [h4] at hg
        simp at hg
        exact .inr (by omega)
def is64 (l : List Int) : List Value := l.map (Value.int .i64 ·)
theorem is64_append (l k : List Int) : is64 (l ++ k) = is64 l ++ is64 k := List.map_append
theorem is64_length (l : List Int) : (is64 l).length = l.length := List.length_map _
theorem infoInt : (Tryd.prog.info? 3).map (fun i => (i.zero, i.size, i.bytes)) = some (some (.int .i64 0), 1, 8) := by kernel_rfl
def OwnN (B : Nat) (w : World) (v : Value) (l : List Int) : Prop := w.ownsRow B 3 1 v l.length (is64 l)
theorem OwnN.nil (B : Nat) (w : World) : OwnN B w (.slice none 0 0) [] := World.ownsRow_nil _ _ _ _
theorem OwnN.nums {B : Nat} {w : World} {v : Value} {l : List Int} (h : OwnN B w v l) : ∃ a c, v = .slice a l.length c ∧ NumsIn w a l := by
  rcases h.2 with ⟨h1, h2⟩ | ⟨g, cap, cur, h1, -⟩
  · exact ⟨none, 0, by rw [h1, h2], fun i hi => by omega⟩
  · subst h1
    refine ⟨_, cap, rfl, fun i hi => ⟨g, 0, rfl, ?_⟩⟩
    rw [Nat.zero_add, World.ownsRow.cellAt h i (by omega)]
    unfold is64
    rw [List.getElem?_map, List.getElem?_eq_getElem hi, List.getD_eq_getElem?_getD, List.getElem?_eq_getElem hi]; rfl
/-- one more number -/
theorem wpList_pushN {ops : Array Oper} {rest : List Oper} {o : Oper} {a : Act} {w : World} {Q : Exit → Act → World → Prop} (hgd : o.guard = none) (s x : Operand)
    (ho : o.op = .call { callee := .builtin .append, args := #[s, x], argTypes := #[41, 41] }) (B : Nat) (v : Value) (l : List Int) (k : Int) (hs : a.eval s = v)
    (hown : OwnN B w v l) (hx : a.eval x = .slice (some ⟨w.heap.size, 0, none⟩) 1 1) (hn : l.length ≤ 100000) (hbase : B ≤ w.heap.size)
    (h : ∀ v' w', OwnN B w' v' (l ++ [k]) → Below B w w' → Ap w v w' v' → wpList Tryd.prog ops Q rest (a.put o.dst v') w') :
    wpList Tryd.prog ops Q (o :: rest) a (w.alloc (.cells #[.int .i64 k] 3)) := by
  refine wpList_push 41 3 (.int .i64 0) 1 8 Tryd.underlying41 infoInt rfl (by decide) hgd s x ho B v l.length (is64 l) hs hown [.int .i64 k] _ rfl rfl (fun u hu => by rw [List.mem_singleton.1 hu]; rfl) hx hn (by decide) hbase ?_
  intro v' w' h1 h2 h3
  refine h v' w' ?_ h2 h3
  unfold OwnN
  rw [is64_append, List.length_append]
  exact h1
/-- what is left of a list, by the numbers -/
def leftN (nums l : List Int) : List Int := (l.filter fun k => nums.getD k.toNat 0 != -1).map fun k => nums.getD k.toNat 0
theorem leftN_take (nums l : List Int) (j : Nat) (h : j < l.length) : leftN nums (l.take (j + 1)) = if nums.getD (l.getD j 0).toNat 0 = -1 then leftN nums (l.take j) else leftN nums (l.take j) ++ [nums.getD (l.getD j 0).toNat 0] := by
  unfold leftN
  rw [List.take_succ_eq_append_getElem h, List.filter_append, List.map_append, List.getD_eq_getElem?_getD (l := l), List.getElem?_eq_getElem h, List.filter_cons, Option.getD_some]
  by_cases e : nums.getD l[j].toNat 0 = -1
  · rw [if_pos e, if_neg (by rw [e]; decide)]; simp
  · rw [if_neg e, if_pos (by rw [bne_iff_ne]; exact e)]; simp
end Nf
end Go.Proofs.YtmjjkamndlefmaaDoor
namespace Go.Proofs.YtmjjkamndlefmaaDoor
open Go.RowKit Sets Nf
namespace Nf
/-- A row of lists in the making: block A holds their slices, each in memory of its own. -/
structure TnI (w0 : World) (A n : Nat) (vs : Nat → Value) (ls : Nat → List Int) (w : World) : Prop where
  row : w.rowIs A 41 n vs
  own : ∀ j, j < n → OwnN w0.heap.size w (vs j) (ls j)
  apart : ∀ i j, i < n → j < n → i ≠ j → ∀ g, (vs i).ownBlock = some g → (vs j).ownBlock ≠ some g
  notA : ∀ j, j < n → (vs j).ownBlock ≠ some A
  low : w0.heap.size ≤ A
  below : Below w0.heap.size w0 w
theorem TnI.push {w0 w w' : World} {A n : Nat} {vs : Nat → Value} {ls ls' : Nat → List Int} (h : TnI w0 A n vs ls w) {j0 : Nat} (hj : j0 < n) {v' : Value} {k : Int}
    (ho : OwnN w0.heap.size w' v' (ls j0 ++ [k])) (hb : Below w0.heap.size w w') (ha : Ap w (vs j0) w' v') (h1 : ls' j0 = ls j0 ++ [k]) (h2 : ∀ j, j < n → j ≠ j0 → ls' j = ls j) :
    TnI w0 A n (fun j => if j = j0 then v' else vs j) ls' (w'.setCell ⟨A, j0, none⟩ v') := by
  have hA : A < w.heap.size := World.rowIs.lt h.row
  have hrow : w'.rowIs A 41 n vs := World.rowIs.of_block h.row (ha.block A hA (h.notA j0 hj))
  have hnA : v'.ownBlock ≠ some A := fun e => by
    rcases ha.own A e with h3 | h3
    · exact h.notA j0 hj h3
    · omega
  have hset : ∀ g, g ≠ A → (w'.setCell ⟨A, j0, none⟩ v').heap[g]? = w'.heap[g]? := fun g hg => Below.heap_setCell w' ⟨A, j0, none⟩ v' g hg
  refine ⟨World.rowIs.set hrow j0 v', fun j hjn => ?_, fun i j hi hjn hne g hg => ?_, fun j hjn => ?_, h.low, ?_⟩
  · by_cases e : j = j0
    · subst e
      show OwnN _ _ (if j = j then v' else vs j) _
      rw [if_pos rfl, h1]
      exact own_kept ho fun g hg => hset g (fun e => hnA (by rw [hg, e]))
    · show OwnN _ _ (if j = j0 then v' else vs j) _
      rw [if_neg e, h2 j hjn e]
      have h3 := h.own j hjn
      refine own_kept (w := w) h3 fun g hg => ?_
      rw [hset g (fun e2 => h.notA j hjn (by rw [hg, e2]))]
      exact ha.block g (h3.lt g hg).2 (fun e2 => h.apart j j0 hjn hj e g hg e2)
  · have hfresh : ∀ q, q < n → q ≠ j0 → ∀ x, (vs q).ownBlock = some x → v'.ownBlock ≠ some x := fun q hq hne x hx e => by
      rcases ha.own x e with h3 | h3
      · exact h.apart q j0 hq hj hne x hx h3
      · have := ((h.own q hq).lt x hx).2; omega
    by_cases ei : i = j0
    · subst ei
      have ej : ¬ j = i := fun e => hne e.symm
      simp only [if_true] at hg
      show (if j = i then v' else vs j).ownBlock ≠ _
      rw [if_neg ej]
      exact fun e => hfresh j hjn ej g e hg
    · simp only [if_neg ei] at hg
      show (if j = j0 then v' else vs j).ownBlock ≠ _
      by_cases ej : j = j0
      · rw [if_pos ej]; exact hfresh i hi ei g hg
      · rw [if_neg ej]; exact h.apart i j hi hjn hne g hg
  · show (if j = j0 then v' else vs j).ownBlock ≠ _
    by_cases e : j = j0
    · rw [if_pos e]; exact hnA
    · rw [if_neg e]; exact h.notA j hjn
  · exact (h.below.trans hb).setCell h.low v'
theorem TnI.congr {w0 w : World} {A n : Nat} {vs : Nat → Value} {ls ls' : Nat → List Int} (h : TnI w0 A n vs ls w) (e : ∀ j, j < n → ls' j = ls j) : TnI w0 A n vs ls' w :=
  ⟨h.row, fun j hj => by rw [e j hj]; exact h.own j hj, h.apart, h.notA, h.low, h.below⟩
theorem TnI.lists {w0 w : World} {A n : Nat} {vs : Nat → Value} {ls : Nat → List Int} (h : TnI w0 A n vs ls w) : ListsIn w (some ⟨A, 0, none⟩) ((List.range n).map ls) := by
  intro i hi
  rw [List.length_map, List.length_range] at hi
  have hg : ((List.range n).map ls).getD i [] = ls i := by rw [List.getD_eq_getElem?_getD, List.getElem?_map, List.getElem?_range hi]; rfl
  rw [hg]
  obtain ⟨a, c, e, hn⟩ := (h.own i hi).nums
  refine ⟨A, 0, a, c, rfl, ?_, hn⟩
  rw [Nat.zero_add, World.rowIs.cell h.row hi, e]
theorem infoIs : (Tryd.prog.info? 41).map (fun i => (i.zero, i.size, i.bytes)) = some (some (.slice none 0 0), 1, 24) := by kernel_rfl
theorem TnI.new (w : World) (n : Nat) : TnI w w.heap.size n (fun _ => .slice none 0 0) (fun _ => []) (w.alloc (.cells (madeCells #[.slice none 0 0] n) 41)) :=
  ⟨World.rowIs_made w _ n _, fun _ _ => OwnN.nil _ _, fun _ _ _ _ _ g hg => (by cases hg), fun _ _ h => (by cases h), Nat.le_refl _, (Below.refl _ _).alloc (Nat.le_refl _) _⟩
/-- what stands at j behind i whole lists, and p numbers of the next -/
def tnL (L : List (List Int)) (i p j : Nat) : List Int := (((List.range i).filter fun k => (L.getD k []).contains (j : Int)).map fun (k : Nat) => (k : Int)) ++ (if ((L.getD i []).take p).contains (j : Int) then [(i : Int)] else [])
theorem tnL_zero (L : List (List Int)) (j : Nat) : tnL L 0 0 j = [] := by simp [tnL]
theorem tnL_next (L : List (List Int)) (i j : Nat) : tnL L i (L.getD i []).length j = tnL L (i + 1) 0 j := by
  unfold tnL
  rw [List.take_length, List.take_zero, List.range_succ, List.filter_append, List.map_append, List.filter_cons, List.filter_nil]
  cases (L.getD i []).contains (j : Int) <;> simp
theorem tnL_all (L : List (List Int)) (j : Nat) : tnL L L.length 0 j = turnL L j := by
  unfold tnL turnL
  simp
theorem tnL_other (L : List (List Int)) (i p j : Nat) (hp : p < (L.getD i []).length) (hne : (L.getD i []).getD p 0 ≠ (j : Int)) : tnL L i (p + 1) j = tnL L i p j := by
  unfold tnL
  congr 1
  have : ((L.getD i []).take (p + 1)).contains (j : Int) = ((L.getD i []).take p).contains (j : Int) := by
    rw [List.take_succ_eq_append_getElem hp, Bool.eq_iff_iff, List.contains_iff_mem, List.contains_iff_mem, List.mem_append, List.mem_singleton]
    rw [List.getD_eq_getElem?_getD (i := p), List.getElem?_eq_getElem hp] at hne
    constructor
    · rintro (h | h)
      · exact h
      · exact absurd h.symm hne
    · exact .inl
  rw [this]
theorem tnL_here {n : Nat} (L : List (List Int)) (i p j : Nat) (hp : p < (L.getD i []).length) (he : (L.getD i []).getD p 0 = (j : Int)) (hr : rise n (L.getD i []) = true) : tnL L i (p + 1) j = tnL L i p j ++ [(i : Int)] := by
  unfold tnL
  have hpw := ((rise_iff _ _).1 hr).2
  rw [List.getD_eq_getElem?_getD (i := p), List.getElem?_eq_getElem hp] at he
  have h1 : ((L.getD i []).take (p + 1)).contains (j : Int) = true := by
    rw [List.take_succ_eq_append_getElem hp, List.contains_iff_mem, List.mem_append, List.mem_singleton]
    exact .inr he.symm
  have h2 : ((L.getD i []).take p).contains (j : Int) = false := by
    rw [Bool.eq_false_iff]
    intro h
    rw [List.contains_iff_mem] at h
    obtain ⟨q, hq, e⟩ := List.mem_iff_getElem.1 h
    rw [List.length_take] at hq
    rw [List.getElem_take] at e
    have := List.pairwise_iff_getElem.1 hpw q p (by omega) hp (by omega)
    rw [e] at this
    have h3 : (L.getD i [])[p] = (j : Int) := he
    omega
  rw [h1, h2]
  simp
end Nf
end Go.Proofs.YtmjjkamndlefmaaDoor
