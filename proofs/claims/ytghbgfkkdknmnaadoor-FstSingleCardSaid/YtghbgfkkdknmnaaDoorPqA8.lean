/- Several texts in one. -/
import Derived.Test.YtghbgfkkdknmnaaDoorPqA0
import Derived.Test.YtghbgfkkdknmnaaDoorPqA7
import Derived.Test.YtghbgfkkdknmnaaDoorPqA3
import Derived.Maps.AppendAt
import Derived.OwnWalk
import Derived.Test.YtghbgfkkdknmnaaDoorPqA4
namespace Go.Proofs.YtghbgfkkdknmnaaDoor
namespace Nf
open Sets
def rchN (G : List Nat) (W : Nat) : Nat → Nat → Nat → Nat
  | 0, all, _ => all
  | f + 1, all, more => if more = 0 then all else rchN G W f (all ||| more) ((bh G more &&& W) &&& (full ^^^ (all ||| more)))
def rch (F : Nat) (G : List Nat) (W : Nat) : Nat := rchN G W 257 0 (F &&& W)
theorem cnt_pos {S : Nat} (h : S ≠ 0) (hS : S < 2 ^ 256) : 0 < cnt S := by
  obtain ⟨k, hk⟩ := Nat.exists_testBit_of_ne_zero h
  rw [← listN_length]
  refine List.length_pos_of_mem ((mem_listN S k).2 ⟨?_, hk⟩)
  rcases Nat.lt_or_ge k 256 with h1 | h1
  · exact h1
  · rw [testBit_ge hS h1] at hk; cases hk
theorem cnt_zero : cnt 0 = 0 := by decide +kernel
theorem cnt_apart {A B : Nat} (h : A &&& B = 0) : cnt (A ||| B) = cnt A + cnt B := by
  have := cnt_and_or A B
  rw [h, cnt_zero] at this
  omega
theorem and_eq_zero {A B : Nat} (h : ∀ k, A.testBit k = true → B.testBit k = true → False) : A &&& B = 0 := by
  apply Nat.eq_of_testBit_eq
  intro k
  rw [Nat.testBit_and, Nat.zero_testBit, Bool.eq_false_iff]
  intro hh
  rw [Bool.and_eq_true] at hh
  exact h k hh.1 hh.2
theorem not_bit (A k : Nat) (hk : k < 256) : (full ^^^ A).testBit k = true ↔ ¬ A.testBit k = true := by
  rw [Nat.testBit_xor, testBit_full, decide_eq_true hk]
  cases A.testBit k <;> simp
theorem bit256 {A k : Nat} (hA : A < 2 ^ 256) (h : A.testBit k = true) : k < 256 := by
  rcases Nat.lt_or_ge k 256 with h1 | h1
  · exact h1
  · rw [testBit_ge hA h1] at h; cases h
theorem next_bit (G : List Nat) (W A B k : Nat) (hW : W < 2 ^ 256) : ((bh G B &&& W) &&& (full ^^^ A)).testBit k = true ↔ (∃ i, i < 256 ∧ B.testBit i = true ∧ (G.getD i 0).testBit k = true) ∧ W.testBit k = true ∧ ¬ A.testBit k = true := by
  rw [Nat.testBit_and, Nat.testBit_and, Bool.and_eq_true, Bool.and_eq_true, bh_bit]
  constructor
  · rintro ⟨⟨h1, h2⟩, h3⟩
    exact ⟨h1, h2, (not_bit A k (bit256 hW h2)).1 h3⟩
  · rintro ⟨h1, h2, h3⟩
    exact ⟨⟨h1, h2⟩, (not_bit A k (bit256 hW h2)).2 h3⟩
theorem next_apart (G : List Nat) (W A B : Nat) (hW : W < 2 ^ 256) : A &&& ((bh G B &&& W) &&& (full ^^^ A)) = 0 :=
  and_eq_zero (fun k h1 h2 => ((next_bit G W A B k hW).1 h2).2.2 h1)
theorem next_lt (G : List Nat) (W A B : Nat) (hW : W < 2 ^ 256) : ((bh G B &&& W) &&& (full ^^^ A)) < 2 ^ 256 :=
  Nat.lt_of_le_of_lt Nat.and_le_left (Nat.lt_of_le_of_lt Nat.and_le_right hW)
abbrev Ed (G : List Nat) : Nat → Nat → Prop := fun i k => (G.getD i 0).testBit k = true
theorem rchN_iff (G : List Nat) (F W : Nat) (hW : W < 2 ^ 256) : ∀ (f all more : Nat), 256 - cnt all < f → all < 2 ^ 256 → more < 2 ^ 256 → all &&& more = 0 →
    (∀ k, all.testBit k = true → Rc F W (Ed G) k) → (∀ k, more.testBit k = true → Rc F W (Ed G) k) →
    (∀ k, F.testBit k = true → W.testBit k = true → all.testBit k = true ∨ more.testBit k = true) →
    (∀ i k, all.testBit i = true → Ed G i k → W.testBit k = true → all.testBit k = true ∨ more.testBit k = true) →
    (rchN G W f all more < 2 ^ 256 ∧ ∀ k, (rchN G W f all more).testBit k = true ↔ Rc F W (Ed G) k)
  | 0, _, _, hf, _, _, _, _, _, _, _ => absurd hf (Nat.not_lt_zero _)
  | f + 1, all, more, hf, ha, hm, hd, h1, h2, h3, h4 => by
    unfold rchN
    by_cases h0 : more = 0
    · rw [if_pos h0]
      subst h0
      refine ⟨ha, fun k => ⟨h1 k, fun h => ?_⟩⟩
      refine Rc.least (p := fun k => all.testBit k = true) (fun k a b => ?_) (fun i k a b c => ?_) k h
      · rcases h3 k a b with h | h
        · exact h
        · rw [Nat.zero_testBit] at h; cases h
      · rcases h4 i k a b c with h | h
        · exact h
        · rw [Nat.zero_testBit] at h; cases h
    · rw [if_neg h0]
      have hor : ∀ k, (all ||| more).testBit k = true ↔ all.testBit k = true ∨ more.testBit k = true := fun k => by rw [Nat.testBit_or, Bool.or_eq_true]
      have hcp := cnt_pos h0 hm
      have hca := cnt_apart hd
      have hle := cnt_le (all ||| more)
      refine rchN_iff G F W hW f _ _ (by omega) (lt_or ha hm) (next_lt _ _ _ _ hW) (next_apart _ _ _ _ hW) ?_ ?_ ?_ ?_
      · intro k hk
        rcases (hor k).1 hk with h | h
        · exact h1 k h
        · exact h2 k h
      · intro k hk
        obtain ⟨⟨i, -, a, b⟩, c, -⟩ := (next_bit _ _ _ _ _ hW).1 hk
        exact .step (h2 i a) b c
      · intro k a b
        exact .inl ((hor k).2 (h3 k a b))
      · intro i k a b c
        by_cases hk : (all ||| more).testBit k = true
        · exact .inl hk
        · refine .inr ((next_bit _ _ _ _ _ hW).2 ⟨?_, c, hk⟩)
          rcases (hor i).1 a with h | h
          · exact absurd ((hor k).2 (h4 i k h b c)) hk
          · exact ⟨i, bit256 hm h, h, b⟩
theorem rch_iff (G : List Nat) (F W : Nat) (hW : W < 2 ^ 256) : rch F G W < 2 ^ 256 ∧ ∀ k, (rch F G W).testBit k = true ↔ Rc F W (Ed G) k := by
  refine rchN_iff G F W hW 257 0 (F &&& W) (by rw [cnt_zero]; decide) (Nat.two_pow_pos 256) (Nat.lt_of_le_of_lt Nat.and_le_right hW) (Nat.zero_and _) ?_ ?_ ?_ ?_
  · intro k h; rw [Nat.zero_testBit] at h; cases h
  · intro k h
    rw [Nat.testBit_and, Bool.and_eq_true] at h
    exact .base h.1 h.2
  · intro k a b
    exact .inr (by rw [Nat.testBit_and, a, b]; rfl)
  · intro i k h; rw [Nat.zero_testBit] at h; cases h
theorem rchN_step (G : List Nat) (W f all more : Nat) (h : more ≠ 0) : rchN G W (f + 1) all more = rchN G W f (all ||| more) ((bh G more &&& W) &&& (full ^^^ (all ||| more))) := by
  rw [rchN, if_neg h]
theorem rchN_stop (G : List Nat) (W f all : Nat) : rchN G W f all 0 = all := by
  cases f with
  | zero => rfl
  | succ f => rw [rchN, if_pos rfl]
/-- who leads to k -/
def turnL (L : List (List Int)) (k : Nat) : List Int := ((List.range L.length).filter fun i => (L.getD i []).contains (k : Int)).map fun (i : Nat) => (i : Int)
theorem turnL_bit {n : Nat} {L : List (List Int)} (hn : ∀ l ∈ L, rise n l = true) (i k : Nat) : (grp (turnL L k)).testBit i = true ↔ (grp (L.getD i [])).testBit k = true := by
  rw [testBit_grp]
  unfold turnL
  rw [List.map_map, List.mem_map]
  have hgi : ∀ i, (L.getD i []).contains (k : Int) = true ↔ (grp (L.getD i [])).testBit k = true := by
    intro i
    rw [List.contains_iff_mem]
    rcases Nat.lt_or_ge i L.length with h | h
    · exact (grp_bit (hn _ (getD_mem h)) k).symm
    · rw [getD_ge h]; simp [grp, ofN]
  constructor
  · rintro ⟨j, hj, rfl⟩
    rw [List.mem_filter] at hj
    exact (hgi _).1 hj.2
  · intro h
    have h2 := (hgi i).2 h
    refine ⟨i, ?_, by simp⟩
    rw [List.mem_filter, List.mem_range]
    refine ⟨?_, h2⟩
    rcases Nat.lt_or_ge i L.length with h | h
    · exact h
    · rw [getD_ge h] at h2; cases h2
/-- The set of useful spots, as the program reckons it. -/
def useN (m : Mc) : Nat := rch (grp m.fi) (m.fo.map grp) (fullN m) &&& rch (lastN m) ((List.range m.sp.length).map fun k => grp (turnL m.fo k)) (fullN m)
theorem full_lt {m : Mc} (h : m.sp.length ≤ 256) : fullN m < 2 ^ 256 := ofN_lt _ (fun x hx => by
  have := List.mem_range.1 (List.mem_filter.1 hx).1; omega)
theorem useN_us {m : Mc} (h : Rt m) : Us m (useN m) := by
  have h250 := h.many
  have hW := full_lt (m := m) (by omega)
  intro k
  unfold useN
  rw [Nat.testBit_and, Bool.and_eq_true, (rch_iff _ _ _ hW).2, (rch_iff _ _ _ hW).2]
  have e1 : ∀ i k, Ed (m.fo.map grp) i k ↔ (foN m i).testBit k = true := fun i k => by unfold Ed; rw [map_grp]
  have e2 : ∀ i k, k < m.sp.length → (Ed ((List.range m.sp.length).map fun k => grp (turnL m.fo k)) i k ↔ (foN m k).testBit i = true) := fun i k hk => by
    unfold Ed
    rcases Nat.lt_or_ge i m.sp.length with hi | hi
    · rw [List.getD_eq_getElem?_getD, List.getElem?_map, List.getElem?_range hi]
      show (grp (turnL m.fo i)).testBit k = true ↔ _
      exact turnL_bit h.foR k i
    · rw [getD_ge (by simpa using hi)]
      constructor
      · intro h; rw [Nat.zero_testBit] at h; cases h
      · intro h2; have := fo_lt h h2; omega
  have hk : ∀ k, (fullN m).testBit k = true → k < m.sp.length := fun k hk => by
    rw [full_bit] at hk
    rcases Nat.lt_or_ge k m.sp.length with h | h
    · exact h
    · unfold stN at hk; rw [getD_ge h] at hk; exact absurd rfl hk
  constructor
  · rintro ⟨a, b⟩
    refine ⟨Rc.least (p := Co m) (fun k x y => .base x y) (fun i k x y z => .step x ((e1 i k).1 y) z) k a, Rc.least (p := Gg m) (fun k x y => .base x y) (fun i k x y z => .step x ((e2 i k (hk k z)).1 y) z) k b⟩
  · rintro ⟨a, b⟩
    refine ⟨Rc.least (p := Rc _ _ (Ed (m.fo.map grp))) (fun k x y => .base x y) (fun i k x y z => .step x ((e1 i k).2 y) z) k a, Rc.least (p := Rc _ _ (Ed ((List.range m.sp.length).map fun k => grp (turnL m.fo k)))) (fun k x y => .base x y) (fun i k x y z => .step x ((e2 i k (hk k z)).2 y) z) k b⟩
end Nf
end Go.Proofs.YtghbgfkkdknmnaaDoor
namespace Go.Proofs.YtghbgfkkdknmnaaDoor
open Go.RowKit Sets Nf
namespace Nf
open Classical in
noncomputable def setOf (w : World) (B : Nat) : Nat := if h : ∃ S, SetB w B S ∧ S < 2 ^ 256 then h.choose else 0
theorem SetB.one {w : World} {B S T : Nat} (h : SetB w B S) (g : SetB w B T) (hS : S < 2 ^ 256) (hT : T < 2 ^ 256) : S = T := by
  have e := h.row.symm.trans g.row
  injection e with e
  injection e with e1
  have e2 : setC S = setC T := e1
  unfold setC at e2
  refine ext_words hS hT (fun i hi => ?_)
  have h4 : i = 0 ∨ i = 1 ∨ i = 2 ∨ i = 3 := by omega
  simp at e2
  rcases h4 with rfl | rfl | rfl | rfl <;> omega
theorem setOf_eq {w : World} {B S : Nat} (h : SetB w B S) (hS : S < 2 ^ 256) : setOf w B = S := by
  unfold setOf
  have hex : ∃ S, SetB w B S ∧ S < 2 ^ 256 := ⟨S, h, hS⟩
  rw [dif_pos hex]
  exact SetB.one hex.choose_spec.1 h hex.choose_spec.2 hS
theorem wpList_neq_some {ops : Array Oper} {rest : List Oper} {o : Oper} {a : Act} {w : World} {Q : Exit → Act → World → Prop} (hgd : o.guard = none) (t : TypeId) (x y : Operand) (ho : o.op = .binOp .neq 41 x y t)
    (S : Nat) (hx : a.eval x = .agg (setC S)) (hy : a.eval y = .agg #[.int .u64 0, .int .u64 0, .int .u64 0, .int .u64 0]) (hS : S < 2 ^ 256) (h0 : ¬ S = 0) (h : wpList Tryd.prog ops Q rest (a.put o.dst (.bool true)) w) : wpList Tryd.prog ops Q (o :: rest) a w :=
  wpList_neq_zero hgd t x y ho S hx hy hS (by rw [decide_eq_false h0]; exact h)
theorem wpList_neq_none {ops : Array Oper} {rest : List Oper} {o : Oper} {a : Act} {w : World} {Q : Exit → Act → World → Prop} (hgd : o.guard = none) (t : TypeId) (x y : Operand) (ho : o.op = .binOp .neq 41 x y t)
    (S : Nat) (hx : a.eval x = .agg (setC S)) (hy : a.eval y = .agg #[.int .u64 0, .int .u64 0, .int .u64 0, .int .u64 0]) (hS : S < 2 ^ 256) (h0 : S = 0) (h : wpList Tryd.prog ops Q rest (a.put o.dst (.bool false)) w) : wpList Tryd.prog ops Q (o :: rest) a w :=
  wpList_neq_zero hgd t x y ho S hx hy hS (by rw [decide_eq_true h0]; exact h)
/-- the state of reach -/
structure ReI (G : List Nat) (W R n f all more : Nat) : Prop where
  fu : 256 - cnt all < f
  a : all < 2 ^ 256
  m : more < 2 ^ 256
  d : all &&& more = 0
  r : rchN G W f all more = R
  s : ∀ k, more.testBit k = true → k < n
theorem ReI.step {G : List Nat} {W R n f all more : Nat} (h : ReI G W R n (f + 1) all more) (hW : W < 2 ^ 256) (hWn : ∀ k, W.testBit k = true → k < n) (h0 : more ≠ 0) :
    ReI G W R n f (all ||| more) ((bh G more &&& W) &&& (full ^^^ (all ||| more))) ∧ cnt all < cnt (all ||| more) := by
  have h1 := cnt_pos h0 h.m
  have h2 := cnt_apart h.d
  have h3 := cnt_le (all ||| more)
  have h4 := h.fu
  refine ⟨⟨by omega, lt_or h.a h.m, next_lt _ _ _ _ hW, next_apart _ _ _ _ hW, by rw [← rchN_step _ _ _ _ _ h0]; exact h.r, fun k hk => ?_⟩, by omega⟩
  exact hWn k ((next_bit _ _ _ _ _ hW).1 hk).2.1
set_option maxHeartbeats 6400000 in
set_option maxRecDepth 100000 in
theorem reach_any (ga F W : Nat) (G : List Nat) (w : World) (h : GsB w ga G) (hW : W < 2 ^ 256) (hWn : ∀ k, W.testBit k = true → k < G.length) (hT : Tab w) :
    Calls Tryd.prog 61 #[.agg (setC F), .slice (some ⟨ga, 0, none⟩) G.length G.length, .agg (setC W)] w fun e w' => e = .returned (.agg (setC (rch F G W))) ∧ Below w.heap.size w w' := by
  have HG : Hid (0 < w.heap.size) := Lib.hid (World.block_lt_of_cell? _ _ (hT 0 (by decide)))
  have HR0 : Hid (ReI G W (rch F G W) G.length 257 0 (F &&& W)) := Lib.hid ⟨by rw [cnt_zero]; decide, Nat.two_pow_pos 256, Nat.lt_of_le_of_lt Nat.and_le_right hW, Nat.zero_and _, rfl, fun k hk => hWn k (by rw [Nat.testBit_and, Bool.and_eq_true] at hk; exact hk.2)⟩
  have HW := Lib.hid hW
  have HWn := Lib.hid hWn
  have HT := Lib.hid hT
  have HGs := Lib.hid h
  clear h hW hWn hT
  go_enter Tryd.func61, Tryd.ntmps61
  go_upto_region 2 with fail
  rw [zeroC]
  obtain ⟨w5, hw5⟩ : ∃ w5, w5 = (((w.alloc (.cells (setC F) 41)).alloc (.cells (setC W) 41)).alloc (.cells (setC 0) 41)).alloc (.cells (setC 0) 41) := ⟨_, rfl⟩
  rw [← hw5]
  have b5 : Below w.heap.size w w5 := by
    rw [hw5]
    exact ((((Below.refl _ _).alloc (Nat.le_refl _) _).alloc (by simp) _).alloc (by simp <;> omega) _).alloc (by simp <;> omega) _
  have z5 : w5.heap.size = w.heap.size + 1 + 1 + 1 + 1 := by rw [hw5]; simp
  have s3 : SetB w5 w.heap.size F := by
    rw [hw5]
    exact (((SetB.new w F).kept ((Below.refl (w.heap.size + 1) _).alloc (by simp) _) (by omega)).kept ((Below.refl (w.heap.size + 1) _).alloc (by simp) _) (by omega)).kept ((Below.refl (w.heap.size + 1) _).alloc (by simp <;> omega) _) (by omega)
  have s5 : SetB w5 (w.heap.size + 1) W := by
    rw [hw5]
    have := SetB.new (w.alloc (.cells (setC F) 41)) W
    rw [World.size_alloc] at this
    exact (this.kept ((Below.refl (w.heap.size + 1 + 1) _).alloc (by simp) _) (by omega)).kept ((Below.refl (w.heap.size + 1 + 1) _).alloc (by simp) _) (by omega)
  have s6 : SetB w5 (w.heap.size + 1 + 1) 0 := by
    rw [hw5]
    have := SetB.new ((w.alloc (.cells (setC F) 41)).alloc (.cells (setC W) 41)) 0
    simp only [World.size_alloc] at this
    exact this.stay ((Below.refl _ _).alloc (by simp <;> omega) _)
  have s7 : SetB w5 (w.heap.size + 1 + 1 + 1) 0 := by
    rw [hw5]
    have := SetB.new (((w.alloc (.cells (setC F) 41)).alloc (.cells (setC W) 41)).alloc (.cells (setC 0) 41)) 0
    simp only [World.size_alloc] at this
    exact this
  clear hw5
  have HAN := Lib.hid (and_any F W w5)
  obtain ⟨S, hS⟩ : ∃ S, Hid (w.heap.size = S) := ⟨_, Lib.hid rfl⟩
  rw [hS.out] at z5 s3 s5 s6 s7 ⊢
  go_upto_region 3 with (first
    | (refine wpList_load_set rfl (.tmp 3) rfl S F rfl s3 ?_)
    | (refine wpList_load_set rfl (.tmp 5) rfl (S + 1) W rfl s5 ?_)
    | (go_at_call 41; refine HAN.out.mono ?_; rintro e w6 ⟨rfl, hb6⟩; have HB6 := Lib.hid hb6; clear hb6)
    | (refine wpList_lay_set rfl (.tmp 8) (.tmp 11) rfl (F &&& W) _ rfl rfl rfl ?_))
  have hput : ∀ a : Act, a.put none undef = a := fun _ => rfl
  rw [hput]
  clear hput
  obtain ⟨b8, hb8⟩ : ∃ b8, Hid (w6.heap.size = b8) := ⟨_, Lib.hid rfl⟩
  have hL8 : S + 1 + 1 + 1 < b8 := by rw [← hb8.out]; have := HB6.out.size; omega
  have ha := (Below.refl w6.heap.size w6).alloc (Nat.le_refl _) (.cells (setC (F &&& W)) 41)
  have h56 := HB6.out.trans (ha.mono HB6.out.size)
  have I5 := Lib.hid (s5.stay h56)
  have I6 := Lib.hid (s6.stay h56)
  have I7 := Lib.hid (s7.stay h56)
  have I8 := Lib.hid (SetB.new w6 (F &&& W))
  have IB : Hid (Below S w (w6.alloc (.cells (setC (F &&& W)) 41))) := Lib.hid (by rw [← hS.out]; exact b5.trans (h56.mono b5.size))
  rw [hb8.out] at I8 ⊢
  clear ha h56 s3 s5 s6 s7 HB6 HAN b5
  generalize w6.alloc (.cells (setC (F &&& W)) 41) = w7 at *
  clear hb8 z5 w5 w6
  have HL8 := Lib.hid hL8
  clear hL8
  go_loopw [] (fun wr => ∃ f all more, Hid (ReI G W (rch F G W) G.length f all more) ∧ Hid (SetB wr (S + 1 + 1 + 1) all) ∧ Hid (SetB wr b8 more) ∧ Hid (SetB wr (S + 1) W) ∧ Hid (SetB wr (S + 1 + 1) 0) ∧ Hid (Below S w wr)) (fun wr => 256 - cnt (setOf wr (S + 1 + 1 + 1)))
  case atStart => exact ⟨257, 0, F &&& W, HR0, I7, I8, I5, I6, IB⟩
  case round =>
    obtain ⟨f, all, more, HI, H7, H8, H5, H6, HB⟩ := hrel
    generalize hwr : wr = w2 at *
    clear hwr wr I5 I6 I7 I8 IB w7
    by_cases h0 : more = 0
    · subst h0
      have HV : Hid (rch F G W = all) := Lib.hid (by rw [← HI.out.r, rchN_stop])
      go_wp2_with (first
        | (refine wpList_load_set rfl (.tmp 8) rfl b8 0 rfl H8.out ?_)
        | (refine wpList_neq_zero rfl _ _ _ rfl 0 rfl rfl (Nat.two_pow_pos 256) ?_)
        | (refine wpList_load_set rfl (.tmp 7) rfl (S + 1 + 1 + 1) all rfl H7.out ?_)
        | (refine wpList_store_set rfl (.tmp 6) (.tmp 26) rfl (S + 1 + 1) 0 all rfl rfl H6.out ?_))
      refine bodyPost_ret (v := .agg (setC all)) (results_cell_row (p := 6) Tryd.results61 _ _ (S + 1 + 1) 41 _ (0, 0) _ rfl (H6.out.put all).row Tryd.underlying41 rfl (sizeSet _)) rfl ⟨by rw [HV.out], ?_⟩
      rw [hS.out]
      exact But.below HB.out (But.setRow _ _ _) (by omega) (by have h1 := H6.out.lt; omega)
    · obtain ⟨f, rfl⟩ : ∃ f', f = f' + 1 := ⟨f - 1, by have := HI.out.fu; omega⟩
      have HN := Lib.hid (HI.out.step HW.out HWn.out h0)
      have HML := Lib.hid HI.out.m
      have HOR := Lib.hid (or_any all more w2)
      have hL8 := HL8.out
      go_upto_region 5 with (first
        | (refine wpList_load_set rfl (.tmp 8) rfl b8 more rfl H8.out ?_)
        | (refine wpList_neq_some rfl _ _ _ rfl more rfl rfl HML.out h0 ?_)
        | (refine wpList_load_set rfl (.tmp 7) rfl (S + 1 + 1 + 1) all rfl H7.out ?_)
        | (go_at_call 68; refine HOR.out.mono ?_; rintro e w3 ⟨rfl, hb3⟩; have HB3 := Lib.hid hb3; clear hb3)
        | (refine wpList_store_set rfl (.tmp 7) (.tmp 17) rfl (S + 1 + 1 + 1) all (all ||| more) rfl rfl (H7.out.stay HB3.out) ?_))
      have HB4 : Hid (But (S + 1 + 1 + 1) w2 (w3.setRow (S + 1 + 1 + 1) (setC (all ||| more)))) := Lib.hid ((But.of_below HB3.out).trans (But.setRow _ _ _))
      have J7 := Lib.hid ((H7.out.stay HB3.out).put (all ||| more))
      have J8 := Lib.hid (H8.out.but HB4.out (by omega))
      have J5 := Lib.hid (H5.out.but HB4.out (by omega))
      have J6 := Lib.hid (H6.out.but HB4.out (by omega))
      have JB := Lib.hid (But.below HB.out HB4.out (by omega) (by have h1 := H6.out.lt; omega))
      clear HB4 HB3 HOR
      generalize w3.setRow (S + 1 + 1 + 1) (setC (all ||| more)) = w4 at *
      have HML2 : Hid (∀ k, more.testBit k = true → k < G.length) := Lib.hid HI.out.s
      have HLT : Hid (S + 1 + 1 + 1 < w4.heap.size ∧ b8 < w4.heap.size ∧ S + 1 < w4.heap.size) := Lib.hid ⟨J7.out.lt, J8.out.lt, J5.out.lt⟩
      have hput : ∀ a : Act, a.put none undef = a := fun _ => rfl
      rw [hput]
      clear hput
      refine region_mix [(false, 0), (false, 1), (false, 3), (false, 5), (true, 2), (true, 4), (true, 6), (true, 7)] (fun w' => Below w4.heap.size w4 w') (by kernel_rfl) (by kernel_rfl) ((Below.refl _ _).drew) ?_
      simp only [planOps, List.map_cons, List.map_nil, List.getD_cons_zero, List.getD_cons_succ, List.length_cons, List.length_nil, List.drop_succ_cons, List.drop_zero]
      refine mix_seg (seg := [_, _, _, _]) rfl ((Below.refl _ _).drew) ?_
      intro ι hι F2 hF
      have f1 := Lib.hid (fun n => J8.out.kept (hF n) HLT.out.2.1)
      have f2 := Lib.hid (fun n => J5.out.kept (hF n) HLT.out.2.2)
      have f3 := Lib.hid (fun n => J7.out.kept (hF n) HLT.out.1)
      go_big_quiet_step (fail)
      refine BigFrame.wpQuiet_want rfl (fun K hK => ?_); refine quiet_load_set _ rfl b8 more rfl (fun w' ⟨n, e⟩ => e ▸ f1.out n) ?_; refine hK _ ?_; clear hK K; simp only [Act.put, List.setIfInBounds_toArray, List.set_cons_zero, List.set_cons_succ]
      refine BigFrame.wpQuiet_want rfl (fun K hK => ?_); refine quiet_load_set _ rfl (S + 1) W rfl (fun w' ⟨n, e⟩ => e ▸ f2.out n) ?_; refine hK _ ?_; clear hK K; simp only [Act.put, List.setIfInBounds_toArray, List.set_cons_zero, List.set_cons_succ]
      refine BigFrame.wpQuiet_want rfl (fun K hK => ?_); refine quiet_load_set _ rfl (S + 1 + 1 + 1) (all ||| more) rfl (fun w' ⟨n, e⟩ => e ▸ f3.out n) ?_; refine hK _ ?_; clear hK K; simp only [Act.put, List.setIfInBounds_toArray, List.set_cons_zero, List.set_cons_succ]
      refine wpQuiet_nil ?_
      clear f1 f2 f3 hF hι F2
      have HBD : Hid (Below w4.heap.size w4 w4.drew) := Lib.hid ((Below.refl _ _).drew)
      have HTD : Hid (Tab w4.drew) := Lib.hid (HT.out.below (B := w.heap.size) ((hS.out ▸ JB.out).trans (HBD.out.mono (by have h1 := J6.out.lt; have h2 := hS.out; omega))) HG.out)
      have HBH := Lib.hid (behind_any ga G more w4.drew (HGs.out.kept ((hS.out ▸ JB.out).trans (HBD.out.mono (by have h1 := J6.out.lt; have h2 := hS.out; omega))) HGs.out.lt) HML2.out HTD.out)
      refine mix_eff (fun K hK => ?_)
      go_wp2_with (go_at_call 40; refine HBH.out.mono ?_; rintro e w8 ⟨rfl, hb8⟩; have HB8 := Lib.hid (HBD.out.trans hb8); clear hb8)
      refine mix_on hK HB8.out ?_
      clear hK K
      have HA1 := Lib.hid (and_any (bh G more) W w8)
      refine mix_eff (fun K hK => ?_)
      go_wp2_with (go_at_call 41; refine HA1.out.mono ?_; rintro e w9 ⟨rfl, hb9⟩; have HB9 := Lib.hid (HB8.out.trans (hb9.mono HB8.out.size)); clear hb9)
      refine mix_on hK HB9.out ?_
      clear hK K
      have HNT := Lib.hid (not_any (all ||| more) w9)
      refine mix_eff (fun K hK => ?_)
      go_wp2_with (go_at_call 69; refine HNT.out.mono ?_; rintro e w10 ⟨rfl, hb10⟩; have HB10 := Lib.hid (HB9.out.trans (hb10.mono HB9.out.size)); clear hb10)
      refine mix_on hK HB10.out ?_
      clear hK K
      have HA2 := Lib.hid (and_any (bh G more &&& W) (full ^^^ (all ||| more)) w10)
      refine mix_eff (fun K hK => ?_)
      go_wp2_with (go_at_call 41; refine HA2.out.mono ?_; rintro e w11 ⟨rfl, hb11⟩; have HB11 := Lib.hid (HB10.out.trans (hb11.mono HB10.out.size)); clear hb11)
      refine mix_on hK HB11.out ?_
      clear hK K
      show wpList _ _ _ _ _ _
      go_wp2_with (refine wpList_store_set rfl (.tmp 8) (.tmp 25) rfl b8 more ((bh G more &&& W) &&& (full ^^^ (all ||| more))) rfl rfl (J8.out.kept HB11.out HLT.out.2.1) ?_)
      refine NoPanic.normal ?_
      go_wp2_with fail
      have hbut := But.setRow b8 w11 (setC ((bh G more &&& W) &&& (full ^^^ (all ||| more))))
      have K7 := (J7.out.kept HB11.out HLT.out.1).but hbut (by omega)
      refine ⟨⟨f, all ||| more, (bh G more &&& W) &&& (full ^^^ (all ||| more)), Lib.hid HN.out.1, Lib.hid K7, Lib.hid ((J8.out.kept HB11.out HLT.out.2.1).put _), Lib.hid ((J5.out.kept HB11.out HLT.out.2.2).but hbut (by omega)), Lib.hid ((J6.out.kept HB11.out J6.out.lt).but hbut (by omega)), Lib.hid (But.below (JB.out.trans (HB11.out.mono (by have h1 := J6.out.lt; omega))) hbut (by omega) (by have h1 := J6.out.lt; have h2 := HB11.out.size; omega))⟩, ?_⟩
      rw [setOf_eq K7 (lt_or HI.out.a HI.out.m), setOf_eq H7.out HI.out.a]
      have h1 := HN.out.2
      have h2 := cnt_le (all ||| more)
      omega
end Nf
end Go.Proofs.YtghbgfkkdknmnaaDoor
namespace Go.Proofs.YtghbgfkkdknmnaaDoor
open Go.RowKit Sets Nf
namespace Nf
theorem own_kept {w w' : World} {base : Nat} {e : TypeId} {size : Nat} {v : Value} {n : Nat} {xs : List Value} (h : w.ownsRow base e size v n xs) (hk : ∀ g, v.ownBlock = some g → w'.heap[g]? = w.heap[g]?) : w'.ownsRow base e size v n xs := by
  obtain ⟨h1, h2⟩ := h
  refine ⟨h1, ?_⟩
  rcases h2 with h2 | ⟨g, cap, cur, h3, h4, h5, h6⟩
  · exact .inl h2
  · exact .inr ⟨g, cap, cur, h3, h4, by rw [hk g (by rw [h3]; rfl)]; exact h5, h6⟩
theorem own_slice {w : World} {base : Nat} {e : TypeId} {size : Nat} {v : Value} {n : Nat} {xs : List Value} (h : w.ownsRow base e size v n xs) : ∃ a c, v = .slice a n c ∧ (n = 0 ∨ ∃ g, a = some ⟨g, 0, none⟩ ∧ base ≤ g ∧ g < w.heap.size) := by
  rcases h.2 with ⟨h1, h2⟩ | ⟨g, cap, cur, h1, h3, h4, h2, -⟩
  · exact ⟨none, 0, by rw [h1, h2], .inl h2⟩
  · exact ⟨_, cap, h1, .inr ⟨g, rfl, h3, (Array.getElem?_eq_some_iff.1 h4).1⟩⟩
theorem own_stay {w w' : World} {base : Nat} {e : TypeId} {size : Nat} {v : Value} {n : Nat} {xs : List Value} (h : w.ownsRow base e size v n xs) (hb : Below w.heap.size w w') : w'.ownsRow base e size v n xs :=
  own_kept h fun g hg => hb.block g (h.lt g hg).2
theorem own_mono {w : World} {base base' : Nat} {e : TypeId} {size : Nat} {v : Value} {n : Nat} {xs : List Value} (h : w.ownsRow base e size v n xs) (hb : base' ≤ base) : w.ownsRow base' e size v n xs := by
  obtain ⟨h1, h2⟩ := h
  refine ⟨h1, ?_⟩
  rcases h2 with h2 | ⟨g, cap, cur, h3, h4, h5⟩
  · exact .inl h2
  · exact .inr ⟨g, cap, cur, h3, Nat.le_trans hb h4, h5⟩
/-- What an append onto v leaves of w: all but v's own block; and v' lies there, or is new. -/
structure Ap (w : World) (v : Value) (w' : World) (v' : Value) : Prop where
  size : w.heap.size ≤ w'.heap.size
  block : ∀ k, k < w.heap.size → v.ownBlock ≠ some k → w'.heap[k]? = w.heap[k]?
  own : ∀ g, v'.ownBlock = some g → v.ownBlock = some g ∨ w.heap.size ≤ g
theorem wpList_push {ops : Array Oper} {rest : List Oper} {o : Oper} {a : Act} {w : World} {Q : Exit → Act → World → Prop} (ts e : TypeId) (z : Value) (size bytes : Nat) (hu : Tryd.prog.underlying ts = some (.slice e))
    (hinfo : (Tryd.prog.info? e).map (fun i => (i.zero, i.size, i.bytes)) = some (some z, size, bytes)) (hzs : z.cells.size = size) (hsz : 0 < size) (hgd : o.guard = none) (s x : Operand)
    (ho : o.op = .call { callee := .builtin .append, args := #[s, x], argTypes := #[ts, ts] }) (B : Nat) (v : Value) (n : Nat) (xs : List Value) (hs : a.eval s = v)
    (hown : w.ownsRow B e size v n xs) (news : List Value) (cs : Array Value) (hcs : cs = news.toArray) (hl : news.length = size) (h1 : ∀ u ∈ news, u.oneCell' = true) (hx : a.eval x = .slice (some ⟨w.heap.size, 0, none⟩) 1 1) (hn : n ≤ 100000) (hb : bytes ≤ 1000) (hbase : B ≤ w.heap.size)
    (h : ∀ v' w', w'.ownsRow B e size v' (n + 1) (xs ++ news) → Below B w w' → Ap w v w' v' → wpList Tryd.prog ops Q rest (a.put o.dst v') w') :
    wpList Tryd.prog ops Q (o :: rest) a (w.alloc (.cells cs e)) := by
  subst hcs
  obtain ⟨i0, hi, hz0, hz1, hz2⟩ := info_parts hinfo
  have hmul : (n + 1) * bytes ≤ 100001 * 1000 := Nat.mul_le_mul (by omega) hb
  refine wpList_append_own_at _ hgd s x ts ho B e i0 z size bytes hu hi hz0 hz1 hz2 hzs hsz v _ _ hs (hown.alloc _) ⟨w.heap.size, 0, none⟩ 1 1 news hx (by rw [hl, Nat.one_mul]) ?_ h1 ?_ ?_ ?_ ?_
  · intro j u hj
    have e : (⟨w.heap.size, 0, none⟩ : Addr).add j = ⟨w.heap.size, 0 + j, none⟩ := by unfold Addr.add; split <;> simp_all
    rw [e, Nat.zero_add, World.cell?_alloc_new, List.getElem?_toArray]
    exact hj
  · unfold maxLen; omega
  · omega
  · simp; omega
  · intro v' w' h1 h2 _ h4
    refine h v' w' h1 (((Below.refl _ _).alloc hbase _).grown h2 (by simp; omega) (fun j hj => (hown.lt j hj).1)) ⟨?_, ?_, ?_⟩
    · have := h2.size; simp at this; omega
    · intro k hk hne
      rw [h2.block k (by simp; omega) (fun e => hne e.symm)]
      exact ((Below.refl w.heap.size w).alloc (Nat.le_refl _) _).block k hk
    · intro g hg
      rcases h4 with h4 | h4
      · exact .inl (by rw [← h4]; exact hg)
      · rw [h4] at hg
        simp at hg
        exact .inr (by omega)
def is64 (l : List Int) : List Value := l.map (Value.int .i64 ·)
theorem is64_append (l k : List Int) : is64 (l ++ k) = is64 l ++ is64 k := List.map_append
theorem is64_length (l : List Int) : (is64 l).length = l.length := List.length_map _
theorem infoInt : (Tryd.prog.info? 3).map (fun i => (i.zero, i.size, i.bytes)) = some (some (.int .i64 0), 1, 8) := by kernel_rfl
def OwnN (B : Nat) (w : World) (v : Value) (l : List Int) : Prop := w.ownsRow B 3 1 v l.length (is64 l)
theorem OwnN.nil (B : Nat) (w : World) : OwnN B w (.slice none 0 0) [] := World.ownsRow_nil _ _ _ _
theorem OwnN.nums {B : Nat} {w : World} {v : Value} {l : List Int} (h : OwnN B w v l) : ∃ a c, v = .slice a l.length c ∧ NumsIn w a l := by
  rcases h.2 with ⟨h1, h2⟩ | ⟨g, cap, cur, h1, -⟩
  · exact ⟨none, 0, by rw [h1, h2], fun i hi => by omega⟩
  · subst h1
    refine ⟨_, cap, rfl, fun i hi => ⟨g, 0, rfl, ?_⟩⟩
    rw [Nat.zero_add, World.ownsRow.cellAt h i (by omega)]
    unfold is64
    rw [List.getElem?_map, List.getElem?_eq_getElem hi, List.getD_eq_getElem?_getD, List.getElem?_eq_getElem hi]; rfl
/-- one more number -/
theorem wpList_pushN {ops : Array Oper} {rest : List Oper} {o : Oper} {a : Act} {w : World} {Q : Exit → Act → World → Prop} (hgd : o.guard = none) (s x : Operand)
    (ho : o.op = .call { callee := .builtin .append, args := #[s, x], argTypes := #[23, 23] }) (B : Nat) (v : Value) (l : List Int) (k : Int) (hs : a.eval s = v)
    (hown : OwnN B w v l) (hx : a.eval x = .slice (some ⟨w.heap.size, 0, none⟩) 1 1) (hn : l.length ≤ 100000) (hbase : B ≤ w.heap.size)
    (h : ∀ v' w', OwnN B w' v' (l ++ [k]) → Below B w w' → Ap w v w' v' → wpList Tryd.prog ops Q rest (a.put o.dst v') w') :
    wpList Tryd.prog ops Q (o :: rest) a (w.alloc (.cells #[.int .i64 k] 3)) := by
  refine wpList_push 23 3 (.int .i64 0) 1 8 Tryd.underlying23 infoInt rfl (by decide) hgd s x ho B v l.length (is64 l) hs hown [.int .i64 k] _ rfl rfl (fun u hu => by rw [List.mem_singleton.1 hu]; rfl) hx hn (by decide) hbase ?_
  intro v' w' h1 h2 h3
  refine h v' w' ?_ h2 h3
  unfold OwnN
  rw [is64_append, List.length_append]
  exact h1
/-- what is left of a list, by the numbers -/
def leftN (nums l : List Int) : List Int := (l.filter fun k => nums.getD k.toNat 0 != -1).map fun k => nums.getD k.toNat 0
theorem leftN_take (nums l : List Int) (j : Nat) (h : j < l.length) : leftN nums (l.take (j + 1)) = if nums.getD (l.getD j 0).toNat 0 = -1 then leftN nums (l.take j) else leftN nums (l.take j) ++ [nums.getD (l.getD j 0).toNat 0] := by
  unfold leftN
  rw [List.take_succ_eq_append_getElem h, List.filter_append, List.map_append, List.getD_eq_getElem?_getD (l := l), List.getElem?_eq_getElem h, List.filter_cons, Option.getD_some]
  by_cases e : nums.getD l[j].toNat 0 = -1
  · rw [if_pos e, if_neg (by rw [e]; decide)]; simp
  · rw [if_neg e, if_pos (by rw [bne_iff_ne]; exact e)]; simp
set_option maxHeartbeats 3200000 in
set_option maxRecDepth 100000 in
theorem left_any (a na : Option Addr) (cap nc : Nat) (l nums : List Int) (w : World) (h : NumsIn w a l) (hnu : NumsIn w na nums) (hl : l.length ≤ 1000) (hn : ∀ k ∈ l, 0 ≤ k ∧ k < nums.length) :
    Calls Tryd.prog 47 #[.slice a l.length cap, .slice na nums.length nc] w fun e w' => ∃ v, e = .returned v ∧ OwnN w.heap.size w' v (leftN nums l) ∧ Below w.heap.size w w' := by
  have HN := Lib.hid h
  have HU := Lib.hid hnu
  have HL := Lib.hid hl
  have HK := Lib.hid hn
  clear h hnu hl hn
  go_enter Tryd.func47, Tryd.ntmps47
  go_wp2_with fail
  go_loopw [5, 10] (fun x i wr => ∃ j : Nat, i = .int .i64 j ∧ j ≤ l.length ∧ Hid (OwnN w.heap.size wr x (leftN nums (l.take j))) ∧ Hid (Below w.heap.size w wr)) (fun _ i _ => ((l.length : Int) - intOf i).toNat)
  case atStart => exact ⟨0, rfl, Nat.zero_le _, Lib.hid (OwnN.nil _ _), Lib.hid (Below.refl _ _)⟩
  case round =>
    rename_i x0 i0
    obtain ⟨j, rfl, hj, HO, HB⟩ := hrel
    generalize hwr : wr = w2 at *
    clear hwr wr
    by_cases hlt : j < l.length
    · have hdd : decide ((j : Int) < (l.length : Int)) = true := decide_eq_true (by omega)
      have hd2 : decide (j < l.length) = true := decide_eq_true hlt
      obtain ⟨b, o, rfl, hc⟩ := (HN.out.kept HB.out) j hlt
      have HX := Lib.hid (HK.out _ (getD_mem (d := 0) hlt))
      have HT := Lib.hid (leftN_take nums l j hlt)
      have HW1 : Hid (wrap64 ((j : Int) + 1) = ((j + 1 : Nat) : Int)) := Lib.hid (by have := HL.out; unfold wrap64; omega)
      have HLL : Hid ((leftN nums (l.take j)).length ≤ 100000) := Lib.hid (by
        unfold leftN
        rw [List.length_map]
        refine Nat.le_trans (List.length_filter_le _ _) ?_
        rw [List.length_take]
        have := HL.out
        omega)
      generalize l.getD j 0 = k at *
      obtain ⟨n, rfl⟩ := Int.eq_ofNat_of_zero_le HX.out.1
      have hnl : n < nums.length := by have := HX.out; omega
      obtain ⟨b2, o2, rfl, hc2⟩ := (HU.out.kept HB.out) n hnl
      have hni : ((n : Nat) : Int) < (nums.length : Int) := by omega
      rw [show ((n : Int)).toNat = n from by omega] at HT
      generalize nums.getD n 0 = z at *
      have HJ := Lib.hid hlt
      clear hlt
      by_cases hz : z = -1
      · subst hz
        rw [if_pos rfl] at HT
        go_wp2_with fail
        go_roundw
        case rel => exact ⟨j + 1, by rw [HW1.out], HJ.out, Lib.hid (by rw [HT.out]; exact HO.out), HB⟩
        case measure => rw [HW1.out]; exact meas9 HJ.out
      · have hzb : (z != -1) = true := by rw [bne_iff_ne]; exact hz
        rw [if_neg hz] at HT
        have HSZ : Hid (w.heap.size ≤ w2.heap.size) := Lib.hid HB.out.size
        clear hz
        obtain ⟨lft, hlft⟩ : ∃ q, Hid (leftN nums (l.take j) = q) := ⟨_, Lib.hid rfl⟩
        rw [hlft.out] at HO HT HLL
        go_wp2_with (refine wpList_pushN rfl (.tmp 19) (.tmp 24) rfl w.heap.size _ lft z rfl HO.out rfl HLL.out HSZ.out ?_; intro v' w3 ho3 hb3 _; have HO3 := Lib.hid ho3; have HB3 := Lib.hid (HB.out.trans hb3); clear ho3 hb3)
        go_roundw
        case rel => exact ⟨j + 1, by rw [HW1.out], HJ.out, Lib.hid (by rw [HT.out]; exact HO3.out), HB3⟩
        case measure => rw [HW1.out]; exact meas9 HJ.out
    · have hdd : decide ((j : Int) < (l.length : Int)) = false := decide_eq_false (by omega)
      have hd2 : decide (j < l.length) = false := decide_eq_false hlt
      have HT : Hid (l.take j = l) := Lib.hid (List.take_of_length_le (by omega))
      rw [HT.out] at HO
      clear hlt
      go_wp2_with fail
      go_ret
      exact ⟨_, rfl, HO.out, HB.out⟩
end Nf
end Go.Proofs.YtghbgfkkdknmnaaDoor
namespace Go.Proofs.YtghbgfkkdknmnaaDoor
open Go.RowKit Sets Nf
namespace Nf
/-- A row of lists in the making: block A holds their slices, each in memory of its own. -/
structure TnI (w0 : World) (A n : Nat) (vs : Nat → Value) (ls : Nat → List Int) (w : World) : Prop where
  row : w.rowIs A 23 n vs
  own : ∀ j, j < n → OwnN w0.heap.size w (vs j) (ls j)
  apart : ∀ i j, i < n → j < n → i ≠ j → ∀ g, (vs i).ownBlock = some g → (vs j).ownBlock ≠ some g
  notA : ∀ j, j < n → (vs j).ownBlock ≠ some A
  low : w0.heap.size ≤ A
  below : Below w0.heap.size w0 w
theorem TnI.push {w0 w w' : World} {A n : Nat} {vs : Nat → Value} {ls ls' : Nat → List Int} (h : TnI w0 A n vs ls w) {j0 : Nat} (hj : j0 < n) {v' : Value} {k : Int}
    (ho : OwnN w0.heap.size w' v' (ls j0 ++ [k])) (hb : Below w0.heap.size w w') (ha : Ap w (vs j0) w' v') (h1 : ls' j0 = ls j0 ++ [k]) (h2 : ∀ j, j < n → j ≠ j0 → ls' j = ls j) :
    TnI w0 A n (fun j => if j = j0 then v' else vs j) ls' (w'.setCell ⟨A, j0, none⟩ v') := by
  have hA : A < w.heap.size := World.rowIs.lt h.row
  have hrow : w'.rowIs A 23 n vs := World.rowIs.of_block h.row (ha.block A hA (h.notA j0 hj))
  have hnA : v'.ownBlock ≠ some A := fun e => by
    rcases ha.own A e with h3 | h3
    · exact h.notA j0 hj h3
    · omega
  have hset : ∀ g, g ≠ A → (w'.setCell ⟨A, j0, none⟩ v').heap[g]? = w'.heap[g]? := fun g hg => Below.heap_setCell w' ⟨A, j0, none⟩ v' g hg
  refine ⟨World.rowIs.set hrow j0 v', fun j hjn => ?_, fun i j hi hjn hne g hg => ?_, fun j hjn => ?_, h.low, ?_⟩
  · by_cases e : j = j0
    · subst e
      show OwnN _ _ (if j = j then v' else vs j) _
      rw [if_pos rfl, h1]
      exact own_kept ho fun g hg => hset g (fun e => hnA (by rw [hg, e]))
    · show OwnN _ _ (if j = j0 then v' else vs j) _
      rw [if_neg e, h2 j hjn e]
      have h3 := h.own j hjn
      refine own_kept (w := w) h3 fun g hg => ?_
      rw [hset g (fun e2 => h.notA j hjn (by rw [hg, e2]))]
      exact ha.block g (h3.lt g hg).2 (fun e2 => h.apart j j0 hjn hj e g hg e2)
  · have hfresh : ∀ q, q < n → q ≠ j0 → ∀ x, (vs q).ownBlock = some x → v'.ownBlock ≠ some x := fun q hq hne x hx e => by
      rcases ha.own x e with h3 | h3
      · exact h.apart q j0 hq hj hne x hx h3
      · have := ((h.own q hq).lt x hx).2; omega
    by_cases ei : i = j0
    · subst ei
      have ej : ¬ j = i := fun e => hne e.symm
      simp only [if_true] at hg
      show (if j = i then v' else vs j).ownBlock ≠ _
      rw [if_neg ej]
      exact fun e => hfresh j hjn ej g e hg
    · simp only [if_neg ei] at hg
      show (if j = j0 then v' else vs j).ownBlock ≠ _
      by_cases ej : j = j0
      · rw [if_pos ej]; exact hfresh i hi ei g hg
      · rw [if_neg ej]; exact h.apart i j hi hjn hne g hg
  · show (if j = j0 then v' else vs j).ownBlock ≠ _
    by_cases e : j = j0
    · rw [if_pos e]; exact hnA
    · rw [if_neg e]; exact h.notA j hjn
  · exact (h.below.trans hb).setCell h.low v'
theorem TnI.congr {w0 w : World} {A n : Nat} {vs : Nat → Value} {ls ls' : Nat → List Int} (h : TnI w0 A n vs ls w) (e : ∀ j, j < n → ls' j = ls j) : TnI w0 A n vs ls' w :=
  ⟨h.row, fun j hj => by rw [e j hj]; exact h.own j hj, h.apart, h.notA, h.low, h.below⟩
theorem TnI.lists {w0 w : World} {A n : Nat} {vs : Nat → Value} {ls : Nat → List Int} (h : TnI w0 A n vs ls w) : ListsIn w (some ⟨A, 0, none⟩) ((List.range n).map ls) := by
  intro i hi
  rw [List.length_map, List.length_range] at hi
  have hg : ((List.range n).map ls).getD i [] = ls i := by rw [List.getD_eq_getElem?_getD, List.getElem?_map, List.getElem?_range hi]; rfl
  rw [hg]
  obtain ⟨a, c, e, hn⟩ := (h.own i hi).nums
  refine ⟨A, 0, a, c, rfl, ?_, hn⟩
  rw [Nat.zero_add, World.rowIs.cell h.row hi, e]
theorem infoIs : (Tryd.prog.info? 23).map (fun i => (i.zero, i.size, i.bytes)) = some (some (.slice none 0 0), 1, 24) := by kernel_rfl
theorem TnI.new (w : World) (n : Nat) : TnI w w.heap.size n (fun _ => .slice none 0 0) (fun _ => []) (w.alloc (.cells (madeCells #[.slice none 0 0] n) 23)) :=
  ⟨World.rowIs_made w _ n _, fun _ _ => OwnN.nil _ _, fun _ _ _ _ _ g hg => (by cases hg), fun _ _ h => (by cases h), Nat.le_refl _, (Below.refl _ _).alloc (Nat.le_refl _) _⟩
/-- what stands at j behind i whole lists, and p numbers of the next -/
def tnL (L : List (List Int)) (i p j : Nat) : List Int := (((List.range i).filter fun k => (L.getD k []).contains (j : Int)).map fun (k : Nat) => (k : Int)) ++ (if ((L.getD i []).take p).contains (j : Int) then [(i : Int)] else [])
theorem tnL_zero (L : List (List Int)) (j : Nat) : tnL L 0 0 j = [] := by simp [tnL]
theorem tnL_next (L : List (List Int)) (i j : Nat) : tnL L i (L.getD i []).length j = tnL L (i + 1) 0 j := by
  unfold tnL
  rw [List.take_length, List.take_zero, List.range_succ, List.filter_append, List.map_append, List.filter_cons, List.filter_nil]
  cases (L.getD i []).contains (j : Int) <;> simp
theorem tnL_all (L : List (List Int)) (j : Nat) : tnL L L.length 0 j = turnL L j := by
  unfold tnL turnL
  simp
theorem tnL_other (L : List (List Int)) (i p j : Nat) (hp : p < (L.getD i []).length) (hne : (L.getD i []).getD p 0 ≠ (j : Int)) : tnL L i (p + 1) j = tnL L i p j := by
  unfold tnL
  congr 1
  have : ((L.getD i []).take (p + 1)).contains (j : Int) = ((L.getD i []).take p).contains (j : Int) := by
    rw [List.take_succ_eq_append_getElem hp, Bool.eq_iff_iff, List.contains_iff_mem, List.contains_iff_mem, List.mem_append, List.mem_singleton]
    rw [List.getD_eq_getElem?_getD (i := p), List.getElem?_eq_getElem hp] at hne
    constructor
    · rintro (h | h)
      · exact h
      · exact absurd h.symm hne
    · exact .inl
  rw [this]
theorem tnL_here {n : Nat} (L : List (List Int)) (i p j : Nat) (hp : p < (L.getD i []).length) (he : (L.getD i []).getD p 0 = (j : Int)) (hr : rise n (L.getD i []) = true) : tnL L i (p + 1) j = tnL L i p j ++ [(i : Int)] := by
  unfold tnL
  have hpw := ((rise_iff _ _).1 hr).2
  rw [List.getD_eq_getElem?_getD (i := p), List.getElem?_eq_getElem hp] at he
  have h1 : ((L.getD i []).take (p + 1)).contains (j : Int) = true := by
    rw [List.take_succ_eq_append_getElem hp, List.contains_iff_mem, List.mem_append, List.mem_singleton]
    exact .inr he.symm
  have h2 : ((L.getD i []).take p).contains (j : Int) = false := by
    rw [Bool.eq_false_iff]
    intro h
    rw [List.contains_iff_mem] at h
    obtain ⟨q, hq, e⟩ := List.mem_iff_getElem.1 h
    rw [List.length_take] at hq
    rw [List.getElem_take] at e
    have := List.pairwise_iff_getElem.1 hpw q p (by omega) hp (by omega)
    rw [e] at this
    have h3 : (L.getD i [])[p] = (j : Int) := he
    omega
  rw [h1, h2]
  simp
set_option maxHeartbeats 6400000 in
set_option maxRecDepth 100000 in
theorem turned_any (a : Option Addr) (cap : Nat) (L : List (List Int)) (w : World) (h : ListsIn w a L) (hl : L.length ≤ 250) (hn : ∀ l ∈ L, rise L.length l = true) (hll : ∀ l ∈ L, l.length ≤ 1000) :
    Calls Tryd.prog 62 #[.slice a L.length cap] w fun e w' => ∃ A, e = .returned (.slice (some ⟨A, 0, none⟩) L.length L.length) ∧ ListsIn w' (some ⟨A, 0, none⟩) ((List.range L.length).map (turnL L)) ∧ Below w.heap.size w w' := by
  have HN := Lib.hid h
  have HL := Lib.hid hl
  have HK := Lib.hid hn
  have HKL := Lib.hid hll
  clear h hn hl hll
  go_enter Tryd.func62, Tryd.ntmps62
  obtain ⟨i0, hi0, hz0⟩ := Option.map_eq_some_iff.1 infoIs
  simp only [Prod.mk.injEq] at hz0
  have HI0 := Lib.hid hi0
  have HZ0 := Lib.hid hz0
  clear hi0 hz0
  go_upto_region 2 with (refine wpList_make_row _ rfl (.tmp 9) (.tmp 9) 24 rfl 23 i0 (.slice none 0 0) Tryd.underlying24 HI0.out HZ0.out.1 HZ0.out.2.1 rfl .i64 .i64 L.length rfl rfl (by rw [HZ0.out.2.2]; have := HL.out; omega) (by have := HL.out; omega) ?_)
  have HT := Lib.hid (TnI.new w L.length)
  generalize w.alloc (.cells (madeCells #[.slice none 0 0] L.length) 23) = w1 at *
  clear HI0 HZ0
  go_wp2_with fail
  go_loopw [13] (fun i wr => ∃ (k : Nat) (vs : Nat → Value), i = .int .i64 k ∧ k ≤ L.length ∧ Hid (TnI w w.heap.size L.length vs (tnL L k 0) wr)) (fun i _ => ((L.length : Int) - intOf i).toNat)
  case atStart => exact ⟨0, _, rfl, Nat.zero_le _, Lib.hid (HT.out.congr (fun j _ => tnL_zero L j))⟩
  case round =>
    obtain ⟨k, vs, rfl, hk, HI⟩ := hrel
    generalize hwr : wr = w2 at *
    clear hwr wr HT w1
    by_cases hlt : k < L.length
    · have hdd : decide ((k : Int) < (L.length : Int)) = true := decide_eq_true (by omega)
      have hd2 : decide (k < L.length) = true := decide_eq_true hlt
      obtain ⟨b, o, x, c, rfl, hc0, hn⟩ := HN.out k hlt
      have hc := (HI.out.below.cell (World.block_lt_of_cell? _ _ hc0)).trans hc0
      clear hc0
      have HX := Lib.hid (HK.out _ (getD_mem (d := []) hlt))
      have HXL := Lib.hid (HKL.out _ (getD_mem (d := []) hlt))
      have HW1 : Hid (wrap64 ((k : Int) + 1) = ((k + 1 : Nat) : Int)) := Lib.hid (by have := HL.out; unfold wrap64; omega)
      have HNX := Lib.hid (tnL_next L k)
      have HKK := Lib.hid hlt
      have HNl := Lib.hid hn
      clear hn
      have HO := Lib.hid (tnL_other L k)
      have HH := Lib.hid (fun p j hp he => tnL_here L k p j hp he HX.out)
      have hkL : (k : Int) < (L.length : Int) := by omega
      clear hlt
      generalize L.getD k [] = l at *
      go_wp2_with fail
      go_loopw [20] (fun i wr => ∃ (p : Nat) (vs : Nat → Value), i = .int .i64 p ∧ p ≤ l.length ∧ Hid (TnI w w.heap.size L.length vs (tnL L k p) wr)) (fun i _ => ((l.length : Int) - intOf i).toNat)
      case atStart => exact ⟨0, vs, rfl, Nat.zero_le _, HI⟩
      case round =>
        obtain ⟨p, vs2, rfl, hp, HI2⟩ := hrel
        generalize hwr : wr = w3 at *
        clear hwr wr
        by_cases hlt : p < l.length
        · have hdd : decide ((p : Int) < (l.length : Int)) = true := decide_eq_true (by omega)
          have hd2 : decide (p < l.length) = true := decide_eq_true hlt
          obtain ⟨b2, o2, rfl, hc3⟩ := (HNl.out.kept HI2.out.below) p hlt
          have HB := Lib.hid (((rise_iff _ _).1 HX.out).1 _ (getD_mem (d := 0) hlt))
          have HO2 := Lib.hid (fun j => HO.out p j hlt)
          have HH2 := Lib.hid (fun j => HH.out p j hlt)
          have HW2 : Hid (wrap64 ((p : Int) + 1) = ((p + 1 : Nat) : Int)) := Lib.hid (by have := HXL.out; unfold wrap64; omega)
          have HP := Lib.hid hlt
          clear hlt hc
          generalize l.getD p 0 = z at *
          obtain ⟨q, rfl⟩ := Int.eq_ofNat_of_zero_le HB.out.1
          have hq : q < L.length := by have := HB.out; omega
          have hqi : (q : Int) < (L.length : Int) := by omega
          have hca := World.rowIs.cell HI2.out.row hq
          have hfr := World.rowIs.frozen HI2.out.row q
          have HOW := Lib.hid (HI2.out.own q hq)
          have HQ := Lib.hid hq
          have HLN : Hid ((tnL L k p q).length ≤ 100000) := Lib.hid (by
            unfold tnL
            rw [List.length_append, List.length_map]
            have h1 := List.length_filter_le (fun k => (L.getD k []).contains (q : Int)) (List.range k)
            rw [List.length_range] at h1
            have h2 := HL.out
            have h3 : ∀ b : Bool, (if b = true then [(k : Int)] else []).length ≤ 1 := by intro b; cases b <;> simp
            have h4 := h3 (((L.getD k []).take p).contains (q : Int))
            omega)
          have HSZ : Hid (w.heap.size ≤ w3.heap.size) := Lib.hid HI2.out.below.size
          have hA : w.heap.size < w3.heap.size := World.rowIs.lt HI2.out.row
          clear hq
          obtain ⟨va, vc, hva⟩ : ∃ a c, Hid (vs2 q = .slice a (tnL L k p q).length c) := by
            obtain ⟨a, c, e, -⟩ := HOW.out.nums
            exact ⟨a, c, Lib.hid e⟩
          rw [hva.out] at hca
          go_wp2_with (refine wpList_pushN rfl (.tmp 29) (.tmp 31) rfl w.heap.size _ (tnL L k p q) k rfl (hva.out ▸ HOW.out) rfl HLN.out HSZ.out ?_; intro v' w4 ho4 hb4 ha4; obtain ⟨a9, c9, rfl, -⟩ := own_slice ho4; have HO4 := Lib.hid ho4; have HB4 := Lib.hid hb4; have HA4 := Lib.hid ha4; have hf4 := World.rowIs.frozen (World.rowIs.of_block HI2.out.row (ha4.block _ hA (by rw [← hva.out]; exact HI2.out.notA q HQ.out))) q; have hc4 := World.rowIs.cell (World.rowIs.of_block HI2.out.row (ha4.block _ hA (by rw [← hva.out]; exact HI2.out.notA q HQ.out))) HQ.out; clear ho4 hb4 ha4)
          have HTN := Lib.hid (HI2.out.push (ls' := tnL L k (p + 1)) HQ.out HO4.out HB4.out (by rw [hva.out]; exact HA4.out) (HH2.out q rfl) (fun j hj hne => HO2.out j (fun e => hne (by omega))))
          go_roundw
          case rel => exact ⟨p + 1, _, by rw [HW2.out], HP.out, Lib.hid (by have h := HTN.out; rw [List.length_append] at h; exact h)⟩
          case measure => rw [HW2.out]; exact meas9 HP.out
        · have hdd : decide ((p : Int) < (l.length : Int)) = false := decide_eq_false (by omega)
          have hd2 : decide (p < l.length) = false := decide_eq_false hlt
          have HE : Hid (p = l.length) := Lib.hid (by omega)
          rw [HE.out] at HI2
          clear hlt hc
          go_wp2_with fail
          go_roundw
          case rel => exact ⟨k + 1, vs2, by rw [HW1.out], HKK.out, Lib.hid (HI2.out.congr (fun j _ => (HNX.out j).symm))⟩
          case measure => rw [HW1.out]; exact meas9 HKK.out
    · have hdd : decide ((k : Int) < (L.length : Int)) = false := decide_eq_false (by omega)
      have hd2 : decide (k < L.length) = false := decide_eq_false hlt
      have HE : Hid (k = L.length) := Lib.hid (by omega)
      clear hlt
      go_wp2_with fail
      go_ret
      refine ⟨w.heap.size, rfl, ?_, HI.out.below⟩
      rw [HE.out] at HI
      have := (HI.out.congr (fun j _ => (tnL_all L j).symm)).lists
      exact this
end Nf
end Go.Proofs.YtghbgfkkdknmnaaDoor
