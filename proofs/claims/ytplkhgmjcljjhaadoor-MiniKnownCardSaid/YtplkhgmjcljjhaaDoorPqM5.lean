/- Several texts in one. -/
import Derived.Test.YtplkhgmjcljjhaaDoorPqM4
import Derived.Test.YtplkhgmjcljjhaaDoorPq12
import Derived.Test.YtplkhgmjcljjhaaDoorPq24
namespace Go.Proofs.YtplkhgmjcljjhaaDoor
open Go.RowKit Sets Nf Df
namespace Mi
theorem buildBl1 (t : Int) (w : World) : (Instr.build 141 #[(1, .int .i64 t)]).run Tryd.prog w = .ok (.agg #[.int .i64 0, .int .i64 t, .int .i64 0]) w := by kernel_rfl
theorem buildBk (a b c d e f : Option Addr) (m : Option Nat) (n1 n2 n3 n4 n5 n6 c1 c2 c3 c4 c5 c6 : Nat) (w : World) :
    (Instr.build 106 #[(0, .slice a n1 c1), (1, .slice b n2 c2), (2, .slice c n3 c3), (3, .slice d n4 c4), (5, .slice e n5 c5), (6, .slice f n6 c6), (7, .map m)]).run Tryd.prog w =
      .ok (.agg #[.slice a n1 c1, .slice b n2 c2, .slice c n3 c3, .slice d n4 c4, .slice none 0 0, .slice e n5 c5, .slice f n6 c6, .map m, .slice none 0 0]) w := by kernel_rfl
/-- What is made, but for the struct itself. -/
structure Tg (s n nc : Nat) (I : Nat → List St) (y : Ad) (A ib gl : Nat) (ia : Nat → Option Addr) (ic : Nat → Nat) (w : World) : Prop where
  st : w.rowIs y.s 3 n (fun _ => .int .i64 0)
  pl : w.rowIs y.p 3 n (fun _ => .int .i64 0)
  of : w.rowIs y.o 3 n (fun _ => .int .i64 0)
  li : w.ownsRow s 141 3 (.slice (some ⟨gl, 0, none⟩) 1 1) 1 (blL [(0, n, 0)])
  og : w.rowIs A 31 nc (fun _ => .slice none 0 0)
  mp : w.heap[y.m]? = some (.map #[] 0)
  ins : IntoS w ib ia ic n I
  iv : y.iv = .slice (some ⟨ib, 0, none⟩) n n
  gv : y.gv = .slice (some ⟨A, 0, none⟩) nc nc
  sp : y.s ≠ y.p ∧ y.s ≠ y.o ∧ y.p ≠ y.o
  low : s ≤ y.s ∧ s ≤ y.p ∧ s ≤ y.o ∧ s ≤ y.m ∧ s ≤ A
theorem Tg.stay {s n nc : Nat} {I : Nat → List St} {y : Ad} {A ib gl : Nat} {ia : Nat → Option Addr} {ic : Nat → Nat} {w w' : World} (h : Tg s n nc I y A ib gl ia ic w) (hb : Below w.heap.size w w') : Tg s n nc I y A ib gl ia ic w' :=
  ⟨World.rowIs.of_block h.st (hb.block _ (World.rowIs.lt h.st)), World.rowIs.of_block h.pl (hb.block _ (World.rowIs.lt h.pl)), World.rowIs.of_block h.of (hb.block _ (World.rowIs.lt h.of)), own_stay h.li hb,
    World.rowIs.of_block h.og (hb.block _ (World.rowIs.lt h.og)), (hb.block _ (Array.getElem?_eq_some_iff.1 h.mp).1).trans h.mp, h.ins.mono (fun q hq => hb.block q hq.lt), h.iv, h.gv, h.sp, h.low⟩
theorem Tg.ren {s n nc : Nat} {I : Nat → List St} {y : Ad} {A ib gl : Nat} {ia : Nat → Option Addr} {ic : Nat → Nat} {w : World} (h : Tg s n nc I y A ib gl ia ic w) (b : Nat) : Tg s n nc I ⟨b, y.s, y.p, y.o, y.m, y.iv, y.gv⟩ A ib gl ia ic w :=
  ⟨h.st, h.pl, h.of, h.li, h.og, h.mp, h.ins, h.iv, h.gv, h.sp, h.low⟩
def RT (x : Dx) (d : Dm) (nc s q : Nat) (I : Nat → List St) : Nat → Value → World → Prop
  | 0, v, _ => v = .int .i64 (d.R.length : Nat)
  | 1, v, w => ∃ g, v = .slice (some ⟨g, 0, none⟩) d.R.length d.R.length ∧ s ≤ g ∧ w.rowIs g 3 d.R.length (fun _ => .int .i64 0)
  | 2, v, _ => v = .int .i64 (d.R.length : Nat)
  | 3, v, w => ∃ g, v = .slice (some ⟨g, 0, none⟩) d.R.length d.R.length ∧ s ≤ g ∧ w.rowIs g 3 d.R.length (fun _ => .int .i64 0)
  | 4, v, _ => v = .int .i64 (d.R.length : Nat)
  | 5, v, w => ∃ g, v = .slice (some ⟨g, 0, none⟩) d.R.length d.R.length ∧ s ≤ g ∧ w.rowIs g 3 d.R.length (fun _ => .int .i64 0)
  | 6, v, _ => v = .int .i64 (d.R.length : Nat)
  | 7, v, _ => v = .agg #[.int .i64 0, .int .i64 (d.R.length : Nat), .int .i64 0]
  | 8, v, w => ∃ g, v = .slice (some ⟨g, 0, none⟩) 1 1 ∧ w.ownsRow s 141 3 v 1 (blL [(0, d.R.length, 0)])
  | 9, v, _ => v = .pointer (some ⟨q, 257, none⟩)
  | 10, v, _ => v = .slice x.a d.R.length x.ac
  | 11, v, w => ∃ ib ia ic, v = .slice (some ⟨ib, 0, none⟩) d.R.length d.R.length ∧ IntoS w ib ia ic d.R.length I
  | 12, v, _ => v = .pointer (some ⟨q, 0, none⟩)
  | 13, v, _ => v = .pointer (some ⟨q, 256, none⟩)
  | 14, v, _ => v = .int .i64 (nc : Nat)
  | 15, v, w => ∃ g, v = .slice (some ⟨g, 0, none⟩) nc nc ∧ s ≤ g ∧ w.rowIs g 31 nc (fun _ => .slice none 0 0)
  | 16, v, w => ∃ g, v = .map (some g) ∧ s ≤ g ∧ w.heap[g]? = some (.map #[] 0)
  | 17, v, w => ∃ y A ib gl ia ic, v = .agg (bkC y d.R.length (.slice (some ⟨gl, 0, none⟩) 1 1) (.slice none 0 0) (.slice none 0 0)) ∧ Tg s d.R.length nc I y A ib gl ia ic w
  | 18, v, w => ∃ y A ib gl ia ic, v = .pointer (some ⟨y.b, 0, none⟩) ∧ w.heap[y.b]? = some (.cells (bkC y d.R.length (.slice (some ⟨gl, 0, none⟩) 1 1) (.slice none 0 0) (.slice none 0 0)) 106 (0, 0)) ∧ s ≤ y.b ∧ Tg s d.R.length nc I y A ib gl ia ic w
  | _, _, _ => True
theorem RT_mono (x : Dx) (d : Dm) (nc s q : Nat) (I : Nat → List St) (i : Nat) (v : Value) (w w' : World) (hb : Below w.heap.size w w') (h : RT x d nc s q I i v w) : RT x d nc s q I i v w' := by
  match i with
  | 0 => exact h
  | 1 => obtain ⟨g, e, h0, h1⟩ := h; exact ⟨g, e, h0, World.rowIs.of_block h1 (hb.block g (World.rowIs.lt h1))⟩
  | 2 => exact h
  | 3 => obtain ⟨g, e, h0, h1⟩ := h; exact ⟨g, e, h0, World.rowIs.of_block h1 (hb.block g (World.rowIs.lt h1))⟩
  | 4 => exact h
  | 5 => obtain ⟨g, e, h0, h1⟩ := h; exact ⟨g, e, h0, World.rowIs.of_block h1 (hb.block g (World.rowIs.lt h1))⟩
  | 6 => exact h
  | 7 => exact h
  | 8 => obtain ⟨g, e, h1⟩ := h; exact ⟨g, e, own_stay h1 hb⟩
  | 9 => exact h
  | 10 => exact h
  | 11 => obtain ⟨ib, ia, ic, e, h1⟩ := h; exact ⟨ib, ia, ic, e, h1.mono (fun q hq => hb.block q hq.lt)⟩
  | 12 => exact h
  | 13 => exact h
  | 14 => exact h
  | 15 => obtain ⟨g, e, h0, h1⟩ := h; exact ⟨g, e, h0, World.rowIs.of_block h1 (hb.block g (World.rowIs.lt h1))⟩
  | 16 => obtain ⟨g, e, h0, h1⟩ := h; exact ⟨g, e, h0, (hb.block g (Array.getElem?_eq_some_iff.1 h1).1).trans h1⟩
  | 17 => obtain ⟨y, A, ib, gl, ia, ic, e, h1⟩ := h; exact ⟨y, A, ib, gl, ia, ic, e, h1.stay hb⟩
  | 18 => obtain ⟨y, A, ib, gl, ia, ic, e, h0, h2, h1⟩ := h; exact ⟨y, A, ib, gl, ia, ic, e, (hb.block _ (Array.getElem?_eq_some_iff.1 h0).1).trans h0, h2, h1.stay hb⟩
  | n + 19 => exact h
def RTd (i : Nat) : Nat := if i = 18 then 27 else i + 9
def RTm (i : Nat) : Bool := i == 1 || i == 3 || i == 5
theorem RT_lt (x : Dx) (d : Dm) (nc s q : Nat) (I : Nat → List St) (i : Nat) (v : Value) (w : World) (hm : RTm i = true) (h : RT x d nc s q I i v w) : ∀ g, v.ownBlock = some g → g < w.heap.size := by
  have hi : i = 1 ∨ i = 3 ∨ i = 5 := by simpa [RTm, or_assoc] using hm
  rcases hi with rfl | rfl | rfl <;> (obtain ⟨g, rfl, -, h1⟩ := h; intro k hk; simp [Value.ownBlock] at hk; subst hk; exact World.rowIs.lt h1)
/-- What stays, whatever the blocks do: all that was there, and the steps. -/
def FxT (s : Nat) (w : World) (q : Nat) : Prop := q < s ∨ StB w q
theorem BkAt.congrS {s0 : Nat} {Fx : Nat → Prop} {x : Ad} {n : Nat} {S P O : Nat → Nat} {L : List Bl} {T R K : List Nat} {lv tv rv : Value} {W : World} (h : BkAt s0 Fx x n S P O L T R K lv tv rv W) {S' : Nat → Nat} (e : ∀ i, i < n → S' i = S i) : BkAt s0 Fx x n S' P O L T R K lv tv rv W :=
  { h with st := World.rowIs.congr h.st (fun i hi => by rw [e i hi]) }
theorem BkAt.congrP {s0 : Nat} {Fx : Nat → Prop} {x : Ad} {n : Nat} {S P O : Nat → Nat} {L : List Bl} {T R K : List Nat} {lv tv rv : Value} {W : World} (h : BkAt s0 Fx x n S P O L T R K lv tv rv W) {P' : Nat → Nat} (e : ∀ i, i < n → P' i = P i) : BkAt s0 Fx x n S P' O L T R K lv tv rv W :=
  { h with pl := World.rowIs.congr h.pl (fun i hi => by rw [e i hi]) }
def idJ (j : Nat) : Nat → Nat := fun i => if i < j then i else 0
theorem idJ_next (j i : Nat) : idJ (j + 1) i = up (idJ j) j j i := by
  unfold idJ up
  by_cases e : i = j
  · rw [if_pos (by omega), if_pos e, e]
  · rw [if_neg e]
    show (if i < j + 1 then i else 0) = (if i < j then i else 0)
    by_cases h : i < j
    · rw [if_pos h, if_pos (by omega)]
    · rw [if_neg h, if_neg (by omega)]
theorem StB.ne {w : World} {k q : Nat} {cs : Array Value} {t : TypeId} (h : StB w k) (hq : w.heap[q]? = some (.cells cs t (0, 0))) (h1 : t ≠ 145) (h2 : t ≠ 143) : k ≠ q := by
  obtain ⟨c, h | h⟩ := h
  · exact typ_ne h hq h1.symm
  · exact typ_ne h hq h2.symm
theorem Tg.start {s n nc q : Nat} {I : Nat → List St} {y : Ad} {A ib gl : Nat} {ia : Nat → Option Addr} {ic : Nat → Nat} {w : World} (h : Tg s n nc I y A ib gl ia ic w) (hr : w.heap[y.b]? = some (.cells (bkC y n (.slice (some ⟨gl, 0, none⟩) 1 1) (.slice none 0 0) (.slice none 0 0)) 106 (0, 0))) (hb : s ≤ y.b) (hq : q ≤ s) (hqs : q < s) :
    BkAt q (FO (FxT q w) A nc (fun _ => .slice none 0 0)) y n (fun _ => 0) (fun _ => 0) (fun _ => 0) [(0, n, 0)] [] [] [] (.slice (some ⟨gl, 0, none⟩) 1 1) (.slice none 0 0) (.slice none 0 0) w ∧ OrI q (FxT q w) A nc (fun _ => .slice none 0 0) (fun _ => []) w := by
  obtain ⟨l1, l2, l3, l4, l5⟩ := h.low
  obtain ⟨c1, h1⟩ := row_typ h.st
  obtain ⟨c2, h2⟩ := row_typ h.pl
  obtain ⟨c3, h3⟩ := row_typ h.of
  obtain ⟨c4, h4⟩ := own_typ h.li (q := gl) rfl
  obtain ⟨c5, h5⟩ := row_typ h.og
  have hgl := (h.li.lt gl rfl).1
  have hlt : ∀ {k c t}, w.heap[k]? = some (.cells c t (0, 0)) → k < w.heap.size := fun hk => (Array.getElem?_eq_some_iff.1 hk).1
  have key : ∀ k, FxT q w k → k < w.heap.size ∧ (k ≠ y.b ∧ k ≠ y.s ∧ k ≠ y.p ∧ k ≠ y.o ∧ k ≠ y.m) ∧ k ≠ gl ∧ k ≠ A := fun k hk => by
    rcases hk with hk | hk
    · have := hlt h1
      exact ⟨by omega, ⟨by omega, by omega, by omega, by omega, by omega⟩, by omega, by omega⟩
    · refine ⟨hk.lt, ⟨hk.ne hr (by decide) (by decide), hk.ne h1 (by decide) (by decide), hk.ne h2 (by decide) (by decide), hk.ne h3 (by decide) (by decide), ?_⟩, hk.ne h4 (by decide) (by decide), hk.ne h5 (by decide) (by decide)⟩
      obtain ⟨c, hk | hk⟩ := hk
      · exact map_ne hk h.mp
      · exact map_ne hk h.mp
  refine ⟨⟨hr, h.st, h.pl, h.of, own_mono h.li hq, OwnN.nil _ _, OwnN.nil _ _, ⟨#[], 0, h.mp, rfl, fun e he => (by cases he)⟩, h.sp, ⟨fun e => (by cases e), fun e => (by cases e), fun e => (by cases e), fun g hg => (by cases hg)⟩, ⟨fun e => (by cases e), fun e => (by cases e), fun e => (by cases e)⟩, fun k hk => ?_, ⟨by omega, by omega, by omega, by omega, by omega⟩⟩,
    ⟨h.og, fun c _ => OwnN.nil _ _, fun i j _ _ _ g hg => (by cases hg), fun j _ e => (by cases e), by omega, fun k hk hf => ?_⟩⟩
  · rcases hk with hk | rfl | ⟨c, _, hk⟩
    · obtain ⟨a, b, c, _⟩ := key k hk
      exact ⟨a, b, fun e => c (by simp [Value.ownBlock] at e; exact e.symm), fun e => (by cases e), fun e => (by cases e)⟩
    · refine ⟨hlt h5, ⟨typ_ne h5 hr (by decide), typ_ne h5 h1 (by decide), typ_ne h5 h2 (by decide), typ_ne h5 h3 (by decide), map_ne h5 h.mp⟩, fun e => ?_, fun e => (by cases e), fun e => (by cases e)⟩
      simp [Value.ownBlock] at e
      exact typ_ne h5 h4 (by decide) e.symm
    · cases hk
  · rcases hf with rfl | ⟨c, _, hf⟩
    · exact (key _ hk).2.2.2 rfl
    · cases hf
set_option maxHeartbeats 12800000 in
set_option maxRecDepth 100000 in
theorem together_any (x : Dx) (d : Dm) (nc : Nat) (w : World) (h : DAt w x d) (hr : RRt d.R nc) (hdn : d.n = (nc : Int)) (hn : d.R.length ≤ 90000) (hnc : nc ≤ 256) (hmn : d.R.length * nc ≤ 100000) :
    Calls Tryd.prog 53 #[.agg (dvC x d)] w fun e w' => ∃ y A ib gl ia ic Fx, e = .returned (.pointer (some ⟨y.b, 0, none⟩)) ∧
      BkAt w.heap.size (FO Fx A nc (fun _ => .slice none 0 0)) y d.R.length (fun i => i) (fun i => i) (fun _ => 0) [(0, d.R.length, 0)] [] [] [] (.slice (some ⟨gl, 0, none⟩) 1 1) (.slice none 0 0) (.slice none 0 0) w' ∧
      OrI w.heap.size Fx A nc (fun _ => .slice none 0 0) (fun _ => []) w' ∧ y.gv = .slice (some ⟨A, 0, none⟩) nc nc ∧ y.iv = .slice (some ⟨ib, 0, none⟩) d.R.length d.R.length ∧ (∀ W, Mv w.heap.size Fx w' W → IntoIn W ib ia ic d.R.length (gT (goR d.R) (eL nc d.R.length 0))) ∧ (∀ k, k < w.heap.size → Fx k) ∧ Below w.heap.size w w' := by
  have HL0 := Lib.hid h.nx
  have HRR := Lib.hid hr
  have HDN := Lib.hid hdn
  have HN := Lib.hid hn
  have HNC := Lib.hid hnc
  have HMN := Lib.hid hmn
  clear h hr hdn hn hnc hmn
  obtain ⟨i0, hi0, hz0⟩ := Option.map_eq_some_iff.1 infoInt
  simp only [Prod.mk.injEq] at hz0
  have HI0 := Lib.hid hi0
  have HZ0 := Lib.hid hz0
  obtain ⟨i1, hi1, hz1⟩ := Option.map_eq_some_iff.1 infoIs
  simp only [Prod.mk.injEq] at hz1
  have HI1 := Lib.hid hi1
  have HZ1 := Lib.hid hz1
  clear hi0 hz0 hi1 hz1
  go_enter Tryd.func53, Tryd.ntmps53
  go_upto_region 1 with fail
  have HX := Lib.hid (BoxD.new w x d)
  have HB1 := Lib.hid ((Below.refl w.heap.size w).alloc (Nat.le_refl _) (.cells (dvC x d) 28))
  have HS : Hid (w.heap.size + 1 ≤ (w.alloc (.cells (dvC x d) 28)).heap.size) := Lib.hid (by simp)
  obtain ⟨q, hq⟩ : ∃ q, Hid (w.heap.size = q) := ⟨_, Lib.hid rfl⟩
  generalize w.alloc (.cells (dvC x d) 28) = w1 at *
  have HL := Lib.hid (HL0.out.kept HB1.out)
  rw [hq.out] at HX HB1 HS ⊢
  have c257 := HX.out.c257
  go_upto_region 2 with fail
  clear c257
  obtain ⟨s, hs⟩ : ∃ s, Hid (q + 1 = s) := ⟨_, Lib.hid rfl⟩
  rw [hs.out] at HS
  generalize hII : gT (goR d.R) (eL nc d.R.length 0) = I at *
  have HII := Lib.hid hII
  clear hII
  refine Rinv.region_inv2' (RT x d nc s q I) RTm 19 RTd (by kernel_rfl) (by kernel_rfl) ?_ (RT_lt x d nc s q I) (RT_mono x d nc s q I) ?_ ?_
  · intro j hj
    have : j = 0 ∨ j = 1 ∨ j = 2 ∨ j = 3 ∨ j = 4 ∨ j = 5 ∨ j = 6 ∨ j = 7 ∨ j = 8 ∨ j = 9 ∨ j = 10 ∨ j = 11 ∨ j = 12 ∨ j = 13 ∨ j = 14 ∨ j = 15 ∨ j = 16 ∨ j = 17 ∨ j = 18 := by omega
    rcases this with rfl | rfl | rfl | rfl | rfl | rfl | rfl | rfl | rfl | rfl | rfl | rfl | rfl | rfl | rfl | rfl | rfl | rfl | rfl <;> rfl
  · intro i hi X w' hB hR hD K hK
    have HK := Lib.hid hK
    have HBW := Lib.hid hB
    clear hK hB
    have hi' : i = 0 ∨ i = 1 ∨ i = 2 ∨ i = 3 ∨ i = 4 ∨ i = 5 ∨ i = 6 ∨ i = 7 ∨ i = 8 ∨ i = 9 ∨ i = 10 ∨ i = 11 ∨ i = 12 ∨ i = 13 ∨ i = 14 ∨ i = 15 ∨ i = 16 ∨ i = 17 ∨ i = 18 := by omega
    rcases hi' with rfl | rfl | rfl | rfl | rfl | rfl | rfl | rfl | rfl | rfl | rfl | rfl | rfl | rfl | rfl | rfl | rfl | rfl | rfl
    · simp only [List.getD_cons_zero]
      clear hR hD
      simp only [Rinv.putAll, RTd, Act.put, Nat.reduceEqDiff, Nat.reduceAdd, if_true, if_false, List.setIfInBounds_toArray, List.set_cons_zero, List.set_cons_succ]
      go_wp2_with fail
      exact HK.out _ _ (.int .i64 (d.R.length : Nat)) (by simp only [Rinv.putAll, RTd, Act.put, Nat.reduceEqDiff, Nat.reduceAdd, if_true, if_false, List.setIfInBounds_toArray, List.set_cons_zero, List.set_cons_succ]) (Below.refl _ _) (rfl) (fun h => absurd h (by decide))
    · simp only [List.getD_cons_zero, List.getD_cons_succ]
      have hr0 : RT x d nc s q I 0 (X 0) w' := hR 0 (by decide) (by unfold Rinv.waits; kernel_rfl)
      have e0 : X 0 = _ := hr0
      clear hr0
      clear hR hD
      have HSL : Hid (s ≤ w'.heap.size) := Lib.hid (Nat.le_trans HS.out HBW.out.size)
      simp only [Rinv.putAll, RTd, Act.put, Nat.reduceEqDiff, Nat.reduceAdd, if_true, if_false, List.setIfInBounds_toArray, List.set_cons_zero, List.set_cons_succ, e0]
      go_wp2_with (refine wpList_make_row _ rfl (.tmp 9) (.tmp 9) 31 rfl 3 i0 (.int .i64 0) Tryd.underlying31 HI0.out HZ0.out.1 HZ0.out.2.1 rfl .i64 .i64 d.R.length rfl rfl (by rw [HZ0.out.2.2]; have := HN.out; omega) (by have := HN.out; omega) ?_)
      exact HK.out _ _ (.slice (some ⟨w'.heap.size, 0, none⟩) d.R.length d.R.length) (by simp only [Rinv.putAll, RTd, Act.put, Nat.reduceEqDiff, Nat.reduceAdd, if_true, if_false, List.setIfInBounds_toArray, List.set_cons_zero, List.set_cons_succ, e0]) ((Below.refl _ _).alloc (Nat.le_refl _) _) (⟨_, rfl, HSL.out, World.rowIs_made w' _ _ _⟩) (fun _ g hg => by simp [Value.ownBlock] at hg; omega)
    · simp only [List.getD_cons_zero, List.getD_cons_succ]
      clear hR hD
      simp only [Rinv.putAll, RTd, Act.put, Nat.reduceEqDiff, Nat.reduceAdd, if_true, if_false, List.setIfInBounds_toArray, List.set_cons_zero, List.set_cons_succ]
      go_wp2_with fail
      exact HK.out _ _ (.int .i64 (d.R.length : Nat)) (by simp only [Rinv.putAll, RTd, Act.put, Nat.reduceEqDiff, Nat.reduceAdd, if_true, if_false, List.setIfInBounds_toArray, List.set_cons_zero, List.set_cons_succ]) (Below.refl _ _) (rfl) (fun h => absurd h (by decide))
    · simp only [List.getD_cons_zero, List.getD_cons_succ]
      have hr2 : RT x d nc s q I 2 (X 2) w' := hR 2 (by decide) (by unfold Rinv.waits; kernel_rfl)
      have e2 : X 2 = _ := hr2
      clear hr2
      clear hR hD
      have HSL : Hid (s ≤ w'.heap.size) := Lib.hid (Nat.le_trans HS.out HBW.out.size)
      simp only [Rinv.putAll, RTd, Act.put, Nat.reduceEqDiff, Nat.reduceAdd, if_true, if_false, List.setIfInBounds_toArray, List.set_cons_zero, List.set_cons_succ, e2]
      go_wp2_with (refine wpList_make_row _ rfl (.tmp 11) (.tmp 11) 31 rfl 3 i0 (.int .i64 0) Tryd.underlying31 HI0.out HZ0.out.1 HZ0.out.2.1 rfl .i64 .i64 d.R.length rfl rfl (by rw [HZ0.out.2.2]; have := HN.out; omega) (by have := HN.out; omega) ?_)
      exact HK.out _ _ (.slice (some ⟨w'.heap.size, 0, none⟩) d.R.length d.R.length) (by simp only [Rinv.putAll, RTd, Act.put, Nat.reduceEqDiff, Nat.reduceAdd, if_true, if_false, List.setIfInBounds_toArray, List.set_cons_zero, List.set_cons_succ, e2]) ((Below.refl _ _).alloc (Nat.le_refl _) _) (⟨_, rfl, HSL.out, World.rowIs_made w' _ _ _⟩) (fun _ g hg => by simp [Value.ownBlock] at hg; omega)
    · simp only [List.getD_cons_zero, List.getD_cons_succ]
      clear hR hD
      simp only [Rinv.putAll, RTd, Act.put, Nat.reduceEqDiff, Nat.reduceAdd, if_true, if_false, List.setIfInBounds_toArray, List.set_cons_zero, List.set_cons_succ]
      go_wp2_with fail
      exact HK.out _ _ (.int .i64 (d.R.length : Nat)) (by simp only [Rinv.putAll, RTd, Act.put, Nat.reduceEqDiff, Nat.reduceAdd, if_true, if_false, List.setIfInBounds_toArray, List.set_cons_zero, List.set_cons_succ]) (Below.refl _ _) (rfl) (fun h => absurd h (by decide))
    · simp only [List.getD_cons_zero, List.getD_cons_succ]
      have hr4 : RT x d nc s q I 4 (X 4) w' := hR 4 (by decide) (by unfold Rinv.waits; kernel_rfl)
      have e4 : X 4 = _ := hr4
      clear hr4
      clear hR hD
      have HSL : Hid (s ≤ w'.heap.size) := Lib.hid (Nat.le_trans HS.out HBW.out.size)
      simp only [Rinv.putAll, RTd, Act.put, Nat.reduceEqDiff, Nat.reduceAdd, if_true, if_false, List.setIfInBounds_toArray, List.set_cons_zero, List.set_cons_succ, e4]
      go_wp2_with (refine wpList_make_row _ rfl (.tmp 13) (.tmp 13) 31 rfl 3 i0 (.int .i64 0) Tryd.underlying31 HI0.out HZ0.out.1 HZ0.out.2.1 rfl .i64 .i64 d.R.length rfl rfl (by rw [HZ0.out.2.2]; have := HN.out; omega) (by have := HN.out; omega) ?_)
      exact HK.out _ _ (.slice (some ⟨w'.heap.size, 0, none⟩) d.R.length d.R.length) (by simp only [Rinv.putAll, RTd, Act.put, Nat.reduceEqDiff, Nat.reduceAdd, if_true, if_false, List.setIfInBounds_toArray, List.set_cons_zero, List.set_cons_succ, e4]) ((Below.refl _ _).alloc (Nat.le_refl _) _) (⟨_, rfl, HSL.out, World.rowIs_made w' _ _ _⟩) (fun _ g hg => by simp [Value.ownBlock] at hg; omega)
    · simp only [List.getD_cons_zero, List.getD_cons_succ]
      clear hR hD
      simp only [Rinv.putAll, RTd, Act.put, Nat.reduceEqDiff, Nat.reduceAdd, if_true, if_false, List.setIfInBounds_toArray, List.set_cons_zero, List.set_cons_succ]
      go_wp2_with fail
      exact HK.out _ _ (.int .i64 (d.R.length : Nat)) (by simp only [Rinv.putAll, RTd, Act.put, Nat.reduceEqDiff, Nat.reduceAdd, if_true, if_false, List.setIfInBounds_toArray, List.set_cons_zero, List.set_cons_succ]) (Below.refl _ _) (rfl) (fun h => absurd h (by decide))
    · simp only [List.getD_cons_zero, List.getD_cons_succ]
      have hr6 : RT x d nc s q I 6 (X 6) w' := hR 6 (by decide) (by unfold Rinv.waits; kernel_rfl)
      have e6 : X 6 = _ := hr6
      clear hr6
      clear hR hD
      have hbb := buildBl1
      simp only [Rinv.putAll, RTd, Act.put, Nat.reduceEqDiff, Nat.reduceAdd, if_true, if_false, List.setIfInBounds_toArray, List.set_cons_zero, List.set_cons_succ, e6]
      go_wp2_with fail
      exact HK.out _ _ (.agg #[.int .i64 0, .int .i64 (d.R.length : Nat), .int .i64 0]) (by simp only [Rinv.putAll, RTd, Act.put, Nat.reduceEqDiff, Nat.reduceAdd, if_true, if_false, List.setIfInBounds_toArray, List.set_cons_zero, List.set_cons_succ, e6]) (Below.refl _ _) (rfl) (fun h => absurd h (by decide))
    · simp only [List.getD_cons_zero, List.getD_cons_succ]
      have hr7 : RT x d nc s q I 7 (X 7) w' := hR 7 (by decide) (by unfold Rinv.waits; kernel_rfl)
      have e7 : X 7 = _ := hr7
      clear hr7
      clear hR hD
      have HSL : Hid (s ≤ w'.heap.size) := Lib.hid (Nat.le_trans HS.out HBW.out.size)
      simp only [Rinv.putAll, RTd, Act.put, Nat.reduceEqDiff, Nat.reduceAdd, if_true, if_false, List.setIfInBounds_toArray, List.set_cons_zero, List.set_cons_succ, e7]
      go_wp2_with fail
      exact HK.out _ _ (.slice (some ⟨w'.heap.size, 0, none⟩) 1 1) (by simp only [Rinv.putAll, RTd, Act.put, Nat.reduceEqDiff, Nat.reduceAdd, if_true, if_false, List.setIfInBounds_toArray, List.set_cons_zero, List.set_cons_succ, e7]) ((Below.refl _ _).alloc (Nat.le_refl _) _) (⟨_, rfl, World.ownsRow_lit w' #[.int .i64 0, .int .i64 (d.R.length : Nat), .int .i64 0] 1 HSL.out (by unfold maxLen; omega) rfl⟩) (fun h => absurd h (by decide))
    · simp only [List.getD_cons_zero, List.getD_cons_succ]
      clear hR hD
      simp only [Rinv.putAll, RTd, Act.put, Nat.reduceEqDiff, Nat.reduceAdd, if_true, if_false, List.setIfInBounds_toArray, List.set_cons_zero, List.set_cons_succ]
      go_wp2_with fail
      exact HK.out _ _ (.pointer (some ⟨q, 257, none⟩)) (by simp only [Rinv.putAll, RTd, Act.put, Nat.reduceEqDiff, Nat.reduceAdd, if_true, if_false, List.setIfInBounds_toArray, List.set_cons_zero, List.set_cons_succ]) (Below.refl _ _) (rfl) (fun h => absurd h (by decide))
    · simp only [List.getD_cons_zero, List.getD_cons_succ]
      have hr9 : RT x d nc s q I 9 (X 9) w' := hR 9 (by decide) (by unfold Rinv.waits; kernel_rfl)
      have e9 : X 9 = _ := hr9
      clear hr9
      clear hR hD
      have c257 := (HX.out.kept HBW.out HX.out.lt).c257
      simp only [Rinv.putAll, RTd, Act.put, Nat.reduceEqDiff, Nat.reduceAdd, if_true, if_false, List.setIfInBounds_toArray, List.set_cons_zero, List.set_cons_succ, e9]
      go_wp2_with fail
      exact HK.out _ _ (.slice x.a d.R.length x.ac) (by simp only [Rinv.putAll, RTd, Act.put, Nat.reduceEqDiff, Nat.reduceAdd, if_true, if_false, List.setIfInBounds_toArray, List.set_cons_zero, List.set_cons_succ, e9]) (Below.refl _ _) (rfl) (fun h => absurd h (by decide))
    · simp only [List.getD_cons_zero, List.getD_cons_succ]
      have hr10 : RT x d nc s q I 10 (X 10) w' := hR 10 (by decide) (by unfold Rinv.waits; kernel_rfl)
      have e10 : X 10 = _ := hr10
      clear hr10
      clear hR hD
      have HIA := Lib.hid (into_any x.a x.ac nc d.R w' (HL.out.kept HBW.out) HRR.out (by have := HN.out; omega) HNC.out HMN.out)
      simp only [Rinv.putAll, RTd, Act.put, Nat.reduceEqDiff, Nat.reduceAdd, if_true, if_false, List.setIfInBounds_toArray, List.set_cons_zero, List.set_cons_succ, e10]
      go_wp2_with (go_at_call 73; refine HIA.out.mono ?_; rintro e w4 ⟨ib, ia, ic, rfl, -, h2, -, hb⟩; have HI4 := Lib.hid h2; clear h2)
      exact HK.out _ _ (.slice (some ⟨ib, 0, none⟩) d.R.length d.R.length) (by simp only [Rinv.putAll, RTd, Act.put, Nat.reduceEqDiff, Nat.reduceAdd, if_true, if_false, List.setIfInBounds_toArray, List.set_cons_zero, List.set_cons_succ, e10]) (hb) (⟨ib, ia, ic, rfl, HII.out ▸ HI4.out⟩) (fun h => absurd h (by decide))
    · simp only [List.getD_cons_zero, List.getD_cons_succ]
      clear hR hD
      simp only [Rinv.putAll, RTd, Act.put, Nat.reduceEqDiff, Nat.reduceAdd, if_true, if_false, List.setIfInBounds_toArray, List.set_cons_zero, List.set_cons_succ]
      go_wp2_with fail
      exact HK.out _ _ (.pointer (some ⟨q, 0, none⟩)) (by simp only [Rinv.putAll, RTd, Act.put, Nat.reduceEqDiff, Nat.reduceAdd, if_true, if_false, List.setIfInBounds_toArray, List.set_cons_zero, List.set_cons_succ]) (Below.refl _ _) (rfl) (fun h => absurd h (by decide))
    · simp only [List.getD_cons_zero, List.getD_cons_succ]
      have hr12 : RT x d nc s q I 12 (X 12) w' := hR 12 (by decide) (by unfold Rinv.waits; kernel_rfl)
      have e12 : X 12 = _ := hr12
      clear hr12
      clear hR hD
      simp only [Rinv.putAll, RTd, Act.put, Nat.reduceEqDiff, Nat.reduceAdd, if_true, if_false, List.setIfInBounds_toArray, List.set_cons_zero, List.set_cons_succ, e12]
      go_wp2_with fail
      exact HK.out _ _ (.pointer (some ⟨q, 256, none⟩)) (by simp only [Rinv.putAll, RTd, Act.put, Nat.reduceEqDiff, Nat.reduceAdd, if_true, if_false, List.setIfInBounds_toArray, List.set_cons_zero, List.set_cons_succ, e12]) (Below.refl _ _) (rfl) (fun h => absurd h (by decide))
    · simp only [List.getD_cons_zero, List.getD_cons_succ]
      have hr13 : RT x d nc s q I 13 (X 13) w' := hR 13 (by decide) (by unfold Rinv.waits; kernel_rfl)
      have e13 : X 13 = _ := hr13
      clear hr13
      clear hR hD
      have c256 := (HX.out.kept HBW.out HX.out.lt).c256
      rw [HDN.out] at c256
      simp only [Rinv.putAll, RTd, Act.put, Nat.reduceEqDiff, Nat.reduceAdd, if_true, if_false, List.setIfInBounds_toArray, List.set_cons_zero, List.set_cons_succ, e13]
      go_wp2_with fail
      exact HK.out _ _ (.int .i64 (nc : Nat)) (by simp only [Rinv.putAll, RTd, Act.put, Nat.reduceEqDiff, Nat.reduceAdd, if_true, if_false, List.setIfInBounds_toArray, List.set_cons_zero, List.set_cons_succ, e13]) (Below.refl _ _) (rfl) (fun h => absurd h (by decide))
    · simp only [List.getD_cons_zero, List.getD_cons_succ]
      have hr14 : RT x d nc s q I 14 (X 14) w' := hR 14 (by decide) (by unfold Rinv.waits; kernel_rfl)
      have e14 : X 14 = _ := hr14
      clear hr14
      clear hR hD
      have HSL : Hid (s ≤ w'.heap.size) := Lib.hid (Nat.le_trans HS.out HBW.out.size)
      simp only [Rinv.putAll, RTd, Act.put, Nat.reduceEqDiff, Nat.reduceAdd, if_true, if_false, List.setIfInBounds_toArray, List.set_cons_zero, List.set_cons_succ, e14]
      go_wp2_with (refine wpList_make_row _ rfl (.tmp 23) (.tmp 23) 25 rfl 31 i1 (.slice none 0 0) Tryd.underlying25 HI1.out HZ1.out.1 HZ1.out.2.1 rfl .i64 .i64 nc rfl rfl (by rw [HZ1.out.2.2]; have := HNC.out; omega) (by have := HNC.out; omega) ?_)
      exact HK.out _ _ (.slice (some ⟨w'.heap.size, 0, none⟩) nc nc) (by simp only [Rinv.putAll, RTd, Act.put, Nat.reduceEqDiff, Nat.reduceAdd, if_true, if_false, List.setIfInBounds_toArray, List.set_cons_zero, List.set_cons_succ, e14]) ((Below.refl _ _).alloc (Nat.le_refl _) _) (⟨_, rfl, HSL.out, World.rowIs_made w' _ _ _⟩) (fun h => absurd h (by decide))
    · simp only [List.getD_cons_zero, List.getD_cons_succ]
      clear hR hD
      have hmm := @run_makeMap Tryd.prog
      have HSL : Hid (s ≤ w'.heap.size) := Lib.hid (Nat.le_trans HS.out HBW.out.size)
      simp only [Rinv.putAll, RTd, Act.put, Nat.reduceEqDiff, Nat.reduceAdd, if_true, if_false, List.setIfInBounds_toArray, List.set_cons_zero, List.set_cons_succ]
      go_wp2_with fail
      exact HK.out _ _ (.map (some w'.heap.size)) (by simp only [Rinv.putAll, RTd, Act.put, Nat.reduceEqDiff, Nat.reduceAdd, if_true, if_false, List.setIfInBounds_toArray, List.set_cons_zero, List.set_cons_succ]) ((Below.refl _ _).alloc (Nat.le_refl _) _) (⟨_, rfl, HSL.out, heap_alloc_new w' _⟩) (fun h => absurd h (by decide))
    · simp only [List.getD_cons_zero, List.getD_cons_succ]
      have hr1 : RT x d nc s q I 1 (X 1) w' := hR 1 (by decide) (by unfold Rinv.waits; kernel_rfl)
      obtain ⟨g1, e1, l1, h1⟩ := hr1
      have hr3 : RT x d nc s q I 3 (X 3) w' := hR 3 (by decide) (by unfold Rinv.waits; kernel_rfl)
      obtain ⟨g3, e3, l3, h3⟩ := hr3
      have hr5 : RT x d nc s q I 5 (X 5) w' := hR 5 (by decide) (by unfold Rinv.waits; kernel_rfl)
      obtain ⟨g5, e5, l5, h5⟩ := hr5
      have hr8 : RT x d nc s q I 8 (X 8) w' := hR 8 (by decide) (by unfold Rinv.waits; kernel_rfl)
      obtain ⟨g8, e8, h8⟩ := hr8
      rw [e8] at h8
      have hr11 : RT x d nc s q I 11 (X 11) w' := hR 11 (by decide) (by unfold Rinv.waits; kernel_rfl)
      obtain ⟨ib, ia, ic, e11, h11⟩ := hr11
      have hr15 : RT x d nc s q I 15 (X 15) w' := hR 15 (by decide) (by unfold Rinv.waits; kernel_rfl)
      obtain ⟨g15, e15, l15, h15⟩ := hr15
      have hr16 : RT x d nc s q I 16 (X 16) w' := hR 16 (by decide) (by unfold Rinv.waits; kernel_rfl)
      obtain ⟨g16, e16, l16, h16⟩ := hr16
      have hd13 := hD 1 3 (by decide) (by decide) (by decide) (by rfl) (by rfl) (by unfold Rinv.waits; kernel_rfl) (by unfold Rinv.waits; kernel_rfl)
      have hd15 := hD 1 5 (by decide) (by decide) (by decide) (by rfl) (by rfl) (by unfold Rinv.waits; kernel_rfl) (by unfold Rinv.waits; kernel_rfl)
      have hd35 := hD 3 5 (by decide) (by decide) (by decide) (by rfl) (by rfl) (by unfold Rinv.waits; kernel_rfl) (by unfold Rinv.waits; kernel_rfl)
      clear hR hD
      have HTG : Hid (Tg s d.R.length nc I ⟨0, g1, g3, g5, g16, .slice (some ⟨ib, 0, none⟩) d.R.length d.R.length, .slice (some ⟨g15, 0, none⟩) nc nc⟩ g15 ib g8 ia ic w') := Lib.hid ⟨h1, h3, h5, h8, h15, h16, h11, rfl, rfl, ⟨fun e : g1 = g3 => hd13 g1 (by rw [e1]; rfl) (by rw [e3, e]; rfl), fun e : g1 = g5 => hd15 g1 (by rw [e1]; rfl) (by rw [e5, e]; rfl), fun e : g3 = g5 => hd35 g3 (by rw [e3]; rfl) (by rw [e5, e]; rfl)⟩, ⟨l1, l3, l5, l16, l15⟩⟩
      clear h1 h3 h5 h8 h11 h15 h16 l1 l3 l5 l15 l16 hd13 hd15 hd35
      have hbk := buildBk
      simp only [Rinv.putAll, RTd, Act.put, Nat.reduceEqDiff, Nat.reduceAdd, if_true, if_false, List.setIfInBounds_toArray, List.set_cons_zero, List.set_cons_succ, e1, e3, e5, e8, e11, e15, e16]
      go_wp2_with fail
      exact HK.out _ _ (.agg (bkC ⟨0, g1, g3, g5, g16, .slice (some ⟨ib, 0, none⟩) d.R.length d.R.length, .slice (some ⟨g15, 0, none⟩) nc nc⟩ d.R.length (.slice (some ⟨g8, 0, none⟩) 1 1) (.slice none 0 0) (.slice none 0 0))) (by simp only [Rinv.putAll, RTd, Act.put, Nat.reduceEqDiff, Nat.reduceAdd, if_true, if_false, List.setIfInBounds_toArray, List.set_cons_zero, List.set_cons_succ, e1, e3, e5, e8, e11, e15, e16, bkC]) (Below.refl _ _) (⟨_, _, _, _, _, _, rfl, HTG.out⟩) (fun h => absurd h (by decide))
    · simp only [List.getD_cons_zero, List.getD_cons_succ]
      have hr17 : RT x d nc s q I 17 (X 17) w' := hR 17 (by decide) (by unfold Rinv.waits; kernel_rfl)
      obtain ⟨y, A, ib, gl, ia, ic, e17, h17⟩ := hr17
      have HT := Lib.hid h17
      clear h17
      clear hR hD
      have HSL : Hid (s ≤ w'.heap.size) := Lib.hid (Nat.le_trans HS.out HBW.out.size)
      simp only [Rinv.putAll, RTd, Act.put, Nat.reduceEqDiff, Nat.reduceAdd, if_true, if_false, List.setIfInBounds_toArray, List.set_cons_zero, List.set_cons_succ, e17]
      go_wp2_with fail
      exact HK.out _ _ (.pointer (some ⟨w'.heap.size, 0, none⟩)) (by simp only [Rinv.putAll, RTd, Act.put, Nat.reduceEqDiff, Nat.reduceAdd, if_true, if_false, List.setIfInBounds_toArray, List.set_cons_zero, List.set_cons_succ, e17]) ((Below.refl _ _).alloc (Nat.le_refl _) _) (⟨⟨w'.heap.size, y.s, y.p, y.o, y.m, y.iv, y.gv⟩, A, ib, gl, ia, ic, rfl, heap_alloc_new w' _, HSL.out, (HT.out.ren _).stay ((Below.refl _ _).alloc (Nat.le_refl _) _)⟩) (fun h => absurd h (by decide))
  · intro X w' hB hR hD K hK
    have HK := Lib.hid hK
    have HBW := Lib.hid hB
    clear hK hB hD
    simp only [List.getD_cons_zero, List.getD_cons_succ]
    have hr18 : RT x d nc s q I 18 (X 18) w' := hR 18 (by decide)
    obtain ⟨y, A, ib, gl, ia, ic, e18, h0, h2, h1⟩ := hr18
    have HRW := Lib.hid h0
    have HT := Lib.hid h1
    have HSB := Lib.hid h2
    clear h0 h1 h2 hR
    simp only [Rinv.putAll, RTd, Act.put, Nat.reduceEqDiff, Nat.reduceAdd, if_true, if_false, List.setIfInBounds_toArray, List.set_cons_zero, List.set_cons_succ, e18]
    go_wp2_with fail
    refine HK.out _ _ ?_
    clear HK
    have HBE : Hid (BkAt q (FO (FxT q w') A nc (fun _ => .slice none 0 0)) y d.R.length (fun _ => 0) (fun _ => 0) (fun _ => 0) [(0, d.R.length, 0)] [] [] [] (.slice (some ⟨gl, 0, none⟩) 1 1) (.slice none 0 0) (.slice none 0 0) w' ∧ OrI q (FxT q w') A nc (fun _ => .slice none 0 0) (fun _ => []) w') := Lib.hid (Tg.start HT.out HRW.out HSB.out (by rw [← hs.out]; exact Nat.le_succ q) (by rw [← hs.out]; exact Nat.lt_succ_self q))
    have HBq : Hid (Below q w w') := Lib.hid (HB1.out.trans (HBW.out.mono (Nat.le_trans (by rw [← hs.out]; exact Nat.le_succ q) HS.out)))
    have HIN : Hid (IntoS w' ib ia ic d.R.length I ∧ y.iv = .slice (some ⟨ib, 0, none⟩) d.R.length d.R.length ∧ y.gv = .slice (some ⟨A, 0, none⟩) nc nc) := Lib.hid ⟨HT.out.ins, HT.out.iv, HT.out.gv⟩
    have HB2 := Lib.hid HBE.out.1
    have HO2 := Lib.hid HBE.out.2
    clear HRW HSB HT HBE HBW HX HL HB1 HS e18
    obtain ⟨Fx, hFx⟩ : ∃ Fx, Hid (FxT q w' = Fx) := ⟨_, Lib.hid rfl⟩
    rw [hFx.out] at HB2 HO2
    go_wp2_with fail
    go_loopw [29] (fun v wr => ∃ j : Nat, v = .int .i64 j ∧ j ≤ d.R.length ∧ Hid (BkAt q (FO Fx A nc (fun _ => .slice none 0 0)) y d.R.length (idJ j) (idJ j) (fun _ => 0) [(0, d.R.length, 0)] [] [] [] (.slice (some ⟨gl, 0, none⟩) 1 1) (.slice none 0 0) (.slice none 0 0) wr) ∧ Hid (Mv q (FO Fx A nc (fun _ => .slice none 0 0)) w' wr)) (fun v _ => ((d.R.length : Int) - intOf v).toNat)
    case atStart => exact ⟨0, rfl, Nat.zero_le _, Lib.hid ((HB2.out.congrS (fun i _ => rfl)).congrP (fun i _ => rfl)), Lib.hid (Mv.refl _ _ _)⟩
    case round =>
      clear HB2
      obtain ⟨j, rfl, hj, HB3, HV3⟩ := hrel
      generalize hwr : wr = w3 at *
      clear hwr wr
      by_cases hlt : j < d.R.length
      · have hdd : decide ((j : Int) < (d.R.length : Int)) = true := decide_eq_true (by omega)
        have hd2 : decide (j < d.R.length) = true := decide_eq_true hlt
        have HJ := Lib.hid hlt
        have hji : (j : Int) < (d.R.length : Int) := by omega
        have HW1 : Hid (wrap64 ((j : Int) + 1) = ((j + 1 : Nat) : Int)) := Lib.hid (wrap_big (by have := HN.out; omega))
        clear hlt
        go_upto_region 6 with fail
        have HB7 := Lib.hid HB3.out.drewI
        have HV7 := Lib.hid (HV3.out.trans HB3.out.drewM)
        clear HB3 HV3
        generalize hw7 : w3.drew = w7 at *
        have HC0 : Hid (w7.cell? ⟨y.b, 0, none⟩ = some (.slice (some ⟨y.s, 0, none⟩) d.R.length d.R.length) ∧ w7.cell? ⟨y.b, 1, none⟩ = some (.slice (some ⟨y.p, 0, none⟩) d.R.length d.R.length)) := Lib.hid ⟨HB7.out.cells.1, HB7.out.cells.2.1⟩
        have hsp := World.rowIs.cell HB7.out.st HJ.out
        have hfp := World.rowIs.frozen HB7.out.st j
        have HS1 := Lib.hid (HB7.out.setS j j)
        refine region_mix [(false, 0), (false, 1), (false, 2), (false, 3), (false, 4), (false, 5), (false, 6), (false, 7), (false, 8), (false, 9), (false, 10), (false, 11), (false, 12), (true, 13), (false, 14)] (fun w' => w'.cell? ⟨y.b, 0, none⟩ = some (.slice (some ⟨y.s, 0, none⟩) d.R.length d.R.length) ∧ w'.cell? ⟨y.b, 1, none⟩ = some (.slice (some ⟨y.p, 0, none⟩) d.R.length d.R.length)) (by kernel_rfl) (by kernel_rfl) (hw7 ▸ HC0.out) ?_
        simp only [planOps, List.map_cons, List.map_nil, List.getD_cons_zero, List.getD_cons_succ, List.length_cons, List.length_nil, List.drop_succ_cons, List.drop_zero]
        refine mix_seg (seg := [_, _, _, _, _, _, _, _, _, _, _, _, _]) rfl (hw7 ▸ HC0.out) ?_
        intro ι hι F hF
        have f1 := fun n => (hF n).1
        have f2 := fun n => (hF n).2
        iterate 13 (go_big_quiet_step (fail))
        refine wpQuiet_nil ?_
        clear f1 f2 hF hι F
        rw [hw7]
        clear hw7 w3
        refine mix_eff (fun K' hK => ?_)
        go_wp2_with fail
        have hC : (w7.setCell ⟨y.s, j, none⟩ (.int .i64 j)).cell? ⟨y.b, 0, none⟩ = some (.slice (some ⟨y.s, 0, none⟩) d.R.length d.R.length) ∧ (w7.setCell ⟨y.s, j, none⟩ (.int .i64 j)).cell? ⟨y.b, 1, none⟩ = some (.slice (some ⟨y.p, 0, none⟩) d.R.length d.R.length) := ⟨HS1.out.1.cells.1, HS1.out.1.cells.2.1⟩
        refine mix_on hK hC ?_
        clear hK K' hsp hfp HC0
        have HV8 := Lib.hid (HV7.out.trans HS1.out.2)
        have HB8 := Lib.hid HS1.out.1
        clear HB7 HV7 HS1
        generalize w7.setCell ⟨y.s, j, none⟩ (.int .i64 j) = w8 at *
        refine mix_seg (seg := [_]) (rest := []) rfl hC ?_
        intro ι hι F hF
        try simp only [Act.put, List.setIfInBounds_toArray, List.set_cons_zero, List.set_cons_succ]
        iterate 1 (go_big_quiet_step (fail))
        refine wpQuiet_nil ?_
        clear hF hι F hC
        show wpList _ _ _ _ _ _
        have hsp := World.rowIs.cell HB8.out.pl HJ.out
        have hfp := World.rowIs.frozen HB8.out.pl j
        go_wp2_with fail
        refine NoPanic.normal ?_
        have HS1 := Lib.hid (HB8.out.setP j j)
        clear hsp hfp
        go_wp2_with fail
        go_roundw
        case rel => exact ⟨j + 1, by rw [HW1.out], HJ.out, Lib.hid ((HS1.out.1.congrS (fun i _ => idJ_next j i)).congrP (fun i _ => idJ_next j i)), Lib.hid (HV8.out.trans HS1.out.2)⟩
        case measure => rw [HW1.out]; exact meas8 HJ.out
      · have hdd : decide ((j : Int) < (d.R.length : Int)) = false := decide_eq_false (by omega)
        have hd2 : decide (j < d.R.length) = false := decide_eq_false hlt
        have HE : Hid (j = d.R.length) := Lib.hid (by omega)
        rw [HE.out] at HB3
        clear hlt hj
        go_wp2_with fail
        go_ret
        have hid : ∀ i, i < d.R.length → i = idJ d.R.length i := fun i hi => by unfold idJ; rw [if_pos hi]
        refine ⟨y, A, ib, gl, ia, ic, Fx, rfl, by rw [hq.out]; exact (HB3.out.congrS hid).congrP hid, by rw [hq.out]; exact HO2.out.mv HV3.out, HIN.out.2.2, HIN.out.2.1, fun W hW => ?_, fun k hk => ?_, by rw [hq.out]; exact HBq.out.trans HV3.out.below⟩
        · have h1 := HIN.out.1
          rw [HII.out]
          refine h1 W (fun k hk => ?_)
          have hF : Fx k := by rw [← hFx.out]; exact .inr hk
          exact (hW.fx k hF).trans (HV3.out.fx k (.inl hF))
        · rw [← hFx.out]
          exact .inl (by rw [← hq.out]; exact hk)
end Mi
end Go.Proofs.YtplkhgmjcljjhaaDoor
namespace Go.Proofs.YtplkhgmjcljjhaaDoor
open Go.RowKit Sets Nf Df
namespace Mi
def finL (F : List Bool) (j : Nat) : List Nat := (List.range j).filter fun s => F.getD s false
theorem finL_next (F : List Bool) (j : Nat) : finL F (j + 1) = if F.getD j false = true then finL F j ++ [j] else finL F j := by
  unfold finL
  rw [List.range_succ, List.filter_append]
  by_cases h : F.getD j false = true
  · rw [if_pos h, List.filter_cons_of_pos (p := fun s => F.getD s false) h, List.filter_nil]
  · rw [if_neg h, List.filter_cons_of_neg (p := fun s => F.getD s false) h, List.filter_nil, List.append_nil]
theorem finL_len (F : List Bool) (j : Nat) : (finL F j).length ≤ j := by
  have := List.length_filter_le (fun s => F.getD s false) (List.range j)
  rw [List.length_range] at this
  exact this
theorem finL_mem (F : List Bool) (j s : Nat) : s ∈ finL F j ↔ s < j ∧ F.getD s false = true := by
  unfold finL; rw [List.mem_filter, List.mem_range]
theorem finL_nodup (F : List Bool) (j : Nat) : (finL F j).Nodup := List.nodup_range.sublist List.filter_sublist
theorem Fr.start {n : Nat} (hn : 0 < n) : Fr n (fun i => i) (fun i => i) (fun _ => 0) [(0, n, 0)] [] := by
  have hg : gb [(0, n, 0)] 0 = (0, n, 0) := rfl
  refine ⟨⟨fun p hp => ⟨hp, rfl⟩, fun s hs => ⟨hs, rfl⟩, fun s _ => Nat.zero_lt_one, fun i hi => ?_, fun s i hs hi => ?_⟩, fun i hi => ?_, List.nodup_nil, fun y hy => (by cases hy)⟩
  · obtain rfl : i = 0 := by simp at hi; exact hi
    rw [hg]; exact ⟨hn, Nat.le_refl _, Nat.zero_le _⟩
  · obtain rfl : i = 0 := by simp at hi; exact hi
    rw [hg]; exact ⟨fun _ => ⟨Nat.zero_le _, hs⟩, fun _ => rfl⟩
  · obtain rfl : i = 0 := by simp at hi; exact hi
    rfl
def lnV : Option Value → Nat
  | some (.slice _ k _) => k
  | _ => 0
def msW (y : Ad) (n : Nat) (W : World) : Nat := (n - lnV (W.cell? ⟨y.b, 3, none⟩)) + lnV (W.cell? ⟨y.b, 8, none⟩)
theorem BkAt.ms {s0 : Nat} {Fx : Nat → Prop} {x : Ad} {n : Nat} {S P O : Nat → Nat} {L : List Bl} {T R K : List Nat} {tv rv : Value} {W : World} {g c : Nat} (h : BkAt s0 Fx x n S P O L T R K (.slice (some ⟨g, 0, none⟩) L.length c) tv rv W) : msW x n W = (n - L.length) + R.length := by
  unfold msW
  rw [h.cells.2.2.2.1, h.cells.2.2.2.2.2.2.2.2]
  obtain ⟨a, c, e, -⟩ := own_slice h.rw
  rw [e]
  show (n - L.length) + (zI R).length = _
  rw [zI_len]
set_option maxHeartbeats 12800000 in
set_option maxRecDepth 100000 in
theorem alike_any (x : Dx) (d : Dm) (nc : Nat) (w : World) (h : DAt w x d) (hr : RRt d.R nc) (hdn : d.n = (nc : Int)) (hfl : d.F.length = d.R.length) (hn : d.R.length ≤ 90000) (hnc : nc ≤ 256) (hmn : d.R.length * nc ≤ 100000) :
    Calls Tryd.prog 25 #[.agg (dvC x d)] w fun e w' => ∃ (o : Nat) (O : Nat → Nat), e = .returned (.slice (some ⟨o, 0, none⟩) d.R.length d.R.length) ∧ w'.rowIs o 3 d.R.length (fun i => .int .i64 (O i : Nat)) ∧ w.heap.size ≤ o ∧ (∀ i, i < d.R.length → O i < d.R.length) ∧
      (∀ s t, s < d.R.length → t < d.R.length → (O s = O t ↔ Alk nc (goR d.R) (fun s => d.F.getD s false) s t)) ∧ Below w.heap.size w w' := by
  have HD0 := Lib.hid h
  have HRR := Lib.hid hr
  have HFL := Lib.hid hfl
  have HN := Lib.hid (And.intro hn hnc)
  have HTG := Lib.hid (fun w h => together_any x d nc w h hr hdn hn hnc hmn)
  have HGO : Hid (∀ s c, s < d.R.length → c < nc → goR d.R s c < d.R.length) := Lib.hid (fun s c hs hc => (hr.go hs hc).2.2)
  have HIO := Lib.hid (gT_ok d.R.length nc (goR d.R))
  clear h hr hdn hfl hn hnc hmn
  go_enter Tryd.func25, Tryd.ntmps25
  go_upto_region 1 with fail
  have HX := Lib.hid (BoxD.new w x d)
  have HB0 := Lib.hid ((Below.refl w.heap.size w).alloc (Nat.le_refl _) (.cells (dvC x d) 28))
  obtain ⟨q, hq⟩ : ∃ q, Hid (w.heap.size = q) := ⟨_, Lib.hid rfl⟩
  generalize w.alloc (.cells (dvC x d) 28) = w1 at *
  have HD1 := Lib.hid (HD0.out.kept HB0.out)
  rw [hq.out] at HX HB0 ⊢
  have HQ1 : Hid (q < w1.heap.size) := Lib.hid HX.out.lt
  obtain ⟨s, hs⟩ : ∃ s, Hid (w1.heap.size = s) := ⟨_, Lib.hid rfl⟩
  go_upto_region 2 with first
    | (refine wpList_load_df rfl _ rfl q x d rfl HX.out ?_)
    | (go_at_call 53; refine (HTG.out w1 HD1.out).mono ?_; rintro e w2 ⟨y, A, ib, gl, ia, ic, Fx, rfl, h1, h2, h3, h4, h5, h6, h7⟩; have HBk := Lib.hid h1; have HOr := Lib.hid h2; have HGI := Lib.hid (And.intro h3 h4); have HIN := Lib.hid h5; have HFX := Lib.hid h6; have HBw := Lib.hid h7; clear h1 h2 h3 h4 h5 h6 h7)
  rw [hs.out] at HBk HOr HIN HFX HBw
  have HX2 := Lib.hid (HX.out.kept HBw.out (by have := HQ1.out; have := hs.out; omega))
  have HD2 := Lib.hid (HD1.out.kept (hs.out.symm ▸ HBw.out))
  have c258 := HX2.out.c258
  go_wp2_with fail
  clear c258
  obtain ⟨s2, hs2⟩ : ∃ s2, Hid (w2.heap.size = s2) := ⟨_, Lib.hid rfl⟩
  have HS2 : Hid (s ≤ s2) := Lib.hid (by rw [← hs2.out, ← hs.out]; exact HBw.out.size)
  go_loopw [4, 12] (fun v i wr => ∃ j : Nat, i = .int .i64 j ∧ j ≤ d.F.length ∧ Hid (OwnN s2 wr v (zI (finL d.F j))) ∧ Hid (Below s2 w2 wr)) (fun _ i _ => ((d.F.length : Int) - intOf i).toNat)
  case atStart => exact ⟨0, rfl, Nat.zero_le _, Lib.hid (OwnN.nil _ _), Lib.hid (Below.refl _ _)⟩
  case round =>
    obtain ⟨j, rfl, hj, HO3, HB3⟩ := hrel
    generalize hwr : wr = w3 at *
    clear hwr wr
    have HBz : Hid (Below w2.heap.size w2 w3) := Lib.hid (by rw [hs2.out]; exact HB3.out)
    have HX3 := Lib.hid (HX2.out.stay HBz.out)
    have HD3 := Lib.hid (HD2.out.kept HBz.out)
    have HSZ : Hid (s2 ≤ w3.heap.size) := Lib.hid (by rw [← hs2.out]; exact HB3.out.size)
    by_cases hlt : j < d.F.length
    · have hdd : decide ((j : Int) < (d.F.length : Int)) = true := decide_eq_true (by omega)
      have hd2 : decide (j < d.F.length) = true := decide_eq_true hlt
      have HJ := Lib.hid hlt
      have hji : (j : Int) < (d.F.length : Int) := by omega
      have HW1 : Hid (wrap64 ((j : Int) + 1) = ((j + 1 : Nat) : Int)) := Lib.hid (wrap_big (by have := HN.out; have := HFL.out; omega))
      obtain ⟨b2, o2, hxb, hc⟩ := HD3.out.fl j hlt
      rw [hxb]
      have HNX := Lib.hid (finL_next d.F j)
      have HLE := Lib.hid (finL_len d.F j)
      clear hlt
      generalize hbb : d.F.getD j false = bb at *
      have HBB := Lib.hid hbb
      clear hbb
      cases bb
      · go_wp2_with fail
        go_roundw
        case rel => exact ⟨j + 1, by rw [HW1.out], HJ.out, Lib.hid (by rw [HNX.out, if_neg (by decide)]; exact HO3.out), HB3⟩
        case measure => rw [HW1.out]; exact meas8 HJ.out
      · go_wp2_with (refine wpList_pushN rfl (.tmp 18) (.tmp 20) rfl s2 _ (zI (finL d.F j)) j rfl HO3.out rfl (by rw [zI_len]; have := HLE.out; have := HJ.out; have := HN.out; have := HFL.out; omega) HSZ.out ?_; intro v' w4 ho hb ha; have HO4 := Lib.hid ho; have HB4 := Lib.hid hb; clear ho hb ha)
        go_roundw
        case rel => exact ⟨j + 1, by rw [HW1.out], HJ.out, Lib.hid (by rw [HNX.out, if_pos rfl, zI_app]; exact HO4.out), Lib.hid (HB3.out.trans HB4.out)⟩
        case measure => rw [HW1.out]; exact meas8 HJ.out
    · have hdd : decide ((j : Int) < (d.F.length : Int)) = false := decide_eq_false (by omega)
      have hd2 : decide (j < d.F.length) = false := decide_eq_false hlt
      have HE : Hid (j = d.R.length) := Lib.hid (by have := HFL.out; omega)
      rw [HE.out] at HO3
      clear hlt hj
      have HPO := Lib.hid HRR.out.pos
      obtain ⟨n, hnn⟩ : ∃ n, Hid (d.R.length = n) := ⟨_, Lib.hid rfl⟩
      have HFM := Lib.hid (finL_mem d.F d.R.length)
      have HFN := Lib.hid (finL_nodup d.F d.R.length)
      rw [hnn.out] at HN HGO HIO HBk HGI HIN HO3 HPO HFM HFN
      obtain ⟨fa, fc, hfv, -⟩ := own_slice HO3.out
      rw [zI_len] at hfv
      subst hfv
      have HG3 : Hid (BkAt s (fun k => FO Fx A nc (fun _ => .slice none 0 0) k ∨ (Value.slice fa (finL d.F n).length fc).ownBlock = some k) y n (fun i => i) (fun i => i) (fun _ => 0) [(0, n, 0)] [] [] [] (.slice (some ⟨gl, 0, none⟩) [(0, n, 0)].length 1) (.slice none 0 0) (.slice none 0 0) w3) := Lib.hid (HBk.out.other HBz.out.size (fun k hk _ => HBz.out.block k hk) (fun k hk => by
        rcases hk with hk | hk
        · exact .inl hk
        · have := HO3.out.lt k hk
          exact .inr ⟨by rw [hs2.out]; exact this.1, this.2⟩))
      have HNU : Hid (∀ W, Mv s (fun k => FO Fx A nc (fun _ => .slice none 0 0) k ∨ (Value.slice fa (finL d.F n).length fc).ownBlock = some k) w3 W → NumsIn W fa (zI (finL d.F n))) := Lib.hid (fun W hW => by
        have h1 : OwnN s2 W _ _ := own_kept HO3.out (fun k hk => hW.fx k (.inr hk))
        obtain ⟨a1, c1, e1, h2⟩ := h1.nums
        injection e1 with e1 _ _
        rw [e1]; exact h2)
      have HV3 := Lib.hid (HBk.out.mv HBz.out)
      have HO3r := Lib.hid (HOr.out.mv HV3.out)
      go_upto_region 10 with (go_at_call 54; refine (tell_any y n (fun i => i) (fun i => i) (fun _ => 0) [(0, n, 0)] [] gl 1 _ _ fa fc (finL d.F n) w3 HG3.out (Fr.start HPO.out) HFN.out (fun s hs => ((HFM.out s).1 hs).1) HNU.out HN.out.1).mono ?_; rintro e w4 ⟨rfl, S1, P1, O1, L1, R1, g1, c1, tv1, rv1, h1, h2, h3, h4⟩; have HB4 := Lib.hid (h1.weak (fun k hk => .inl hk)); have HM4 := Lib.hid h2; have HF4 := Lib.hid h3; have HT4 := Lib.hid h4; clear h1 h2 h3 h4)
      have HOr4 : Hid (OrI s Fx A nc (fun _ => .slice none 0 0) (fun _ => []) w4) := Lib.hid (HO3r.out.mv ⟨HM4.out.below, fun k hk => HM4.out.fx k (.inl hk)⟩)
      have HV4 : Hid (Mv s Fx w2 w4) := Lib.hid (HV3.out.fo.trans ⟨HM4.out.below, fun k hk => HM4.out.fx k (.inl (.inl hk))⟩)
      have HST4 : Hid (Stab n nc (goR d.R) O1 R1) := Lib.hid (fun a b c ha hb hc _ ne => HT4.out.rel.waits _ _ (HGO.out a c ha hc) (HGO.out b c hb hc) rfl ne)
      have HAL4 : Hid (∀ a b, a < n → b < n → Alk nc (goR d.R) (fun s => d.F.getD s false) a b → O1 a = O1 b) := Lib.hid (fun a b ha hb hab => (HT4.out.same a b ha hb).2 ⟨rfl, by
        rw [HFM.out, HFM.out]
        have h5 : d.F.getD a false = d.F.getD b false := hab.fin
        rw [h5]
        exact ⟨fun h => ⟨hb, h.2⟩, fun h => ⟨ha, h.2⟩⟩⟩)
      have HFE4 : Hid (∀ a b, a < n → b < n → O1 a = O1 b → d.F.getD a false = d.F.getD b false) := Lib.hid (fun a b ha hb e => by
        have h1 := ((HT4.out.same a b ha hb).1 e).2
        rw [HFM.out, HFM.out] at h1
        cases h2 : d.F.getD a false <;> cases h3 : d.F.getD b false
        · rfl
        · exact absurd (h1.2 ⟨hb, h3⟩).2 (by rw [h2]; decide)
        · exact absurd (h1.1 ⟨ha, h2⟩).2 (by rw [h3]; decide)
        · rfl)
      clear HT4 HO3r HM4 HNU HG3 HO3 HV3 HX3 HD3 HB3 HSZ hdd hd2
      go_loopw [] (fun wr => ∃ (S P O : Nat → Nat) (L : List Bl) (R : List Nat) (g c : Nat) (tv rv : Value) (vs : Nat → Value), Hid (BkAt s (FO Fx A nc vs) y n S P O L [] R R (.slice (some ⟨g, 0, none⟩) L.length c) tv rv wr) ∧ Hid (OrI s Fx A nc vs (fun _ => []) wr) ∧ Hid (Fr n S P O L R) ∧ Hid (Stab n nc (goR d.R) O R) ∧
        Hid (∀ a b, a < n → b < n → Alk nc (goR d.R) (fun s => d.F.getD s false) a b → O a = O b) ∧ Hid (∀ a b, a < n → b < n → O a = O b → d.F.getD a false = d.F.getD b false) ∧ Hid (Mv s Fx w2 wr)) (fun wr => msW y n wr)
      case atStart => exact ⟨S1, P1, O1, L1, R1, g1, c1, tv1, rv1, _, HB4, HOr4, HF4, HST4, HAL4, HFE4, HV4⟩
      case round =>
        clear HB4 HOr4 HF4 HST4 HAL4 HFE4 HV4
        obtain ⟨S2, P2, O2, L2, R2, g2, c2, tv2, rv2, vs2, HB5, HO5, HF5, HST5, HAL5, HFE5, HV5⟩ := hrel
        generalize hwr : wr = w5 at *
        clear hwr wr
        have HMS := Lib.hid HB5.out.ms
        rw [HMS.out]
        obtain ⟨es, ck, hes, hsz⟩ := HB5.out.mp.len
        have c7 := HB5.out.cells.2.2.2.2.2.2.2.1
        have hln : (Builtin.len_ #[104] 3 #[.map (some y.m)]).run Tryd.prog w5 = .ok (.int .i64 (R2.length : Nat)) w5 := by
          rw [run_len_map w5 104 3 y.m es ck (by kernel_rfl) hes, hsz]; rfl
        clear hes
        rcases List.eq_nil_or_concat R2 with hR | ⟨R3, k, hR⟩
        · have hz : decide ((0 : Int) < ((R2.length : Nat) : Int)) = false := by rw [hR]; rfl
          have hz2 : decide (0 < R2.length) = false := by rw [hR]; rfl
          have HRE := Lib.hid hR
          clear hsz hR
          have c2 := HB5.out.cells.2.2.1
          go_wp2_with fail
          go_ret
          have hO := HF5.out.pa
          refine ⟨y.o, O2, by rw [hnn.out]; rfl, by rw [hnn.out]; exact HB5.out.of, Nat.le_trans (by rw [hq.out]; have := HQ1.out; have := hs.out; omega) HB5.out.low.2.2.2.1, fun i hi => ?_, fun a b ha hb => ?_, by rw [hq.out]; exact HB0.out.trans ((HBw.out.trans HV5.out.below).mono (by have := HQ1.out; have := hs.out; omega))⟩
          · rw [hnn.out] at hi ⊢
            exact Nat.lt_of_lt_of_le (hO.o i hi) hO.few
          · rw [hnn.out] at ha hb
            refine ⟨fun e l hl => ?_, fun h => HAL5.out a b ha hb h⟩
            exact Stab.alike (n := n) (nc := nc) (F := fun s => d.F.getD s false) (by have := HST5.out; rw [HRE.out] at this; exact this) (fun a b ha hb e => HFE5.out a b ha hb e) HGO.out l a b hl ha hb e
        · rw [List.concat_eq_append] at hR
          have hz2 : decide (0 < R2.length) = true := decide_eq_true (by rw [hR]; simp)
          have hz : decide ((0 : Int) < ((R2.length : Nat) : Int)) = true := decide_eq_true (by have := of_decide_eq_true hz2; omega)
          have HRE := Lib.hid hR
          clear hsz hR
          go_upto_region 11 with fail
          clear c7 hz hz2 hln
          rw [HRE.out] at HB5 HF5 HST5
          have HNK : Hid (k ∉ R3 ∧ k < L2.length ∧ R3.length ≤ 90000) := Lib.hid (by
            have h1 := HF5.out.nd
            rw [List.nodup_append] at h1
            refine ⟨fun hm => h1.2.2 k hm k (by simp) rfl, HF5.out.lt k (by simp), ?_⟩
            have h2 := nodup_few h1.1 (k := L2.length) (fun y hy => HF5.out.lt y (List.mem_append_left _ hy))
            have h3 := HF5.out.pa.few
            have := HN.out
            omega)
          have HF6 : Hid (Fr n S2 P2 O2 L2 R3) := Lib.hid ⟨HF5.out.pa, HF5.out.clean, (List.nodup_append.1 HF5.out.nd).1, fun y hy => HF5.out.lt y (List.mem_append_left _ hy)⟩
          have HTK := Lib.hid (take_any y n S2 P2 O2 L2 [] R3 _ tv2 rv2 k w5 HB5.out HNK.out.1 (by have := HNK.out; omega))
          go_wp2_with (first
            | (go_at_call 56; refine HTK.out.mono ?_; rintro e w6 ⟨rfl, rv3, h1, h2⟩; have HB6 := Lib.hid h1; have HM6 := Lib.hid h2; have HO6 := Lib.hid (HO5.out.mv h2); have HV6 := Lib.hid (HV5.out.trans h2.fo); clear h1 h2)
            | (go_at_call 55; refine (look_any y A nc vs2 n S2 P2 O2 L2 R3 g2 c2 tv2 rv3 k (goR d.R) (gT (goR d.R) (eL nc n 0)) (fun s => d.F.getD s false) ib ia ic w6 HB6.out HO6.out HGI.out.1 HGI.out.2 (fun W hW => HIN.out W (HV6.out.trans hW)) HIO.out HF6.out HNK.out.2.1 HN.out.1 HN.out.2 HGO.out HST5.out.take HAL5.out).mono ?_; rintro e w7 ⟨rfl, S4, P4, O4, L4, R4, g4, c4, tv4, rv4, vs4, h1, h2, h3, h4, h5, h6, h7⟩; have HB7 := Lib.hid h1; have HO7 := Lib.hid h2; have HM7 := Lib.hid h3; have HF7 := Lib.hid h4; have HP7 := Lib.hid h5; have HS7 := Lib.hid h6; have HA7 := Lib.hid h7; clear h1 h2 h3 h4 h5 h6 h7))
          go_roundw
          case rel => exact ⟨S4, P4, O4, L4, R4, g4, c4, tv4, rv4, vs4, HB7, HO7, HF7, HS7, HA7, Lib.hid (fun a b ha hb e => HFE5.out a b ha hb (HP7.out.fine a b ha hb e)), Lib.hid (HV6.out.trans HM7.out)⟩
          case measure =>
            rw [HB7.out.ms, HRE.out, List.length_append]
            have h1 := HP7.out.many
            have h2 := HF7.out.pa.few
            have h3 := HF5.out.pa.few
            simp only [List.length_singleton]
            omega
end Mi
end Go.Proofs.YtplkhgmjcljjhaaDoor
