/- Several texts in one. -/
import Derived.Test.YtipghpljaiemmaaDoorPq21
import Derived.Test.YtipghpljaiemmaaDoorPq23
import Derived.Test.YtipghpljaiemmaaDoorPq14
namespace Go.Proofs.YtipghpljaiemmaaDoor
open Go.RowKit Sets Nf
namespace Nf
def Lies (w : World) (a : Option Addr) (xs : List Value) : Prop := (a = none → xs = []) ∧ ∀ ad, a = some ad → ∀ j u, xs[j]? = some u → w.cell? (ad.add j) = some u
theorem Lies.kept {w w' : World} {a : Option Addr} {xs : List Value} (h : Lies w a xs) (hb : Below w.heap.size w w') : Lies w' a xs := ⟨h.1, fun ad e j u hj => by
  have hc := h.2 ad e j u hj
  exact (hb.cell (World.block_lt_of_cell? _ _ hc)).trans hc⟩
theorem NumsIn.lies {w : World} {a : Option Addr} {l : List Int} (h : NumsIn w a l) : Lies w a (is64 l) := by
  refine ⟨fun e => ?_, fun ad e j u hj => ?_⟩
  · cases l with
    | nil => rfl
    | cons x l => obtain ⟨b, o, e2, -⟩ := h 0 (by simp); rw [e] at e2; cases e2
  · have hjl : j < l.length := by have := (List.getElem?_eq_some_iff.1 hj).1; rwa [is64_length] at this
    obtain ⟨b, o, e2, hc⟩ := h j hjl
    rw [e] at e2
    injection e2 with e2
    subst e2
    rw [Addr.add_lit, hc, ← hj]
    unfold is64
    rw [List.getElem?_map, List.getElem?_eq_getElem hjl, List.getD_eq_getElem?_getD, List.getElem?_eq_getElem hjl]; rfl
theorem bL_length (l : List Bool) : (bL l).length = l.length := List.length_map _
theorem spL_length (L : List (Nat × Nat)) : (spL L).length = L.length * 5 := by
  induction L with
  | nil => rfl
  | cons s L ih => unfold spL at *; rw [List.flatMap_cons, List.length_append, ih, sp5_len, List.length_cons]; omega
theorem BoolsIn.lies {w : World} {a : Option Addr} {l : List Bool} (h : BoolsIn w a l) : Lies w a (bL l) := by
  refine ⟨fun e => ?_, fun ad e j u hj => ?_⟩
  · cases l with
    | nil => rfl
    | cons x l => obtain ⟨b, o, e2, -⟩ := h 0 (by simp); rw [e] at e2; cases e2
  · have hjl : j < l.length := by have := (List.getElem?_eq_some_iff.1 hj).1; rwa [bL_length] at this
    obtain ⟨b, o, e2, hc⟩ := h j hjl
    rw [e] at e2
    injection e2 with e2
    subst e2
    rw [Addr.add_lit, hc, ← hj, bL_get _ _ hjl]
theorem SpotsIn.lies {w : World} {a : Option Addr} {l : List (Nat × Nat)} (h : SpotsIn w a l) : Lies w a (spL l) := by
  refine ⟨fun e => ?_, fun ad e j u hj => ?_⟩
  · cases l with
    | nil => rfl
    | cons x l => obtain ⟨b, o, e2, -⟩ := h 0 (by simp); rw [e] at e2; cases e2
  · have hjl : j < l.length * 5 := by have := (List.getElem?_eq_some_iff.1 hj).1; rwa [spL_length] at this
    have hi : j / 5 < l.length := by omega
    obtain ⟨b, o, e2, hc⟩ := h (j / 5) hi
    rw [e] at e2
    injection e2 with e2
    subst e2
    have hg := spL_get l (j / 5) hi (j % 5) (by omega)
    rw [show j / 5 * 5 + j % 5 = j from by omega, hj] at hg
    have := hc (j % 5) u hg.symm
    rw [Addr.add_lit, show o + j = o + j / 5 * 5 + j % 5 from by omega]
    exact this
theorem is64_one (l : List Int) : ∀ u ∈ is64 l, u.oneCell' = true := fun u hu => by
  obtain ⟨x, -, rfl⟩ := List.mem_map.1 hu; rfl
theorem bL_one (l : List Bool) : ∀ u ∈ bL l, u.oneCell' = true := fun u hu => by
  obtain ⟨x, -, rfl⟩ := List.mem_map.1 hu; rfl
theorem spL_one (l : List (Nat × Nat)) : ∀ u ∈ spL l, u.oneCell' = true := fun u hu => by
  unfold spL at hu
  obtain ⟨x, -, h⟩ := List.mem_flatMap.1 hu
  simp [sp5] at h
  rcases h with rfl | rfl | rfl | rfl | rfl <;> rfl
theorem own_newN (w : World) : (w.alloc (.cells #[] 3)).ownsRow w.heap.size 3 1 (.slice (some ⟨w.heap.size, 0, none⟩) 0 0) 0 ([] : List Value) :=
  World.ownsRow_made w #[] 0 (Nat.le_refl _) (by simp) (by simp)
set_option maxHeartbeats 3200000 in
set_option maxRecDepth 100000 in
theorem cloneN_any (a : Option Addr) (cap : Nat) (l : List Int) (w : World) (h : NumsIn w a l) (hl : l.length ≤ 1000) :
    Calls Tryd.prog 47 #[.slice a l.length cap] w fun e w' => ∃ v, e = .returned v ∧ w'.ownsRow w.heap.size 3 1 v l.length (is64 l) ∧ Below w.heap.size w w' := by
  have hs := h.lies
  cases a with
  | none =>
    obtain rfl : l = [] := by
      cases l with
      | nil => rfl
      | cons x l => obtain ⟨b, o, e2, -⟩ := h 0 (by simp); cases e2
    clear h hs hl
    have hnil : ∀ w : World, (binOp .eql 23 (.slice none 0 cap) (.slice none 0 0)).run Tryd.prog w = .ok (.bool true) w := fun w => by kernel_rfl
    go_enter Tryd.func47, Tryd.ntmps47
    go_wp2_with fail
    go_ret
    exact ⟨_, rfl, World.ownsRow_nil _ _ _ _, Below.refl _ _⟩
  | some ad =>
    have HC := Lib.hid (hs.2 ad rfl)
    have hal := (Below.refl w.heap.size w).alloc (Nat.le_refl _) (.cells #[] 3)
    have HC2 : Hid (∀ j u, (is64 l)[j]? = some u → (w.alloc (.cells #[] 3)).cell? (ad.add j) = some u) := Lib.hid (fun j u hj => by
      have h5 := HC.out j u hj
      exact (hal.cell (World.block_lt_of_cell? _ _ h5)).trans h5)
    have HB := Lib.hid hal
    have HN := Lib.hid (own_newN w)
    have HL := Lib.hid hl
    have HS : Hid ((w.alloc (.cells #[] 3)).heap.size = w.heap.size + 1) := Lib.hid (by simp)
    clear hal h hs hl HC
    have hnil : ∀ w : World, (binOp .eql 23 (.slice (some ad) l.length cap) (.slice none 0 0)).run Tryd.prog w = .ok (.bool false) w := fun w => by kernel_rfl
    obtain ⟨i0, hi, hz0, hz1, hz2⟩ := info_parts infoInt
    have HI := Lib.hid hi
    have HZ := Lib.hid (And.intro hz0 (And.intro hz1 hz2))
    clear hi hz0 hz1 hz2
    go_enter Tryd.func47, Tryd.ntmps47
    go_wp2_with (refine wpList_append_own_at _ rfl _ _ 23 rfl w.heap.size 3 i0 _ 1 8 Tryd.underlying23 HI.out HZ.out.1 HZ.out.2.1 HZ.out.2.2 rfl (by decide) (.slice (some ⟨w.heap.size, 0, none⟩) 0 0) 0 [] rfl HN.out ad l.length cap (is64 l) rfl (by rw [is64_length, Nat.mul_one]) HC2.out (is64_one l) (by have := HL.out; unfold maxLen; omega) (by have := HL.out; omega) (by have := HS.out; omega) ?_; intro v' w2 ho hg2 hz3 hz4; clear hz3 hz4; have HO := Lib.hid ho; have HG2 := Lib.hid hg2; clear ho hg2)
    go_ret
    refine ⟨v', rfl, ?_, HB.out.grown HG2.out (by have := HS.out; omega) (fun j hj => (HN.out.lt j hj).1)⟩
    have := HO.out
    rwa [Nat.zero_add, List.nil_append] at this
theorem own_newS (w : World) : (w.alloc (.cells #[] 82)).ownsRow w.heap.size 82 5 (.slice (some ⟨w.heap.size, 0, none⟩) 0 0) 0 ([] : List Value) :=
  World.ownsRow_made w #[] 0 (Nat.le_refl _) (by simp) (by simp)
theorem own_newB (w : World) : (w.alloc (.cells #[] 4)).ownsRow w.heap.size 4 1 (.slice (some ⟨w.heap.size, 0, none⟩) 0 0) 0 ([] : List Value) :=
  World.ownsRow_made w #[] 0 (Nat.le_refl _) (by simp) (by simp)
end Nf
end Go.Proofs.YtipghpljaiemmaaDoor
namespace Go.Proofs.YtipghpljaiemmaaDoor
open Go.RowKit Sets Nf
namespace Df
/-- The cells of an automaton. -/
def dfC (of : Nat → Nat) (n : Int) (nv fv : Value) : Array Value := (ofL of ++ [Value.int .i64 n, nv, fv]).toArray
def nilS : Value := .slice none 0 0
theorem dfC_size (of : Nat → Nat) (n : Int) (nv fv : Value) : (dfC of n nv fv).size = 259 := by simp [dfC, ofL_length]
theorem dfC_get (of : Nat → Nat) (n : Int) (nv fv : Value) (c : Nat) (h : c < 256) : (dfC of n nv fv)[c]? = some (.int .u8 (of c)) := by
  unfold dfC
  rw [List.getElem?_toArray, List.getElem?_append_left (by rw [ofL_length]; exact h), ofL_get of c h]
theorem dfC_hi (of : Nat → Nat) (n : Int) (nv fv : Value) (c : Nat) : (dfC of n nv fv)[256 + c]? = [Value.int .i64 n, nv, fv][c]? := by
  unfold dfC
  rw [List.getElem?_toArray, List.getElem?_append_right (by rw [ofL_length]; omega), ofL_length, show 256 + c - 256 = c from by omega]
theorem dfC_n (of : Nat → Nat) (n : Int) (nv fv : Value) : (dfC of n nv fv)[256]? = some (.int .i64 n) := dfC_hi of n nv fv 0
theorem dfC_nv (of : Nat → Nat) (n : Int) (nv fv : Value) : (dfC of n nv fv)[257]? = some nv := dfC_hi of n nv fv 1
theorem dfC_fv (of : Nat → Nat) (n : Int) (nv fv : Value) : (dfC of n nv fv)[258]? = some fv := dfC_hi of n nv fv 2
theorem dfC_setN (of : Nat → Nat) (n : Int) (nv fv v : Value) : (dfC of n nv fv).setIfInBounds 257 v = dfC of n v fv := by
  unfold dfC
  rw [List.setIfInBounds_toArray, List.set_append_right _ _ (by rw [ofL_length]; omega), ofL_length]
  rfl
theorem dfC_setF (of : Nat → Nat) (n : Int) (nv fv v : Value) : (dfC of n nv fv).setIfInBounds 258 v = dfC of n nv v := by
  unfold dfC
  rw [List.setIfInBounds_toArray, List.set_append_right _ _ (by rw [ofL_length]; omega), ofL_length]
  rfl
theorem sizeDf (of : Nat → Nat) (n : Int) (nv fv : Value) : (Tryd.prog.info? 35).map (·.size) = some (dfC of n nv fv).size := by
  rw [dfC_size]
  kernel_rfl
theorem ofL_zero : ofL (fun _ => 0) = List.replicate 256 (Value.int .u8 0) := by unfold ofL; rw [List.map_const', List.length_range]; rfl
set_option maxRecDepth 100000 in
theorem zeroD (w : World) : (zeroValue 35).run Tryd.prog w = .ok (.agg (dfC (fun _ => 0) 0 nilS nilS)) w := by
  unfold dfC
  rw [ofL_zero]
  kernel_rfl
set_option maxRecDepth 100000 in
theorem buildD (of : Nat → Nat) (n : Int) (w : World) : (Instr.build 35 #[(0, .agg (partC of n))]).run Tryd.prog w = .ok (.agg (dfC of n nilS nilS)) w := by
  unfold dfC partC ofL
  kernel_rfl
set_option maxRecDepth 100000 in
theorem buildZ (w : World) : (Instr.build 35 #[]).run Tryd.prog w = .ok (.agg (dfC (fun _ => 0) 0 nilS nilS)) w := by
  unfold dfC
  rw [ofL_zero]
  kernel_rfl
theorem oneDf (of : Nat → Nat) (n : Int) (a b : Option Addr) (k l c d : Nat) : (dfC of n (.slice a k c) (.slice b l d)).all (·.oneCell') = true := by
  rw [Array.all_eq_true_iff_forall_mem]
  intro v hv
  simp [dfC, ofL] at hv
  rcases hv with ⟨c, -, rfl⟩ | rfl | rfl | rfl <;> rfl
theorem partC_mid (of : Nat → Nat) (n : Int) (nv fv : Value) (w : World) (B : Nat) (h : w.heap[B]? = some (.cells (dfC of n nv fv) 35 (0, 0))) : w.rangeAt B 0 (partC of n).toList := by
  intro j v hj
  have hl := (List.getElem?_eq_some_iff.1 hj).1
  have hl2 : j < 257 := by rw [Array.length_toList, partC_size] at hl; exact hl
  rw [Nat.zero_add, cell_of_row w B j _ _ _ h]
  rw [Array.getElem?_toList] at hj
  rw [← hj]
  by_cases e : j < 256
  · rw [dfC_get _ _ _ _ _ e, partC_get _ _ _ e]
  · have : j = 256 := by omega
    subst this
    rw [dfC_n, partC_n]
theorem wpList_store_df {ops : Array Oper} {rest : List Oper} {o : Oper} {a : Act} {w : World} {Q : Exit → Act → World → Prop} (hgd : o.guard = none) (x y : Operand) (ho : o.op = .store 35 x y)
    (g : Nat) (of : Nat → Nat) (n : Int) (a1 b1 : Option Addr) (k l c d : Nat) (old : Array Value) (hx : a.eval x = .pointer (some ⟨g, 0, none⟩)) (hy : a.eval y = .agg (dfC of n (.slice a1 k c) (.slice b1 l d))) (hc : w.heap[g]? = some (.cells old 35 (0, 0))) (hs : old.size = 259)
    (h : wpList Tryd.prog ops Q rest (a.put o.dst undef) (w.setRow g (dfC of n (.slice a1 k c) (.slice b1 l d)))) : wpList Tryd.prog ops Q (o :: rest) a w :=
  wpList_store_row hgd 35 x y ho g _ hx hy 35 old hc (sizeDf of n _ _) (by rw [dfC_size, hs]) (oneDf of n _ _ _ _ _ _) h
theorem wpList_build_df {ops : Array Oper} {rest : List Oper} {o : Oper} {a : Act} {w : World} {Q : Exit → Act → World → Prop} (hgd : o.guard = none) (x : Operand) (ho : o.op = .build 35 #[(0, x)]) (of : Nat → Nat) (n : Int) (hx : a.eval x = .agg (partC of n))
    (h : wpList Tryd.prog ops Q rest (a.put o.dst (.agg (dfC of n nilS nilS))) w) : wpList Tryd.prog ops Q (o :: rest) a w := by
  refine wpList_plain hgd fun K hK => ?_
  have hrun := buildD of n w
  unfold Oper.wp execOp
  simp only [ho, List.map_toArray, List.map_cons, List.map_nil, hx, Sem.run_bind, Sem.run_pure, hrun, Result.andThen_ok]
  exact hK _ _ h
theorem wpList_build_z {ops : Array Oper} {rest : List Oper} {o : Oper} {a : Act} {w : World} {Q : Exit → Act → World → Prop} (hgd : o.guard = none) (ho : o.op = .build 35 #[])
    (h : wpList Tryd.prog ops Q rest (a.put o.dst (.agg (dfC (fun _ => 0) 0 nilS nilS))) w) : wpList Tryd.prog ops Q (o :: rest) a w := by
  refine wpList_plain hgd fun K hK => ?_
  have hrun := buildZ w
  unfold Oper.wp execOp
  simp only [ho, List.map_toArray, List.map_nil, Sem.run_bind, Sem.run_pure, hrun, Result.andThen_ok]
  exact hK _ _ h
/-- The next states R in slices of their own, from B on; the final ones F too. -/
structure OwnD (B : Nat) (w : World) (R : List (List Int)) (F : List Bool) (nv fv : Value) (vs : List Value) : Prop where
  nx : w.ownsRow B 23 1 nv R.length vs
  len : vs.length = R.length
  each : ∀ i, i < R.length → OwnN B w (vs.getD i nilS) (R.getD i [])
  fl : w.ownsRow B 4 1 fv F.length (bL F)
theorem OwnD.nil (B : Nat) (w : World) : OwnD B w [] [] nilS nilS [] := ⟨World.ownsRow_nil _ _ _ _, rfl, fun _ hi => absurd hi (Nat.not_lt_zero _), World.ownsRow_nil _ _ _ _⟩
theorem OwnD.kept {B : Nat} {w w' : World} {R : List (List Int)} {F : List Bool} {nv fv : Value} {vs : List Value} (h : OwnD B w R F nv fv vs)
    (hk : ∀ (k : Nat) (cs : Array Value) (t : TypeId), w.heap[k]? = some (Obj.cells cs t (0, 0)) → t = 23 ∨ t = 3 ∨ t = 4 → w'.heap[k]? = w.heap[k]?) : OwnD B w' R F nv fv vs := by
  refine ⟨own_kept h.nx fun g hg => ?_, h.len, fun i hi => own_kept (h.each i hi) fun g hg => ?_, own_kept h.fl fun g hg => ?_⟩
  · obtain ⟨cs, hc⟩ := own_type h.nx hg; exact hk g cs _ hc (.inl rfl)
  · obtain ⟨cs, hc⟩ := own_type (h.each i hi) hg; exact hk g cs _ hc (.inr (.inl rfl))
  · obtain ⟨cs, hc⟩ := own_type h.fl hg; exact hk g cs _ hc (.inr (.inr rfl))
theorem OwnD.stay {B : Nat} {w w' : World} {R : List (List Int)} {F : List Bool} {nv fv : Value} {vs : List Value} (h : OwnD B w R F nv fv vs) (hb : Below w.heap.size w w') : OwnD B w' R F nv fv vs :=
  h.kept fun k _ _ hc _ => hb.block k (Array.getElem?_eq_some_iff.1 hc).1
/-- All below B stays, but for the purse's block. -/
structure BelP (p : Option (Nat × Nat)) (B : Nat) (w w' : World) : Prop where
  os : w'.os = w.os
  tape : w'.tape = w.tape
  output : w'.output = w.output
  size : w.heap.size ≤ w'.heap.size
  block : ∀ k, k < B → (∀ q, p = some q → q.1 ≠ k) → w'.heap[k]? = w.heap[k]?
theorem BelP.refl (p : Option (Nat × Nat)) (B : Nat) (w : World) : BelP p B w w := ⟨rfl, rfl, rfl, Nat.le_refl _, fun _ _ _ => rfl⟩
theorem BelP.trans {p : Option (Nat × Nat)} {B : Nat} {w w1 w2 : World} (h : BelP p B w w1) (k : BelP p B w1 w2) : BelP p B w w2 :=
  ⟨k.os.trans h.os, k.tape.trans h.tape, k.output.trans h.output, Nat.le_trans h.size k.size, fun i hi hn => (k.block i hi hn).trans (h.block i hi hn)⟩
theorem BelP.of_below {p : Option (Nat × Nat)} {B : Nat} {w w' : World} (h : Below B w w') : BelP p B w w' := ⟨h.os, h.tape, h.output, h.size, fun k hk _ => h.block k hk⟩
theorem BelP.below {B : Nat} {w w' : World} (h : BelP none B w w') : Below B w w' := ⟨h.os, h.tape, h.output, h.size, fun k hk => h.block k hk (fun q hq => by cases hq)⟩
/-- A row that grows class by class. -/
def rowCl {σ : Type} [DecidableEq σ] (f : Nat → σ) (L : List σ) (nc c : Nat) : List Int := (List.range nc).map fun d => if d < c then ((ix (puts f L c) (f d) : Nat) : Int) else 0
section
variable {σ : Type} [DecidableEq σ]
theorem rowCl_len (f : Nat → σ) (L : List σ) (nc c : Nat) : (rowCl f L nc c).length = nc := by unfold rowCl; simp
theorem rowCl_all (f : Nat → σ) (L : List σ) (nc : Nat) : rowCl f L nc nc = rowTo f L nc := by
  unfold rowCl rowTo
  exact List.map_congr_left fun d hd => if_pos (List.mem_range.1 hd)
theorem rowCl_zero (f : Nat → σ) (L : List σ) (nc : Nat) : rowCl f L nc 0 = List.replicate nc 0 := by
  unfold rowCl
  rw [List.map_congr_left (g := fun _ => (0 : Int)) (fun d _ => if_neg (Nat.not_lt_zero d)), List.map_const', List.length_range]
theorem rowCl_get (f : Nat → σ) (L : List σ) (nc c d : Nat) : (rowCl f L nc c)[d]? = if d < nc then some (if d < c then ((ix (puts f L c) (f d) : Nat) : Int) else 0) else none := by
  unfold rowCl
  rw [List.getElem?_map]
  by_cases h : d < nc
  · rw [List.getElem?_range h, if_pos h]; rfl
  · rw [if_neg h, List.getElem?_eq_none (by simp; omega)]; rfl
theorem rowCl_set (f : Nat → σ) (L : List σ) (nc c : Nat) (h : c < nc) : (rowCl f L nc c).set c ((ix (puts f L c) (f c) : Nat) : Int) = rowCl f L nc (c + 1) := by
  apply List.ext_getElem?
  intro i
  rw [List.getElem?_set, rowCl_len, rowCl_get, rowCl_get]
  by_cases e : c = i
  · subst e
    rw [if_pos rfl, if_pos h, if_pos h, if_pos (Nat.lt_succ_self c)]
    have : ix (puts f L (c + 1)) (f c) = ix (puts f L c) (f c) := ix_put _ _
    rw [this]
  · rw [if_neg e]
    by_cases hi : i < nc
    · rw [if_pos hi, if_pos hi]
      by_cases e2 : i < c
      · rw [if_pos e2, if_pos (by omega), ix_puts f L c i e2]
      · rw [if_neg e2, if_neg (by omega)]
    · rw [if_neg hi, if_neg hi]
end
theorem is64_set (l : List Int) (i : Nat) (k : Int) : (is64 l).set i (.int .i64 k) = is64 (l.set i k) := by unfold is64; rw [List.map_set]
theorem is64_zero (n : Nat) : is64 (List.replicate n 0) = (madeCells #[.int .i64 0] n).toList := by
  unfold is64
  rw [List.map_replicate]
  simp [madeCells, Nat.mod_one, List.map_const']
end Df
end Go.Proofs.YtipghpljaiemmaaDoor
namespace Go.Proofs.YtipghpljaiemmaaDoor
open Go.RowKit Sets Nf Cls
namespace Df
theorem rgo_lt (of : Nat → Nat) : ∀ c k, rgo of c = some k → ∀ d, d < c → of d < k
  | 0, _, _, d, hd => absurd hd (Nat.not_lt_zero _)
  | c + 1, k, h, d, hd => by
    simp only [rgo] at h
    cases hq : rgo of c with
    | none => rw [hq] at h; cases h
    | some m =>
      have ih := rgo_lt of c m hq
      rw [hq] at h
      simp only at h
      split at h
      · cases h
      · split at h
        · injection h with h
          by_cases e : d = c
          · subst e; omega
          · have := ih d (by omega); omega
        · injection h with h
          by_cases e : d = c
          · subst e; omega
          · have := ih d (by omega); omega
theorem pright_is {of : Nat → Nat} {n : Int} (h : prightB of n = true) : ∃ k : Nat, n = k ∧ k ≤ 256 ∧ ∀ c, c < 256 → of c < k := by
  unfold prightB at h
  cases hq : rgo of 256 with
  | none => rw [hq] at h; cases h
  | some k =>
    rw [hq] at h
    simp only [beq_iff_eq] at h
    exact ⟨k, h.symm, rgo_le of 256 k hq, rgo_lt of 256 k hq⟩
theorem any_snoc {α : Type} (p : α → Bool) (l : List α) (d : α) (j : Nat) (h : j < l.length) : (l.take (j + 1)).any p = ((l.take j).any p || p (l.getD j d)) := by
  rw [List.take_succ_eq_append_getElem h, List.any_append, List.getD_eq_getElem?_getD, List.getElem?_eq_getElem h]; simp
theorem any_hit {α : Type} {p : α → Bool} {l : List α} {d : α} {j : Nat} (h : j < l.length) (hp : p (l.getD j d) = true) : l.any p = true := by
  rw [List.any_eq_true]
  exact ⟨_, getD_mem h, hp⟩
set_option maxHeartbeats 3200000 in
set_option maxRecDepth 100000 in
theorem indexS_any (a : Option Addr) (cap : Nat) (L : List Nat) (of : Nat → Nat) (n : Nat) (w : World) (h : SetsAt w a L) (hl : L.length ≤ 100000) (hn : n ≤ 256) (hof : ∀ c, c < 256 → of c < n) (hr : prightB of n = true) :
    Calls Tryd.prog 99 #[.slice a L.length cap, .func (.func 41) #[.agg (partC of n)] #[]] w fun e w' => (∃ r : Int, e = .returned (.int .i64 r) ∧ decide (0 ≤ r) = L.any (splitsB of n)) ∧ Below w.heap.size w w' := by
  have HM := Lib.hid h
  have HL := Lib.hid hl
  have HSPL := Lib.hid (fun (S : Nat) w => splits_any of n S w hn hof hr)
  clear h hl hn hof hr
  go_enter Tryd.func99, Tryd.ntmps99
  go_wp2_with fail
  go_loopw [8] (fun i wr => ∃ j : Nat, i = .int .i64 j ∧ j ≤ L.length ∧ Hid ((L.take j).any (splitsB of n) = false) ∧ Hid (Below w.heap.size w wr)) (fun i _ => ((L.length : Int) - intOf i).toNat)
  case atStart => exact ⟨0, rfl, Nat.zero_le _, Lib.hid (by simp), Lib.hid (Below.refl _ _)⟩
  case round =>
    obtain ⟨j, rfl, hj, HA, HB⟩ := hrel
    generalize hwr : wr = w2 at *
    clear hwr wr
    by_cases hlt : j < L.length
    · have hdd : decide ((j : Int) < (L.length : Int)) = true := decide_eq_true (by omega)
      have hd2 : decide (j < L.length) = true := decide_eq_true hlt
      have HJ := Lib.hid hlt
      have hjl : (j : Int) < (L.length : Int) := by omega
      have HW1 : Hid (wrap64 ((j : Int) + 1) = ((j + 1 : Nat) : Int)) := Lib.hid (nat_wrap (by have := HL.out; omega))
      obtain ⟨b8, o8, e8, hg8⟩ := (HM.out.kept HB.out) j hlt
      have HG8 := Lib.hid hg8
      subst e8
      have HAN := Lib.hid (any_snoc (splitsB of n) L 0 j hlt)
      have HHI := Lib.hid (@any_hit _ (splitsB of n) L 0 j hlt)
      have HSC := Lib.hid (HSPL.out (L.getD j 0) w2)
      clear hg8 hlt
      cases hsp : splitsB of n (L.getD j 0)
      · rw [hsp] at HSC HAN
        clear hsp HHI
        go_wp2_with (first
          | (refine wpList_load_setm rfl _ rfl b8 (o8 + j * 4) (L.getD j 0) rfl HG8.out ?_)
          | (go_at_call 41; refine HSC.out.mono ?_; rintro e w3 ⟨rfl, hb3⟩; have HB3 := Lib.hid (HB.out.trans (hb3.mono HB.out.size)); clear hb3))
        go_roundw
        case rel => exact ⟨j + 1, by rw [HW1.out], HJ.out, Lib.hid (by rw [HAN.out, HA.out]; rfl), HB3⟩
        case measure => rw [HW1.out]; exact meas9 HJ.out
      · rw [hsp] at HSC
        have HR := Lib.hid (HHI.out hsp)
        clear hsp HHI HAN
        go_wp2_with (first
          | (refine wpList_load_setm rfl _ rfl b8 (o8 + j * 4) (L.getD j 0) rfl HG8.out ?_)
          | (go_at_call 41; refine HSC.out.mono ?_; rintro e w3 ⟨rfl, hb3⟩; have HB3 := Lib.hid (HB.out.trans (hb3.mono HB.out.size)); clear hb3))
        go_ret
        exact ⟨⟨(j : Int), rfl, by rw [HR.out]; simp⟩, HB3.out⟩
    · have hdd : decide ((j : Int) < (L.length : Int)) = false := decide_eq_false (by omega)
      have hd2 : decide (j < L.length) = false := decide_eq_false hlt
      have HR : Hid (L.any (splitsB of n) = false) := Lib.hid (by
        have := HA.out
        rwa [List.take_of_length_le (by omega)] at this)
      clear hlt
      go_wp2_with fail
      go_ret
      exact ⟨⟨-1, rfl, by rw [HR.out]; rfl⟩, HB.out⟩
set_option maxHeartbeats 3200000 in
set_option maxRecDepth 100000 in
theorem containsS_any (a : Option Addr) (cap : Nat) (L : List Nat) (of : Nat → Nat) (n : Nat) (w : World) (h : SetsAt w a L) (hl : L.length ≤ 100000) (hn : n ≤ 256) (hof : ∀ c, c < 256 → of c < n) (hr : prightB of n = true) :
    Calls Tryd.prog 77 #[.slice a L.length cap, .func (.func 41) #[.agg (partC of n)] #[]] w fun e w' => e = .returned (.bool (L.any (splitsB of n))) ∧ Below w.heap.size w w' := by
  have HI := Lib.hid (indexS_any a cap L of n w h hl hn hof hr)
  clear h hl hn hof hr
  go_enter Tryd.func77, Tryd.ntmps77
  go_wp2_with (go_at_call 99; refine HI.out.mono ?_; rintro e w3 ⟨⟨r, rfl, hr⟩, hb3⟩; have HB3 := Lib.hid hb3; have HR := Lib.hid hr; clear hb3 hr)
  go_ret
  exact ⟨by rw [← HR.out]; rfl, HB3.out⟩
set_option maxHeartbeats 3200000 in
set_option maxRecDepth 100000 in
theorem fine_any (a : Option Addr) (cap : Nat) (L : List Nat) (of : Nat → Nat) (n : Int) (w : World) (h : SetsAt w a L) (hl : L.length ≤ 100000) (hof : ∀ c, c < 256 → of c < 256) :
    Calls Tryd.prog 35 #[.agg (partC of n), .slice a L.length cap] w fun e w' => e = .returned (.bool (prightB of n && !(L.any (splitsB of n.toNat)))) ∧ Below w.heap.size w w' := by
  have HM := Lib.hid h
  have HL := Lib.hid hl
  have hal := (Below.refl w.heap.size w).alloc (Nat.le_refl _) (.cells (partC of n) 30)
  have HP1 := Lib.hid (PartAt.new w of n)
  have HB1 := Lib.hid hal
  have HS1 : Hid (w.heap.size ≤ (w.alloc (.cells (partC of n) 30)).heap.size) := Lib.hid hal.size
  have HPR := Lib.hid (pright_any of n (w.alloc (.cells (partC of n) 30)) hof)
  have hmf : ∀ (fn : Fn) (first cap : Array Value) (w : World), (Instr.makeFunc fn first cap).run Tryd.prog w = .ok (.func fn first cap) w := fun _ _ _ _ => rfl
  clear h hl hof hal
  cases hpr : prightB of n
  · rw [hpr] at HPR
    clear hpr
    go_enter Tryd.func35, Tryd.ntmps35
    go_wp2_with (first
      | (refine wpList_load_row rfl 30 _ rfl w.heap.size rfl 30 (partC of n) (0, 0) _ HP1.out Tryd.underlying30 rfl (sizeP of n) ?_)
      | (go_at_call 13; refine HPR.out.mono ?_; rintro e w3 ⟨rfl, hb3⟩; have HB3 := Lib.hid (HB1.out.trans (hb3.mono HS1.out)); clear hb3))
    go_ret
    exact ⟨rfl, HB3.out⟩
  · rw [hpr] at HPR
    obtain ⟨k, rfl, hk, hofk⟩ := pright_is hpr
    have HCF := Lib.hid (fun w2 (hb : Below w.heap.size w w2) => containsS_any a cap L of k w2 (HM.out.kept hb) HL.out hk hofk hpr)
    clear hpr hk hofk
    go_enter Tryd.func35, Tryd.ntmps35
    go_wp2_with (first
      | (refine wpList_load_row rfl 30 _ rfl w.heap.size rfl 30 (partC of k) (0, 0) _ HP1.out Tryd.underlying30 rfl (sizeP of k) ?_)
      | (go_at_call 13; refine HPR.out.mono ?_; rintro e w3 ⟨rfl, hb3⟩; have HB3 := Lib.hid (HB1.out.trans (hb3.mono HS1.out)); have HP3 := Lib.hid (HP1.out.kept hb3 HP1.out.lt); clear hb3)
      )
    refine wp_load_row 30 _ rfl w.heap.size rfl 30 (partC of k) (0, 0) _ HP3.out Tryd.underlying30 rfl (sizeP of k) ?_
    go_wp2_with (go_at_call 77; refine (HCF.out _ HB3.out).mono ?_; rintro e w4 ⟨rfl, hb4⟩; have HB4 := Lib.hid (HB3.out.trans (hb4.mono HB3.out.size)); clear hb4)
    go_ret
    exact ⟨by simp, HB4.out⟩
end Df
end Go.Proofs.YtipghpljaiemmaaDoor
