/- Several texts in one. -/
import Derived.Test.YtmjjkamndlefmaaDoorPq21
import Derived.Test.YtmjjkamndlefmaaDoorPq23
import Derived.Test.YtmjjkamndlefmaaDoorPq14
import Derived.Test.YtmjjkamndlefmaaDoorPq10
namespace Go.Proofs.YtmjjkamndlefmaaDoor
open Go.RowKit Sets Nf
namespace Nf
def Lies (w : World) (a : Option Addr) (xs : List Value) : Prop := (a = none → xs = []) ∧ ∀ ad, a = some ad → ∀ j u, xs[j]? = some u → w.cell? (ad.add j) = some u
theorem Lies.kept {w w' : World} {a : Option Addr} {xs : List Value} (h : Lies w a xs) (hb : Below w.heap.size w w') : Lies w' a xs := ⟨h.1, fun ad e j u hj => by
  have hc := h.2 ad e j u hj
  exact (hb.cell (World.block_lt_of_cell? _ _ hc)).trans hc⟩
theorem NumsIn.lies {w : World} {a : Option Addr} {l : List Int} (h : NumsIn w a l) : Lies w a (is64 l) := by
  refine ⟨fun e => ?_, fun ad e j u hj => ?_⟩
  · cases l with
    | nil => rfl
    | cons x l => obtain ⟨b, o, e2, -⟩ := h 0 (by simp); rw [e] at e2; cases e2
  · have hjl : j < l.length := by have := (List.getElem?_eq_some_iff.1 hj).1; rwa [is64_length] at this
    obtain ⟨b, o, e2, hc⟩ := h j hjl
    rw [e] at e2
    injection e2 with e2
    subst e2
    rw [Addr.add_lit, hc, ← hj]
    unfold is64
    rw [List.getElem?_map, List.getElem?_eq_getElem hjl, List.getD_eq_getElem?_getD, List.getElem?_eq_getElem hjl]; rfl
theorem bL_length (l : List Bool) : (bL l).length = l.length := List.length_map _
theorem spL_length (L : List (Nat × Nat)) : (spL L).length = L.length * 5 := by
  induction L with
  | nil => rfl
  | cons s L ih => unfold spL at *; rw [List.flatMap_cons, List.length_append, ih, sp5_len, List.length_cons]; omega
theorem BoolsIn.lies {w : World} {a : Option Addr} {l : List Bool} (h : BoolsIn w a l) : Lies w a (bL l) := by
  refine ⟨fun e => ?_, fun ad e j u hj => ?_⟩
  · cases l with
    | nil => rfl
    | cons x l => obtain ⟨b, o, e2, -⟩ := h 0 (by simp); rw [e] at e2; cases e2
  · have hjl : j < l.length := by have := (List.getElem?_eq_some_iff.1 hj).1; rwa [bL_length] at this
    obtain ⟨b, o, e2, hc⟩ := h j hjl
    rw [e] at e2
    injection e2 with e2
    subst e2
    rw [Addr.add_lit, hc, ← hj, bL_get _ _ hjl]
theorem SpotsIn.lies {w : World} {a : Option Addr} {l : List (Nat × Nat)} (h : SpotsIn w a l) : Lies w a (spL l) := by
  refine ⟨fun e => ?_, fun ad e j u hj => ?_⟩
  · cases l with
    | nil => rfl
    | cons x l => obtain ⟨b, o, e2, -⟩ := h 0 (by simp); rw [e] at e2; cases e2
  · have hjl : j < l.length * 5 := by have := (List.getElem?_eq_some_iff.1 hj).1; rwa [spL_length] at this
    have hi : j / 5 < l.length := by omega
    obtain ⟨b, o, e2, hc⟩ := h (j / 5) hi
    rw [e] at e2
    injection e2 with e2
    subst e2
    have hg := spL_get l (j / 5) hi (j % 5) (by omega)
    rw [show j / 5 * 5 + j % 5 = j from by omega, hj] at hg
    have := hc (j % 5) u hg.symm
    rw [Addr.add_lit, show o + j = o + j / 5 * 5 + j % 5 from by omega]
    exact this
theorem is64_one (l : List Int) : ∀ u ∈ is64 l, u.oneCell' = true := fun u hu => by
  obtain ⟨x, -, rfl⟩ := List.mem_map.1 hu; rfl
theorem bL_one (l : List Bool) : ∀ u ∈ bL l, u.oneCell' = true := fun u hu => by
  obtain ⟨x, -, rfl⟩ := List.mem_map.1 hu; rfl
theorem spL_one (l : List (Nat × Nat)) : ∀ u ∈ spL l, u.oneCell' = true := fun u hu => by
  unfold spL at hu
  obtain ⟨x, -, h⟩ := List.mem_flatMap.1 hu
  simp [sp5] at h
  rcases h with rfl | rfl | rfl | rfl | rfl <;> rfl
theorem own_newN (w : World) : (w.alloc (.cells #[] 3)).ownsRow w.heap.size 3 1 (.slice (some ⟨w.heap.size, 0, none⟩) 0 0) 0 ([] : List Value) :=
  World.ownsRow_made w #[] 0 (Nat.le_refl _) (by simp) (by simp)
set_option maxHeartbeats 3200000 in
set_option maxRecDepth 100000 in
theorem cloneN_any (a : Option Addr) (cap : Nat) (l : List Int) (w : World) (h : NumsIn w a l) (hl : l.length ≤ 1000) :
    Calls Tryd.prog 47 #[.slice a l.length cap] w fun e w' => ∃ v, e = .returned v ∧ w'.ownsRow w.heap.size 3 1 v l.length (is64 l) ∧ Below w.heap.size w w' := by
  have hs := h.lies
  cases a with
  | none =>
    obtain rfl : l = [] := by
      cases l with
      | nil => rfl
      | cons x l => obtain ⟨b, o, e2, -⟩ := h 0 (by simp); cases e2
    clear h hs hl
    have hnil : ∀ w : World, (binOp .eql 41 (.slice none 0 cap) (.slice none 0 0)).run Tryd.prog w = .ok (.bool true) w := fun w => by kernel_rfl
    go_enter Tryd.func47, Tryd.ntmps47
    go_wp2_with fail
    go_ret
    exact ⟨_, rfl, World.ownsRow_nil _ _ _ _, Below.refl _ _⟩
  | some ad =>
    have HC := Lib.hid (hs.2 ad rfl)
    have hal := (Below.refl w.heap.size w).alloc (Nat.le_refl _) (.cells #[] 3)
    have HC2 : Hid (∀ j u, (is64 l)[j]? = some u → (w.alloc (.cells #[] 3)).cell? (ad.add j) = some u) := Lib.hid (fun j u hj => by
      have h5 := HC.out j u hj
      exact (hal.cell (World.block_lt_of_cell? _ _ h5)).trans h5)
    have HB := Lib.hid hal
    have HN := Lib.hid (own_newN w)
    have HL := Lib.hid hl
    have HS : Hid ((w.alloc (.cells #[] 3)).heap.size = w.heap.size + 1) := Lib.hid (by simp)
    clear hal h hs hl HC
    have hnil : ∀ w : World, (binOp .eql 41 (.slice (some ad) l.length cap) (.slice none 0 0)).run Tryd.prog w = .ok (.bool false) w := fun w => by kernel_rfl
    obtain ⟨i0, hi, hz0, hz1, hz2⟩ := info_parts infoInt
    have HI := Lib.hid hi
    have HZ := Lib.hid (And.intro hz0 (And.intro hz1 hz2))
    clear hi hz0 hz1 hz2
    go_enter Tryd.func47, Tryd.ntmps47
    go_wp2_with (refine wpList_append_own_at _ rfl _ _ 41 rfl w.heap.size 3 i0 _ 1 8 Tryd.underlying41 HI.out HZ.out.1 HZ.out.2.1 HZ.out.2.2 rfl (by decide) (.slice (some ⟨w.heap.size, 0, none⟩) 0 0) 0 [] rfl HN.out ad l.length cap (is64 l) rfl (by rw [is64_length, Nat.mul_one]) HC2.out (is64_one l) (by have := HL.out; unfold maxLen; omega) (by have := HL.out; omega) (by have := HS.out; omega) ?_; intro v' w2 ho hg2 hz3 hz4; clear hz3 hz4; have HO := Lib.hid ho; have HG2 := Lib.hid hg2; clear ho hg2)
    go_ret
    refine ⟨v', rfl, ?_, HB.out.grown HG2.out (by have := HS.out; omega) (fun j hj => (HN.out.lt j hj).1)⟩
    have := HO.out
    rwa [Nat.zero_add, List.nil_append] at this
theorem own_newS (w : World) : (w.alloc (.cells #[] 57)).ownsRow w.heap.size 57 5 (.slice (some ⟨w.heap.size, 0, none⟩) 0 0) 0 ([] : List Value) :=
  World.ownsRow_made w #[] 0 (Nat.le_refl _) (by simp) (by simp)
theorem own_newB (w : World) : (w.alloc (.cells #[] 4)).ownsRow w.heap.size 4 1 (.slice (some ⟨w.heap.size, 0, none⟩) 0 0) 0 ([] : List Value) :=
  World.ownsRow_made w #[] 0 (Nat.le_refl _) (by simp) (by simp)
end Nf
end Go.Proofs.YtmjjkamndlefmaaDoor
namespace Go.Proofs.YtmjjkamndlefmaaDoor
open Go.RowKit Sets Nf
namespace Df
/-- The cells of an automaton. -/
def dfC (of : Nat → Nat) (n : Int) (nv fv : Value) : Array Value := (ofL of ++ [Value.int .i64 n, nv, fv]).toArray
def nilS : Value := .slice none 0 0
theorem dfC_size (of : Nat → Nat) (n : Int) (nv fv : Value) : (dfC of n nv fv).size = 259 := by simp [dfC, ofL_length]
theorem dfC_get (of : Nat → Nat) (n : Int) (nv fv : Value) (c : Nat) (h : c < 256) : (dfC of n nv fv)[c]? = some (.int .u8 (of c)) := by
  unfold dfC
  rw [List.getElem?_toArray, List.getElem?_append_left (by rw [ofL_length]; exact h), ofL_get of c h]
theorem dfC_hi (of : Nat → Nat) (n : Int) (nv fv : Value) (c : Nat) : (dfC of n nv fv)[256 + c]? = [Value.int .i64 n, nv, fv][c]? := by
  unfold dfC
  rw [List.getElem?_toArray, List.getElem?_append_right (by rw [ofL_length]; omega), ofL_length, show 256 + c - 256 = c from by omega]
theorem dfC_n (of : Nat → Nat) (n : Int) (nv fv : Value) : (dfC of n nv fv)[256]? = some (.int .i64 n) := dfC_hi of n nv fv 0
theorem dfC_nv (of : Nat → Nat) (n : Int) (nv fv : Value) : (dfC of n nv fv)[257]? = some nv := dfC_hi of n nv fv 1
theorem dfC_fv (of : Nat → Nat) (n : Int) (nv fv : Value) : (dfC of n nv fv)[258]? = some fv := dfC_hi of n nv fv 2
theorem dfC_setN (of : Nat → Nat) (n : Int) (nv fv v : Value) : (dfC of n nv fv).setIfInBounds 257 v = dfC of n v fv := by
  unfold dfC
  rw [List.setIfInBounds_toArray, List.set_append_right _ _ (by rw [ofL_length]; omega), ofL_length]
  rfl
theorem dfC_setF (of : Nat → Nat) (n : Int) (nv fv v : Value) : (dfC of n nv fv).setIfInBounds 258 v = dfC of n nv v := by
  unfold dfC
  rw [List.setIfInBounds_toArray, List.set_append_right _ _ (by rw [ofL_length]; omega), ofL_length]
  rfl
theorem sizeDf (of : Nat → Nat) (n : Int) (nv fv : Value) : (Tryd.prog.info? 28).map (·.size) = some (dfC of n nv fv).size := by
  rw [dfC_size]
  kernel_rfl
theorem ofL_zero : ofL (fun _ => 0) = List.replicate 256 (Value.int .u8 0) := by unfold ofL; rw [List.map_const', List.length_range]; rfl
set_option maxRecDepth 100000 in
theorem zeroD (w : World) : (zeroValue 28).run Tryd.prog w = .ok (.agg (dfC (fun _ => 0) 0 nilS nilS)) w := by
  unfold dfC
  rw [ofL_zero]
  kernel_rfl
set_option maxRecDepth 100000 in
theorem buildD (of : Nat → Nat) (n : Int) (w : World) : (Instr.build 28 #[(0, .agg (partC of n))]).run Tryd.prog w = .ok (.agg (dfC of n nilS nilS)) w := by
  unfold dfC partC ofL
  kernel_rfl
set_option maxRecDepth 100000 in
theorem buildZ (w : World) : (Instr.build 28 #[]).run Tryd.prog w = .ok (.agg (dfC (fun _ => 0) 0 nilS nilS)) w := by
  unfold dfC
  rw [ofL_zero]
  kernel_rfl
theorem oneDf (of : Nat → Nat) (n : Int) (a b : Option Addr) (k l c d : Nat) : (dfC of n (.slice a k c) (.slice b l d)).all (·.oneCell') = true := by
  rw [Array.all_eq_true_iff_forall_mem]
  intro v hv
  simp [dfC, ofL] at hv
  rcases hv with ⟨c, -, rfl⟩ | rfl | rfl | rfl <;> rfl
theorem partC_mid (of : Nat → Nat) (n : Int) (nv fv : Value) (w : World) (B : Nat) (h : w.heap[B]? = some (.cells (dfC of n nv fv) 28 (0, 0))) : w.rangeAt B 0 (partC of n).toList := by
  intro j v hj
  have hl := (List.getElem?_eq_some_iff.1 hj).1
  have hl2 : j < 257 := by rw [Array.length_toList, partC_size] at hl; exact hl
  rw [Nat.zero_add, cell_of_row w B j _ _ _ h]
  rw [Array.getElem?_toList] at hj
  rw [← hj]
  by_cases e : j < 256
  · rw [dfC_get _ _ _ _ _ e, partC_get _ _ _ e]
  · have : j = 256 := by omega
    subst this
    rw [dfC_n, partC_n]
theorem wpList_store_df {ops : Array Oper} {rest : List Oper} {o : Oper} {a : Act} {w : World} {Q : Exit → Act → World → Prop} (hgd : o.guard = none) (x y : Operand) (ho : o.op = .store 28 x y)
    (g : Nat) (of : Nat → Nat) (n : Int) (a1 b1 : Option Addr) (k l c d : Nat) (old : Array Value) (hx : a.eval x = .pointer (some ⟨g, 0, none⟩)) (hy : a.eval y = .agg (dfC of n (.slice a1 k c) (.slice b1 l d))) (hc : w.heap[g]? = some (.cells old 28 (0, 0))) (hs : old.size = 259)
    (h : wpList Tryd.prog ops Q rest (a.put o.dst undef) (w.setRow g (dfC of n (.slice a1 k c) (.slice b1 l d)))) : wpList Tryd.prog ops Q (o :: rest) a w :=
  wpList_store_row hgd 28 x y ho g _ hx hy 28 old hc (sizeDf of n _ _) (by rw [dfC_size, hs]) (oneDf of n _ _ _ _ _ _) h
theorem wpList_build_df {ops : Array Oper} {rest : List Oper} {o : Oper} {a : Act} {w : World} {Q : Exit → Act → World → Prop} (hgd : o.guard = none) (x : Operand) (ho : o.op = .build 28 #[(0, x)]) (of : Nat → Nat) (n : Int) (hx : a.eval x = .agg (partC of n))
    (h : wpList Tryd.prog ops Q rest (a.put o.dst (.agg (dfC of n nilS nilS))) w) : wpList Tryd.prog ops Q (o :: rest) a w := by
  refine wpList_plain hgd fun K hK => ?_
  have hrun := buildD of n w
  unfold Oper.wp execOp
  simp only [ho, List.map_toArray, List.map_cons, List.map_nil, hx, Sem.run_bind, Sem.run_pure, hrun, Result.andThen_ok]
  exact hK _ _ h
theorem wpList_build_z {ops : Array Oper} {rest : List Oper} {o : Oper} {a : Act} {w : World} {Q : Exit → Act → World → Prop} (hgd : o.guard = none) (ho : o.op = .build 28 #[])
    (h : wpList Tryd.prog ops Q rest (a.put o.dst (.agg (dfC (fun _ => 0) 0 nilS nilS))) w) : wpList Tryd.prog ops Q (o :: rest) a w := by
  refine wpList_plain hgd fun K hK => ?_
  have hrun := buildZ w
  unfold Oper.wp execOp
  simp only [ho, List.map_toArray, List.map_nil, Sem.run_bind, Sem.run_pure, hrun, Result.andThen_ok]
  exact hK _ _ h
/-- The next states R in slices of their own, from B on; the final ones F too. -/
structure OwnD (B : Nat) (w : World) (R : List (List Int)) (F : List Bool) (nv fv : Value) (vs : List Value) : Prop where
  nx : w.ownsRow B 41 1 nv R.length vs
  len : vs.length = R.length
  each : ∀ i, i < R.length → OwnN B w (vs.getD i nilS) (R.getD i [])
  fl : w.ownsRow B 4 1 fv F.length (bL F)
theorem OwnD.nil (B : Nat) (w : World) : OwnD B w [] [] nilS nilS [] := ⟨World.ownsRow_nil _ _ _ _, rfl, fun _ hi => absurd hi (Nat.not_lt_zero _), World.ownsRow_nil _ _ _ _⟩
theorem OwnD.kept {B : Nat} {w w' : World} {R : List (List Int)} {F : List Bool} {nv fv : Value} {vs : List Value} (h : OwnD B w R F nv fv vs)
    (hk : ∀ (k : Nat) (cs : Array Value) (t : TypeId), w.heap[k]? = some (Obj.cells cs t (0, 0)) → t = 41 ∨ t = 3 ∨ t = 4 → w'.heap[k]? = w.heap[k]?) : OwnD B w' R F nv fv vs := by
  refine ⟨own_kept h.nx fun g hg => ?_, h.len, fun i hi => own_kept (h.each i hi) fun g hg => ?_, own_kept h.fl fun g hg => ?_⟩
  · obtain ⟨cs, hc⟩ := own_type h.nx hg; exact hk g cs _ hc (.inl rfl)
  · obtain ⟨cs, hc⟩ := own_type (h.each i hi) hg; exact hk g cs _ hc (.inr (.inl rfl))
  · obtain ⟨cs, hc⟩ := own_type h.fl hg; exact hk g cs _ hc (.inr (.inr rfl))
theorem OwnD.stay {B : Nat} {w w' : World} {R : List (List Int)} {F : List Bool} {nv fv : Value} {vs : List Value} (h : OwnD B w R F nv fv vs) (hb : Below w.heap.size w w') : OwnD B w' R F nv fv vs :=
  h.kept fun k _ _ hc _ => hb.block k (Array.getElem?_eq_some_iff.1 hc).1
/-- All below B stays, but for the purse's block. -/
structure BelP (p : Option (Nat × Nat)) (B : Nat) (w w' : World) : Prop where
  os : w'.os = w.os
  tape : w'.tape = w.tape
  output : w'.output = w.output
  size : w.heap.size ≤ w'.heap.size
  block : ∀ k, k < B → (∀ q, p = some q → q.1 ≠ k) → w'.heap[k]? = w.heap[k]?
theorem BelP.refl (p : Option (Nat × Nat)) (B : Nat) (w : World) : BelP p B w w := ⟨rfl, rfl, rfl, Nat.le_refl _, fun _ _ _ => rfl⟩
theorem BelP.trans {p : Option (Nat × Nat)} {B : Nat} {w w1 w2 : World} (h : BelP p B w w1) (k : BelP p B w1 w2) : BelP p B w w2 :=
  ⟨k.os.trans h.os, k.tape.trans h.tape, k.output.trans h.output, Nat.le_trans h.size k.size, fun i hi hn => (k.block i hi hn).trans (h.block i hi hn)⟩
theorem BelP.of_below {p : Option (Nat × Nat)} {B : Nat} {w w' : World} (h : Below B w w') : BelP p B w w' := ⟨h.os, h.tape, h.output, h.size, fun k hk _ => h.block k hk⟩
theorem BelP.below {B : Nat} {w w' : World} (h : BelP none B w w') : Below B w w' := ⟨h.os, h.tape, h.output, h.size, fun k hk => h.block k hk (fun q hq => by cases hq)⟩
/-- A row that grows class by class. -/
def rowCl {σ : Type} [DecidableEq σ] (f : Nat → σ) (L : List σ) (nc c : Nat) : List Int := (List.range nc).map fun d => if d < c then ((ix (puts f L c) (f d) : Nat) : Int) else 0
section
variable {σ : Type} [DecidableEq σ]
theorem rowCl_len (f : Nat → σ) (L : List σ) (nc c : Nat) : (rowCl f L nc c).length = nc := by unfold rowCl; simp
theorem rowCl_all (f : Nat → σ) (L : List σ) (nc : Nat) : rowCl f L nc nc = rowTo f L nc := by
  unfold rowCl rowTo
  exact List.map_congr_left fun d hd => if_pos (List.mem_range.1 hd)
theorem rowCl_zero (f : Nat → σ) (L : List σ) (nc : Nat) : rowCl f L nc 0 = List.replicate nc 0 := by
  unfold rowCl
  rw [List.map_congr_left (g := fun _ => (0 : Int)) (fun d _ => if_neg (Nat.not_lt_zero d)), List.map_const', List.length_range]
theorem rowCl_get (f : Nat → σ) (L : List σ) (nc c d : Nat) : (rowCl f L nc c)[d]? = if d < nc then some (if d < c then ((ix (puts f L c) (f d) : Nat) : Int) else 0) else none := by
  unfold rowCl
  rw [List.getElem?_map]
  by_cases h : d < nc
  · rw [List.getElem?_range h, if_pos h]; rfl
  · rw [if_neg h, List.getElem?_eq_none (by simp; omega)]; rfl
theorem rowCl_set (f : Nat → σ) (L : List σ) (nc c : Nat) (h : c < nc) : (rowCl f L nc c).set c ((ix (puts f L c) (f c) : Nat) : Int) = rowCl f L nc (c + 1) := by
  apply List.ext_getElem?
  intro i
  rw [List.getElem?_set, rowCl_len, rowCl_get, rowCl_get]
  by_cases e : c = i
  · subst e
    rw [if_pos rfl, if_pos h, if_pos h, if_pos (Nat.lt_succ_self c)]
    have : ix (puts f L (c + 1)) (f c) = ix (puts f L c) (f c) := ix_put _ _
    rw [this]
  · rw [if_neg e]
    by_cases hi : i < nc
    · rw [if_pos hi, if_pos hi]
      by_cases e2 : i < c
      · rw [if_pos e2, if_pos (by omega), ix_puts f L c i e2]
      · rw [if_neg e2, if_neg (by omega)]
    · rw [if_neg hi, if_neg hi]
end
theorem is64_set (l : List Int) (i : Nat) (k : Int) : (is64 l).set i (.int .i64 k) = is64 (l.set i k) := by unfold is64; rw [List.map_set]
theorem is64_zero (n : Nat) : is64 (List.replicate n 0) = (madeCells #[.int .i64 0] n).toList := by
  unfold is64
  rw [List.map_replicate]
  simp [madeCells, Nat.mod_one, List.map_const']
end Df
end Go.Proofs.YtmjjkamndlefmaaDoor
namespace Go.Proofs.YtmjjkamndlefmaaDoor
open Go.RowKit Sets Nf Cls
namespace Df
theorem rgo_lt (of : Nat → Nat) : ∀ c k, rgo of c = some k → ∀ d, d < c → of d < k
  | 0, _, _, d, hd => absurd hd (Nat.not_lt_zero _)
  | c + 1, k, h, d, hd => by
    simp only [rgo] at h
    cases hq : rgo of c with
    | none => rw [hq] at h; cases h
    | some m =>
      have ih := rgo_lt of c m hq
      rw [hq] at h
      simp only at h
      split at h
      · cases h
      · split at h
        · injection h with h
          by_cases e : d = c
          · subst e; omega
          · have := ih d (by omega); omega
        · injection h with h
          by_cases e : d = c
          · subst e; omega
          · have := ih d (by omega); omega
theorem pright_is {of : Nat → Nat} {n : Int} (h : prightB of n = true) : ∃ k : Nat, n = k ∧ k ≤ 256 ∧ ∀ c, c < 256 → of c < k := by
  unfold prightB at h
  cases hq : rgo of 256 with
  | none => rw [hq] at h; cases h
  | some k =>
    rw [hq] at h
    simp only [beq_iff_eq] at h
    exact ⟨k, h.symm, rgo_le of 256 k hq, rgo_lt of 256 k hq⟩
theorem any_snoc {α : Type} (p : α → Bool) (l : List α) (d : α) (j : Nat) (h : j < l.length) : (l.take (j + 1)).any p = ((l.take j).any p || p (l.getD j d)) := by
  rw [List.take_succ_eq_append_getElem h, List.any_append, List.getD_eq_getElem?_getD, List.getElem?_eq_getElem h]; simp
theorem any_hit {α : Type} {p : α → Bool} {l : List α} {d : α} {j : Nat} (h : j < l.length) (hp : p (l.getD j d) = true) : l.any p = true := by
  rw [List.any_eq_true]
  exact ⟨_, getD_mem h, hp⟩
set_option maxHeartbeats 3200000 in
set_option maxRecDepth 100000 in
theorem indexS_any (a : Option Addr) (cap : Nat) (L : List Nat) (of : Nat → Nat) (n : Nat) (w : World) (h : SetsAt w a L) (hl : L.length ≤ 100000) (hn : n ≤ 256) (hof : ∀ c, c < 256 → of c < n) (hr : prightB of n = true) :
    Calls Tryd.prog 75 #[.slice a L.length cap, .func (.func 62) #[.agg (partC of n)] #[]] w fun e w' => (∃ r : Int, e = .returned (.int .i64 r) ∧ decide (0 ≤ r) = L.any (splitsB of n)) ∧ Below w.heap.size w w' := by
  have HM := Lib.hid h
  have HL := Lib.hid hl
  have HSPL := Lib.hid (fun (S : Nat) w => splits_any of n S w hn hof hr)
  clear h hl hn hof hr
  go_enter Tryd.func75, Tryd.ntmps75
  go_wp2_with fail
  go_loopw [8] (fun i wr => ∃ j : Nat, i = .int .i64 j ∧ j ≤ L.length ∧ Hid ((L.take j).any (splitsB of n) = false) ∧ Hid (Below w.heap.size w wr)) (fun i _ => ((L.length : Int) - intOf i).toNat)
  case atStart => exact ⟨0, rfl, Nat.zero_le _, Lib.hid (by simp), Lib.hid (Below.refl _ _)⟩
  case round =>
    obtain ⟨j, rfl, hj, HA, HB⟩ := hrel
    generalize hwr : wr = w2 at *
    clear hwr wr
    by_cases hlt : j < L.length
    · have hdd : decide ((j : Int) < (L.length : Int)) = true := decide_eq_true (by omega)
      have hd2 : decide (j < L.length) = true := decide_eq_true hlt
      have HJ := Lib.hid hlt
      have hjl : (j : Int) < (L.length : Int) := by omega
      have HW1 : Hid (wrap64 ((j : Int) + 1) = ((j + 1 : Nat) : Int)) := Lib.hid (nat_wrap (by have := HL.out; omega))
      obtain ⟨b8, o8, e8, hg8⟩ := (HM.out.kept HB.out) j hlt
      have HG8 := Lib.hid hg8
      subst e8
      have HAN := Lib.hid (any_snoc (splitsB of n) L 0 j hlt)
      have HHI := Lib.hid (@any_hit _ (splitsB of n) L 0 j hlt)
      have HSC := Lib.hid (HSPL.out (L.getD j 0) w2)
      clear hg8 hlt
      cases hsp : splitsB of n (L.getD j 0)
      · rw [hsp] at HSC HAN
        clear hsp HHI
        go_wp2_with (first
          | (refine wpList_load_setm rfl _ rfl b8 (o8 + j * 4) (L.getD j 0) rfl HG8.out ?_)
          | (go_at_call 62; refine HSC.out.mono ?_; rintro e w3 ⟨rfl, hb3⟩; have HB3 := Lib.hid (HB.out.trans (hb3.mono HB.out.size)); clear hb3))
        go_roundw
        case rel => exact ⟨j + 1, by rw [HW1.out], HJ.out, Lib.hid (by rw [HAN.out, HA.out]; rfl), HB3⟩
        case measure => rw [HW1.out]; exact meas9 HJ.out
      · rw [hsp] at HSC
        have HR := Lib.hid (HHI.out hsp)
        clear hsp HHI HAN
        go_wp2_with (first
          | (refine wpList_load_setm rfl _ rfl b8 (o8 + j * 4) (L.getD j 0) rfl HG8.out ?_)
          | (go_at_call 62; refine HSC.out.mono ?_; rintro e w3 ⟨rfl, hb3⟩; have HB3 := Lib.hid (HB.out.trans (hb3.mono HB.out.size)); clear hb3))
        go_ret
        exact ⟨⟨(j : Int), rfl, by rw [HR.out]; simp⟩, HB3.out⟩
    · have hdd : decide ((j : Int) < (L.length : Int)) = false := decide_eq_false (by omega)
      have hd2 : decide (j < L.length) = false := decide_eq_false hlt
      have HR : Hid (L.any (splitsB of n) = false) := Lib.hid (by
        have := HA.out
        rwa [List.take_of_length_le (by omega)] at this)
      clear hlt
      go_wp2_with fail
      go_ret
      exact ⟨⟨-1, rfl, by rw [HR.out]; rfl⟩, HB.out⟩
set_option maxHeartbeats 3200000 in
set_option maxRecDepth 100000 in
theorem containsS_any (a : Option Addr) (cap : Nat) (L : List Nat) (of : Nat → Nat) (n : Nat) (w : World) (h : SetsAt w a L) (hl : L.length ≤ 100000) (hn : n ≤ 256) (hof : ∀ c, c < 256 → of c < n) (hr : prightB of n = true) :
    Calls Tryd.prog 61 #[.slice a L.length cap, .func (.func 62) #[.agg (partC of n)] #[]] w fun e w' => e = .returned (.bool (L.any (splitsB of n))) ∧ Below w.heap.size w w' := by
  have HI := Lib.hid (indexS_any a cap L of n w h hl hn hof hr)
  clear h hl hn hof hr
  go_enter Tryd.func61, Tryd.ntmps61
  go_wp2_with (go_at_call 75; refine HI.out.mono ?_; rintro e w3 ⟨⟨r, rfl, hr⟩, hb3⟩; have HB3 := Lib.hid hb3; have HR := Lib.hid hr; clear hb3 hr)
  go_ret
  exact ⟨by rw [← HR.out]; rfl, HB3.out⟩
set_option maxHeartbeats 3200000 in
set_option maxRecDepth 100000 in
theorem fine_any (a : Option Addr) (cap : Nat) (L : List Nat) (of : Nat → Nat) (n : Int) (w : World) (h : SetsAt w a L) (hl : L.length ≤ 100000) (hof : ∀ c, c < 256 → of c < 256) :
    Calls Tryd.prog 38 #[.agg (partC of n), .slice a L.length cap] w fun e w' => e = .returned (.bool (prightB of n && !(L.any (splitsB of n.toNat)))) ∧ Below w.heap.size w w' := by
  have HM := Lib.hid h
  have HL := Lib.hid hl
  have hal := (Below.refl w.heap.size w).alloc (Nat.le_refl _) (.cells (partC of n) 24)
  have HP1 := Lib.hid (PartAt.new w of n)
  have HB1 := Lib.hid hal
  have HS1 : Hid (w.heap.size ≤ (w.alloc (.cells (partC of n) 24)).heap.size) := Lib.hid hal.size
  have HPR := Lib.hid (pright_any of n (w.alloc (.cells (partC of n) 24)) hof)
  have hmf : ∀ (fn : Fn) (first cap : Array Value) (w : World), (Instr.makeFunc fn first cap).run Tryd.prog w = .ok (.func fn first cap) w := fun _ _ _ _ => rfl
  clear h hl hof hal
  cases hpr : prightB of n
  · rw [hpr] at HPR
    clear hpr
    go_enter Tryd.func38, Tryd.ntmps38
    go_wp2_with (first
      | (refine wpList_load_row rfl 24 _ rfl w.heap.size rfl 24 (partC of n) (0, 0) _ HP1.out Tryd.underlying24 rfl (sizeP of n) ?_)
      | (go_at_call 32; refine HPR.out.mono ?_; rintro e w3 ⟨rfl, hb3⟩; have HB3 := Lib.hid (HB1.out.trans (hb3.mono HS1.out)); clear hb3))
    go_ret
    exact ⟨rfl, HB3.out⟩
  · rw [hpr] at HPR
    obtain ⟨k, rfl, hk, hofk⟩ := pright_is hpr
    have HCF := Lib.hid (fun w2 (hb : Below w.heap.size w w2) => containsS_any a cap L of k w2 (HM.out.kept hb) HL.out hk hofk hpr)
    clear hpr hk hofk
    go_enter Tryd.func38, Tryd.ntmps38
    go_wp2_with (first
      | (refine wpList_load_row rfl 24 _ rfl w.heap.size rfl 24 (partC of k) (0, 0) _ HP1.out Tryd.underlying24 rfl (sizeP of k) ?_)
      | (go_at_call 32; refine HPR.out.mono ?_; rintro e w3 ⟨rfl, hb3⟩; have HB3 := Lib.hid (HB1.out.trans (hb3.mono HS1.out)); have HP3 := Lib.hid (HP1.out.kept hb3 HP1.out.lt); clear hb3)
      )
    refine wp_load_row 24 _ rfl w.heap.size rfl 24 (partC of k) (0, 0) _ HP3.out Tryd.underlying24 rfl (sizeP of k) ?_
    go_wp2_with (go_at_call 61; refine (HCF.out _ HB3.out).mono ?_; rintro e w4 ⟨rfl, hb4⟩; have HB4 := Lib.hid (HB3.out.trans (hb4.mono HB3.out.size)); clear hb4)
    go_ret
    exact ⟨by simp, HB4.out⟩
end Df
end Go.Proofs.YtmjjkamndlefmaaDoor
namespace Go.Proofs.YtmjjkamndlefmaaDoor
open Go.RowKit Sets Nf Cls
namespace Df
/-- Where an automaton's slices lie. -/
structure Dx where
  a : Option Addr
  ac : Nat
  b : Option Addr
  bc : Nat
def dvC (x : Dx) (d : Dm) : Array Value := dfC d.of d.n (.slice x.a d.R.length x.ac) (.slice x.b d.F.length x.bc)
structure DAt (w : World) (x : Dx) (d : Dm) : Prop where
  nx : ListsIn w x.a d.R
  fl : BoolsIn w x.b d.F
theorem DAt.kept {w w' : World} {x : Dx} {d : Dm} (h : DAt w x d) (hb : Below w.heap.size w w') : DAt w' x d := ⟨h.nx.kept hb, h.fl.kept hb⟩
structure DFine (d : Dm) : Prop where
  many : d.R.length ≤ 100000
  fin : d.F.length ≤ 100000
  each : ∀ l ∈ d.R, l.length ≤ 1000 ∧ ∀ k ∈ l, i64 k
  of : ∀ c, c < 256 → d.of c < 256
/-- An automaton lies in block B. -/
structure BoxD (w : World) (B : Nat) (x : Dx) (d : Dm) : Prop where
  row : w.heap[B]? = some (.cells (dvC x d) 28 (0, 0))
theorem BoxD.new (w : World) (x : Dx) (d : Dm) : BoxD (w.alloc (.cells (dvC x d) 28)) w.heap.size x d := ⟨heap_alloc_new w _⟩
theorem BoxD.lt {w : World} {B : Nat} {x : Dx} {d : Dm} (h : BoxD w B x d) : B < w.heap.size := (Array.getElem?_eq_some_iff.1 h.row).1
theorem BoxD.kept {w w' : World} {A B : Nat} {x : Dx} {d : Dm} (h : BoxD w B x d) (hb : Below A w w') (hA : B < A) : BoxD w' B x d := ⟨by rw [hb.block _ hA]; exact h.row⟩
theorem BoxD.stay {w w' : World} {B : Nat} {x : Dx} {d : Dm} (h : BoxD w B x d) (hb : Below w.heap.size w w') : BoxD w' B x d := h.kept hb h.lt
theorem BoxD.c257 {w : World} {B : Nat} {x : Dx} {d : Dm} (h : BoxD w B x d) : w.cell? ⟨B, 257, none⟩ = some (.slice x.a d.R.length x.ac) := by
  rw [cell_of_row w B 257 _ _ _ h.row]; exact dfC_nv _ _ _ _
theorem BoxD.c258 {w : World} {B : Nat} {x : Dx} {d : Dm} (h : BoxD w B x d) : w.cell? ⟨B, 258, none⟩ = some (.slice x.b d.F.length x.bc) := by
  rw [cell_of_row w B 258 _ _ _ h.row]; exact dfC_fv _ _ _ _
theorem BoxD.c256 {w : World} {B : Nat} {x : Dx} {d : Dm} (h : BoxD w B x d) : w.cell? ⟨B, 256, none⟩ = some (.int .i64 d.n) := by
  rw [cell_of_row w B 256 _ _ _ h.row]; exact dfC_n _ _ _ _
theorem BoxD.cof {w : World} {B : Nat} {x : Dx} {d : Dm} (h : BoxD w B x d) {c : Nat} (hc : c < 256) : w.cell? ⟨B, c, none⟩ = some (.int .u8 (d.of c)) := by
  rw [cell_of_row w B c _ _ _ h.row]; exact dfC_get _ _ _ _ c hc
theorem sizePL (of : Nat → Nat) (n : Int) : (Tryd.prog.info? 24).map (·.size) = some (partC of n).toList.length := by
  rw [Array.length_toList]; exact sizeP of n
set_option maxHeartbeats 3200000 in
set_option maxRecDepth 100000 in
theorem none_any (k : Int) (B n : Nat) (w : World) (hc : w.cell? ⟨B, 0, none⟩ = some (.int .i64 n)) :
    Calls Tryd.prog 33 #[.int .i64 k, .pointer (some ⟨B, 0, none⟩)] w fun e w' => e = .returned (.bool (!inB n k)) ∧ w = w' := by
  by_cases h0 : k < 0
  · have hd : decide (k < 0) = true := decide_eq_true h0
    have HR : Hid (inB n k = false) := Lib.hid (by unfold inB; rw [decide_eq_false (by omega : ¬ (0 ≤ k)), Bool.false_and])
    clear h0
    go_enter Tryd.func33, Tryd.ntmps33
    go_wp2_with fail
    go_ret
    exact ⟨by rw [HR.out]; rfl, rfl⟩
  · have hd : decide (k < 0) = false := decide_eq_false h0
    by_cases h1 : (n : Int) ≤ k
    · have hd1 : decide ((n : Int) ≤ k) = true := decide_eq_true h1
      have HR : Hid (inB n k = false) := Lib.hid (by unfold inB; rw [decide_eq_false (by omega : ¬ (k < (n : Int))), Bool.and_false])
      clear h0 h1
      go_enter Tryd.func33, Tryd.ntmps33
      go_wp2_with fail
      go_ret
      exact ⟨by rw [HR.out]; rfl, rfl⟩
    · have hd1 : decide ((n : Int) ≤ k) = false := decide_eq_false h1
      have HR : Hid (inB n k = true) := Lib.hid (by unfold inB; rw [decide_eq_true (by omega : 0 ≤ k), decide_eq_true (by omega : k < (n : Int))]; rfl)
      clear h0 h1
      go_enter Tryd.func33, Tryd.ntmps33
      go_wp2_with fail
      go_ret
      exact ⟨by rw [HR.out]; rfl, rfl⟩
set_option maxHeartbeats 3200000 in
set_option maxRecDepth 100000 in
theorem indexN_any (a : Option Addr) (cap : Nat) (l : List Int) (B n : Nat) (w : World) (h : NumsIn w a l) (hl : l.length ≤ 1000) (hc : w.cell? ⟨B, 0, none⟩ = some (.int .i64 n)) :
    Calls Tryd.prog 58 #[.slice a l.length cap, .func (.func 33) #[] #[.pointer (some ⟨B, 0, none⟩)]] w fun e w' => (∃ r : Int, e = .returned (.int .i64 r) ∧ decide (0 ≤ r) = !(l.all (inB n))) ∧ w = w' := by
  have HM := Lib.hid h
  have HL := Lib.hid hl
  have HN := Lib.hid (fun k => none_any k B n w hc)
  clear h hl hc
  go_enter Tryd.func58, Tryd.ntmps58
  go_wp2_with fail
  go_loopw [8] (fun i wr => ∃ j : Nat, i = .int .i64 j ∧ j ≤ l.length ∧ Hid ((l.take j).all (inB n) = true) ∧ wr = w) (fun i _ => ((l.length : Int) - intOf i).toNat)
  case atStart => exact ⟨0, rfl, Nat.zero_le _, Lib.hid (by simp), rfl⟩
  case round =>
    obtain ⟨j, rfl, hj, HA, rfl⟩ := hrel
    by_cases hlt : j < l.length
    · have hdd : decide ((j : Int) < (l.length : Int)) = true := decide_eq_true (by omega)
      have hd2 : decide (j < l.length) = true := decide_eq_true hlt
      have HJ := Lib.hid hlt
      have hjl : (j : Int) < (l.length : Int) := by omega
      have HW1 : Hid (wrap64 ((j : Int) + 1) = ((j + 1 : Nat) : Int)) := Lib.hid (nat_wrap (by have := HL.out; omega))
      obtain ⟨b, o, rfl, hcj⟩ := HM.out j hlt
      have HAN := Lib.hid (all_snoc (inB n) l 0 j hlt)
      have HHI := Lib.hid (@all_stop _ (inB n) l 0 j hlt)
      have HSC := Lib.hid (HN.out (l.getD j 0))
      clear hlt
      cases hsp : inB n (l.getD j 0)
      · rw [hsp] at HSC
        have HR := Lib.hid (HHI.out hsp)
        clear hsp HHI HAN
        go_wp2_with (go_at_call 33; refine HSC.out.mono ?_; rintro e w3 ⟨rfl, rfl⟩)
        go_ret
        exact ⟨⟨(j : Int), rfl, by rw [HR.out]; simp⟩, rfl⟩
      · rw [hsp] at HSC HAN
        clear hsp HHI
        go_wp2_with (go_at_call 33; refine HSC.out.mono ?_; rintro e w3 ⟨rfl, rfl⟩)
        go_roundw
        case rel => exact ⟨j + 1, by rw [HW1.out], HJ.out, Lib.hid (by rw [HAN.out, HA.out]; rfl), by first | rfl | trivial⟩
        case measure => rw [HW1.out]; exact meas9 HJ.out
    · have hdd : decide ((j : Int) < (l.length : Int)) = false := decide_eq_false (by omega)
      have hd2 : decide (j < l.length) = false := decide_eq_false hlt
      have HR : Hid (l.all (inB n) = true) := Lib.hid (by
        have := HA.out
        rwa [List.take_of_length_le (by omega)] at this)
      clear hlt
      go_wp2_with fail
      go_ret
      exact ⟨⟨-1, rfl, by rw [HR.out]; rfl⟩, rfl⟩
set_option maxHeartbeats 3200000 in
set_option maxRecDepth 100000 in
theorem containsN_any (a : Option Addr) (cap : Nat) (l : List Int) (B n : Nat) (w : World) (h : NumsIn w a l) (hl : l.length ≤ 1000) (hc : w.cell? ⟨B, 0, none⟩ = some (.int .i64 n)) :
    Calls Tryd.prog 34 #[.slice a l.length cap, .func (.func 33) #[] #[.pointer (some ⟨B, 0, none⟩)]] w fun e w' => e = .returned (.bool (!(l.all (inB n)))) ∧ w = w' := by
  have HI := Lib.hid (indexN_any a cap l B n w h hl hc)
  clear h hl hc
  go_enter Tryd.func34, Tryd.ntmps34
  go_wp2_with (go_at_call 58; refine HI.out.mono ?_; rintro e w3 ⟨⟨r, rfl, hr⟩, rfl⟩; have HR := Lib.hid hr; clear hr)
  go_ret
  exact ⟨by rw [← HR.out]; rfl, rfl⟩
def rowOk (d : Dm) (l : List Int) : Bool := decide ((l.length : Int) = d.n) && l.all (inB d.R.length)
set_option maxHeartbeats 6400000 in
set_option maxRecDepth 100000 in
theorem dright_any (x : Dx) (d : Dm) (w : World) (h : DAt w x d) (hf : DFine d) :
    Calls Tryd.prog 14 #[.agg (dvC x d)] w fun e w' => e = .returned (.bool (rightD d)) ∧ Below w.heap.size w w' := by
  have HM0 := Lib.hid h
  have HF := Lib.hid hf
  have HRD : Hid (rightD d = (prightB d.of d.n && (decide (0 < d.R.length) && (decide (d.F.length = d.R.length) && d.R.all (rowOk d))))) := Lib.hid rfl
  clear h hf
  have hmf : ∀ (fn : Fn) (first cap : Array Value) (w : World), (Instr.makeFunc fn first cap).run Tryd.prog w = .ok (.func fn first cap) w := fun _ _ _ _ => rfl
  go_enter Tryd.func14, Tryd.ntmps14
  go_upto_region 1 with fail
  have HX0 := Lib.hid (BoxD.new w x d)
  have HB0 := Lib.hid ((Below.refl w.heap.size w).alloc (Nat.le_refl _) (.cells (dvC x d) 28))
  obtain ⟨s, hs⟩ : ∃ s, Hid (w.heap.size = s) := ⟨_, Lib.hid rfl⟩
  have HZ0 : Hid ((w.alloc (.cells (dvC x d) 28)).heap.size = s + 1) := Lib.hid (by rw [← hs.out]; simp)
  rw [hs.out] at HX0 HB0 ⊢
  generalize w.alloc (.cells (dvC x d) 28) = w0 at *
  have c257 := HX0.out.c257
  go_upto_region 2 with fail
  clear c257
  rw [HZ0.out]
  have hal := (Below.refl w0.heap.size w0).alloc (Nat.le_refl _) (.cells #[.int .i64 (d.R.length : Nat)] 3)
  have HX := Lib.hid (HX0.out.stay hal)
  have HB := Lib.hid (HB0.out.trans (hal.mono (by rw [HZ0.out]; omega)))
  have HMN : Hid ((w0.alloc (.cells #[.int .i64 (d.R.length : Nat)] 3)).heap[s + 1]? = some (.cells #[.int .i64 (d.R.length : Nat)] 3 (0, 0))) := Lib.hid (by rw [← HZ0.out]; exact heap_alloc_new w0 _)
  clear hal HX0 HB0 HZ0
  generalize w0.alloc (.cells #[.int .i64 (d.R.length : Nat)] 3) = w1 at *
  have HPR := Lib.hid (pright_any d.of d.n w1 HF.out.of)
  have HSW : Hid (s + 1 < w1.heap.size) := Lib.hid (Array.getElem?_eq_some_iff.1 HMN.out).1
  have HCN : Hid (∀ W : World, Below w1.heap.size w1 W → W.cell? ⟨s + 1, 0, none⟩ = some (.int .i64 (d.R.length : Nat)) ∧ W.cell? ⟨s, 258, none⟩ = some (.slice x.b d.F.length x.bc)) := Lib.hid (fun W hb => ⟨by
    rw [cell_of_row W (s + 1) 0 _ _ _ ((hb.block _ HSW.out).trans HMN.out)]; rfl, (HX.out.stay hb).c258⟩)
  cases hpr : prightB d.of d.n
  · rw [hpr] at HPR HRD
    clear hpr
    go_wp2_with (first
      | (refine wpList_load_mid rfl 24 _ rfl s 0 rfl (partC d.of d.n).toList _ (partC_mid _ _ _ _ _ _ HX.out.row) Tryd.underlying24 rfl (sizePL _ _) ?_)
      | (go_at_call 32; refine HPR.out.mono ?_; rintro e w3 ⟨rfl, hb3⟩; have HB3 := Lib.hid (HB.out.trans (hb3.mono (Nat.le_of_lt (Nat.lt_of_succ_lt HSW.out)))); clear hb3))
    go_ret
    exact ⟨by rw [HRD.out]; rfl, by rw [hs.out]; exact HB3.out⟩
  · rw [hpr] at HPR HRD
    clear hpr
    by_cases hsh : 0 < d.R.length ∧ d.F.length = d.R.length
    · obtain ⟨h1, h2⟩ := hsh
      have hd1 : (((d.R.length : Nat) : Int) == 0) = false := by rw [beq_eq_false_iff_ne]; omega
      have hd2 : (((d.F.length : Nat) : Int) != ((d.R.length : Nat) : Int)) = false := by rw [h2]; simp
      rw [decide_eq_true h1, decide_eq_true h2] at HRD
      clear h1 h2
      go_upto_region 4 with (first
        | (refine wpList_load_mid rfl 24 _ rfl s 0 rfl (partC d.of d.n).toList _ (partC_mid _ _ _ _ _ _ HX.out.row) Tryd.underlying24 rfl (sizePL _ _) ?_)
        | (go_at_call 32; refine HPR.out.mono ?_; rintro e w3 ⟨rfl, hb3⟩; have cn := (HCN.out _ hb3).1; have cf := (HCN.out _ hb3).2; have HB3 := Lib.hid (HB.out.trans (hb3.mono (Nat.le_of_lt (Nat.lt_of_succ_lt HSW.out)))); have HX3 := Lib.hid (HX.out.stay hb3); have HM3 : Hid (w3.heap[s + 1]? = some (.cells #[.int .i64 (d.R.length : Nat)] 3 (0, 0))) := Lib.hid ((hb3.block _ HSW.out).trans HMN.out); clear hb3))
      clear cn cf hd1 hd2 HPR HCN HB HX HMN HSW
      clear w1 w0
      have c257 := HX3.out.c257
      have HMD := Lib.hid (HM0.out.kept (hs.out ▸ HB3.out))
      have cn : w3.cell? ⟨s + 1, 0, none⟩ = some (.int .i64 (d.R.length : Nat)) := by rw [cell_of_row w3 (s + 1) 0 _ _ _ HM3.out]; rfl
      have HCN := Lib.hid cn
      clear cn
      go_wp2_with fail
      clear c257
      go_loopw [29] (fun i wr => ∃ j : Nat, i = .int .i64 j ∧ j ≤ d.R.length ∧ Hid ((d.R.take j).all (rowOk d) = true) ∧ wr = w3) (fun i _ => ((d.R.length : Int) - intOf i).toNat)
      case atStart => exact ⟨0, rfl, Nat.zero_le _, Lib.hid (by simp), rfl⟩
      case round =>
        obtain ⟨j, rfl, hj, HA, rfl⟩ := hrel
        by_cases hlt : j < d.R.length
        · have hdd : decide ((j : Int) < (d.R.length : Int)) = true := decide_eq_true (by omega)
          have hd2 : decide (j < d.R.length) = true := decide_eq_true hlt
          have HJ := Lib.hid hlt
          have hjl : (j : Int) < (d.R.length : Int) := by omega
          have HW1 : Hid (wrap64 ((j : Int) + 1) = ((j + 1 : Nat) : Int)) := Lib.hid (nat_wrap (by have := HF.out.many; omega))
          obtain ⟨b, o, y, cy, hxa, hcj, hn⟩ := HMD.out.nx j hlt
          rw [hxa]
          clear hxa
          have HAN := Lib.hid (all_snoc (rowOk d) d.R [] j hlt)
          have HHI := Lib.hid (@all_stop _ (rowOk d) d.R [] j hlt)
          have HEA := Lib.hid (HF.out.each _ (getD_mem (d := []) hlt))
          have HCO := Lib.hid (containsN_any y cy (d.R.getD j []) (s + 1) d.R.length _ hn HEA.out.1 HCN.out)
          have HRK : Hid (rowOk d (d.R.getD j []) = (decide (((d.R.getD j []).length : Int) = d.n) && (d.R.getD j []).all (inB d.R.length))) := Lib.hid rfl
          have c256 := HX3.out.c256
          clear hn hlt
          generalize d.R.getD j [] = l at *
          by_cases hln : (l.length : Int) = d.n
          · have hd5 : ((l.length : Int) != d.n) = false := by rw [hln]; simp
            rw [decide_eq_true hln, Bool.true_and] at HRK
            clear hln
            cases hal : l.all (inB d.R.length)
            · rw [hal] at HCO HRK
              have HR := Lib.hid (HHI.out HRK.out)
              clear hal HAN HHI
              go_wp2_with (go_at_call 34; refine HCO.out.mono ?_; rintro e w4 ⟨rfl, rfl⟩)
              go_ret
              exact ⟨by rw [HRD.out, HR.out]; rfl, by rw [hs.out]; exact HB3.out⟩
            · rw [hal] at HCO HRK
              rw [HRK.out] at HAN
              clear hal HHI
              go_wp2_with (go_at_call 34; refine HCO.out.mono ?_; rintro e w4 ⟨rfl, rfl⟩)
              go_roundw
              case rel => exact ⟨j + 1, by rw [HW1.out], HJ.out, Lib.hid (by rw [HAN.out, HA.out]; rfl), by first | rfl | trivial⟩
              case measure => rw [HW1.out]; exact meas9 HJ.out
          · have hd5 : ((l.length : Int) != d.n) = true := by rw [bne_iff_ne]; exact hln
            rw [decide_eq_false hln, Bool.false_and] at HRK
            have HR := Lib.hid (HHI.out HRK.out)
            clear hln HAN HHI
            go_wp2_with fail
            go_ret
            exact ⟨by rw [HRD.out, HR.out]; rfl, by rw [hs.out]; exact HB3.out⟩
        · have hdd : decide ((j : Int) < (d.R.length : Int)) = false := decide_eq_false (by omega)
          have hd2 : decide (j < d.R.length) = false := decide_eq_false hlt
          have HR : Hid (d.R.all (rowOk d) = true) := Lib.hid (by
            have := HA.out
            rwa [List.take_of_length_le (by omega)] at this)
          clear hlt
          go_wp2_with fail
          go_ret
          exact ⟨by rw [HRD.out, HR.out]; rfl, by rw [hs.out]; exact HB3.out⟩
    · have HR : Hid (rightD d = false) := Lib.hid (by
        rw [HRD.out, Bool.true_and]
        by_cases h1 : 0 < d.R.length
        · rw [decide_eq_false (fun e => hsh ⟨h1, e⟩), Bool.false_and, Bool.and_false]
        · rw [decide_eq_false h1, Bool.false_and])
      by_cases h1 : 0 < d.R.length
      · have hd1 : (((d.R.length : Nat) : Int) == 0) = false := by rw [beq_eq_false_iff_ne]; omega
        have hd2 : (((d.F.length : Nat) : Int) != ((d.R.length : Nat) : Int)) = true := by rw [bne_iff_ne]; omega
        clear h1 hsh
        go_wp2_with (first
          | (refine wpList_load_mid rfl 24 _ rfl s 0 rfl (partC d.of d.n).toList _ (partC_mid _ _ _ _ _ _ HX.out.row) Tryd.underlying24 rfl (sizePL _ _) ?_)
          | (go_at_call 32; refine HPR.out.mono ?_; rintro e w3 ⟨rfl, hb3⟩; have cn := (HCN.out _ hb3).1; have cf := (HCN.out _ hb3).2; have HB3 := Lib.hid (HB.out.trans (hb3.mono (Nat.le_of_lt (Nat.lt_of_succ_lt HSW.out)))); clear hb3))
        go_ret
        exact ⟨by rw [HR.out]; rfl, by rw [hs.out]; exact HB3.out⟩
      · have hd1 : (((d.R.length : Nat) : Int) == 0) = true := by rw [beq_iff_eq]; omega
        clear h1 hsh
        go_wp2_with (first
          | (refine wpList_load_mid rfl 24 _ rfl s 0 rfl (partC d.of d.n).toList _ (partC_mid _ _ _ _ _ _ HX.out.row) Tryd.underlying24 rfl (sizePL _ _) ?_)
          | (go_at_call 32; refine HPR.out.mono ?_; rintro e w3 ⟨rfl, hb3⟩; have cn := (HCN.out _ hb3).1; have cf := (HCN.out _ hb3).2; have HB3 := Lib.hid (HB.out.trans (hb3.mono (Nat.le_of_lt (Nat.lt_of_succ_lt HSW.out)))); clear hb3))
        go_ret
        exact ⟨by rw [HR.out]; rfl, by rw [hs.out]; exact HB3.out⟩
end Df
end Go.Proofs.YtmjjkamndlefmaaDoor
namespace Go.Proofs.YtmjjkamndlefmaaDoor
open Go.RowKit Sets Nf Cls
namespace Df
theorem wpList_load_df {ops : Array Oper} {rest : List Oper} {o : Oper} {a : Act} {w : World} {Q : Exit → Act → World → Prop} (hgd : o.guard = none) (X : Operand) (ho : o.op = .load 28 X)
    (B : Nat) (x : Dx) (d : Dm) (hx : a.eval X = .pointer (some ⟨B, 0, none⟩)) (hc : BoxD w B x d) (h : wpList Tryd.prog ops Q rest (a.put o.dst (.agg (dvC x d))) w) : wpList Tryd.prog ops Q (o :: rest) a w :=
  wpList_load_row hgd 28 X ho B hx 28 (dvC x d) (0, 0) _ hc.row Tryd.underlying28 rfl (sizeDf _ _ _ _) h
/-- What a right automaton is. -/
structure DRt (d : Dm) : Prop where
  pr : prightB d.of d.n = true
  pos : 0 < d.R.length
  fl : d.F.length = d.R.length
  row : ∀ l ∈ d.R, (l.length : Int) = d.n ∧ ∀ k ∈ l, 0 ≤ k ∧ k < (d.R.length : Int)
theorem dright_iff (d : Dm) : rightD d = true ↔ DRt d := by
  unfold rightD
  simp only [Bool.and_eq_true, decide_eq_true_iff, List.all_eq_true, inB]
  constructor
  · rintro ⟨h1, h2, h3, h4⟩; exact ⟨h1, h2, h3, h4⟩
  · rintro ⟨h1, h2, h3, h4⟩; exact ⟨h1, h2, h3, h4⟩
theorem DRt.of {d : Dm} (h : DRt d) {i c : Nat} (hi : i < d.R.length) (hc : c < 256) : d.of c < (d.R.getD i []).length ∧ (d.R.getD i []).getD (d.of c) 0 = (goD d i c : Nat) ∧ goD d i c < d.R.length := by
  obtain ⟨k, hn, -, hof⟩ := pright_is h.pr
  have hr := h.row _ (getD_mem (d := []) hi)
  have h1 : d.of c < (d.R.getD i []).length := by have := hof c hc; omega
  have h2 := hr.2 _ (getD_mem (d := 0) h1)
  unfold goD
  exact ⟨h1, by omega, by omega⟩
def stAt (d : Dm) (l : List Nat) (j : Nat) : Nat := (l.take j).foldl (goD d) 0
theorem stAt_succ (d : Dm) (l : List Nat) (j : Nat) (h : j < l.length) : stAt d l (j + 1) = goD d (stAt d l j) (l.getD j 0) := by
  unfold stAt
  rw [List.take_succ_eq_append_getElem h, List.foldl_append, List.getD_eq_getElem?_getD, List.getElem?_eq_getElem h]; rfl
set_option maxHeartbeats 6400000 in
set_option maxRecDepth 100000 in
theorem drun_any (x : Dx) (d : Dm) (t : ByteArray) (w : World) (h : DAt w x d) (hf : DFine d) (ht : t.size ≤ 100000) :
    Calls Tryd.prog 26 #[.agg (dvC x d), .string t] w fun e w' => e = .returned (.bool (takesD d (Nf.bs t))) ∧ Below w.heap.size w w' := by
  have HM := Lib.hid h
  have HF := Lib.hid hf
  have HTS := Lib.hid ht
  have HLEN := Lib.hid (Nf.bs_len t)
  have HBL := Lib.hid (Nf.bs_lt t)
  have HTK : Hid (takesD d (Nf.bs t) = (rightD d && d.F.getD (stAt d (Nf.bs t) t.size) false)) := Lib.hid (by
    unfold takesD stAt
    rw [List.take_of_length_le (by rw [Nf.bs_len]; exact Nat.le_refl _)])
  clear h hf ht
  go_enter Tryd.func26, Tryd.ntmps26
  go_upto_region 1 with fail
  have HX1 := Lib.hid (BoxD.new w x d)
  have HB1 := Lib.hid ((Below.refl w.heap.size w).alloc (Nat.le_refl _) (.cells (dvC x d) 28))
  obtain ⟨s, hs⟩ : ∃ s, Hid (w.heap.size = s) := ⟨_, Lib.hid rfl⟩
  generalize w.alloc (.cells (dvC x d) 28) = w1 at *
  have HRD := Lib.hid (dright_any x d w1 (HM.out.kept HB1.out) HF.out)
  rw [hs.out] at HX1 HB1 ⊢
  cases hr : rightD d
  · rw [hr] at HRD HTK
    clear hr
    go_wp2_with (first
      | (refine wpList_load_df rfl _ rfl s x d rfl HX1.out ?_)
      | (go_at_call 14; refine HRD.out.mono ?_; rintro e w2 ⟨rfl, hb2⟩; have HB2 := Lib.hid (HB1.out.trans (hb2.mono (Nat.le_of_lt HX1.out.lt))); clear hb2))
    go_ret
    exact ⟨by rw [HTK.out]; rfl, by rw [hs.out]; exact HB2.out⟩
  · rw [hr] at HRD HTK
    have HRT := Lib.hid ((dright_iff d).1 hr)
    clear hr
    go_upto_region 5 with (first
      | (refine wpList_load_df rfl _ rfl s x d rfl HX1.out ?_)
      | (go_at_call 14; refine HRD.out.mono ?_; rintro e w2 ⟨rfl, hb2⟩; have HB2 := Lib.hid (HB1.out.trans (hb2.mono (Nat.le_of_lt HX1.out.lt))); have HX2 := Lib.hid (HX1.out.stay hb2); clear hb2))
    clear HX1 HB1 HRD
    clear w1
    have HS0 : Hid (stAt d (Nf.bs t) 0 < d.R.length) := Lib.hid HRT.out.pos
    go_loopw [5, 12] (fun v i wr => ∃ j : Nat, v = .int .i64 (stAt d (Nf.bs t) j : Nat) ∧ i = .int .i64 j ∧ j ≤ t.size ∧ Hid (stAt d (Nf.bs t) j < d.R.length) ∧ Hid (Below w2.heap.size w2 wr)) (fun _ i _ => ((t.size : Int) - intOf i).toNat)
    case atStart => exact ⟨0, rfl, rfl, Nat.zero_le _, HS0, Lib.hid (Below.refl _ _)⟩
    case round =>
      obtain ⟨j, rfl, rfl, hj, HSJ, HBJ⟩ := hrel
      generalize hwr : wr = w3 at *
      clear hwr wr
      have HX3 := Lib.hid (HX2.out.stay HBJ.out)
      have HB3 : Hid (Below s w w3) := Lib.hid (HB2.out.trans (HBJ.out.mono (Nat.le_of_lt HX2.out.lt)))
      have HD3 := Lib.hid (HM.out.kept (hs.out ▸ HB3.out))
      by_cases hlt : j < t.size
      · have hdd : decide ((j : Int) < (t.size : Int)) = true := decide_eq_true (by omega)
        have hd2 : decide (j < t.size) = true := decide_eq_true hlt
        have HJ := Lib.hid hlt
        have HW1 : Hid (wrap64 ((j : Int) + 1) = ((j + 1 : Nat) : Int)) := Lib.hid (nat_wrap (by have := HTS.out; omega))
        have hix := index_bs t j _ rfl hlt
        have HCC : Hid ((Nf.bs t).getD j 0 < 256) := Lib.hid (HBL.out _ (getD_mem (by rw [HLEN.out]; exact hlt)))
        have HSS := Lib.hid (stAt_succ d (Nf.bs t) j (by rw [HLEN.out]; exact hlt))
        generalize stAt d (Nf.bs t) j = st at *
        generalize (Nf.bs t).getD j 0 = c at *
        obtain ⟨b, o, y, cy, hxa, hcs, hn⟩ := HD3.out.nx st HSJ.out
        obtain ⟨h1, h2, h3⟩ := HRT.out.of HSJ.out HCC.out
        obtain ⟨b2, o2, hy, hcn⟩ := hn (d.of c) h1
        rw [h2] at hcn
        subst hy
        have HS3 := Lib.hid h3
        have hsr : (st : Int) < (d.R.length : Int) := by have := HSJ.out; omega
        have hocl : ((d.of c : Nat) : Int) < ((d.R.getD st []).length : Int) := by omega
        have hc256 : ((c : Nat) : Int) < 256 := by have := HCC.out; omega
        have HOF : Hid (d.of c < 256) := Lib.hid (HF.out.of c HCC.out)
        have c257 := HX3.out.c257
        rw [hxa] at c257
        have cof := HX3.out.cof HCC.out
        clear hn h1 h2 h3 hlt hxa
        generalize (d.R.getD st []).length = rl at *
        have f1 : w3.drew.cell? ⟨s, 257, none⟩ = some (.slice (some ⟨b, o, none⟩) d.R.length x.ac) := c257
        have f2 : w3.drew.cell? ⟨s, c, none⟩ = some (.int .u8 (d.of c)) := cof
        have f3 : w3.drew.cell? ⟨b, o + st, none⟩ = some (.slice (some ⟨b2, o2, none⟩) rl cy) := hcs
        have f4 : w3.drew.cell? ⟨b2, o2 + d.of c, none⟩ = some (.int .i64 (goD d st c : Nat)) := hcn
        clear c257 cof hcs hcn
        go_upto_region 7 with fail
        refine region_mix [(false, 0), (false, 1), (false, 2), (false, 3), (false, 4), (false, 5), (false, 6), (false, 7), (false, 8), (false, 9), (false, 10), (false, 11), (false, 12), (false, 13)] (fun w' => w' = w3.drew) (by kernel_rfl) (by kernel_rfl) rfl ?_
        simp only [planOps, List.map_cons, List.map_nil, List.getD_cons_zero, List.getD_cons_succ, List.length_cons, List.length_nil, List.drop_succ_cons, List.drop_zero]
        refine mix_seg (seg := [_, _, _, _, _, _, _, _, _, _, _, _, _, _]) (rest := []) rfl rfl ?_
        intro ι hι F2 hF
        iterate 14 (go_big_quiet_step (fail))
        refine wpQuiet_nil ?_
        clear f1 f2 f3 f4 hF hι F2
        show wpList _ _ _ _ _ _
        go_wp2_with fail
        refine NoPanic.normal ?_
        go_wp2_with fail
        go_roundw
        case rel => exact ⟨j + 1, by rw [HSS.out], by rw [HW1.out], HJ.out, Lib.hid (by rw [HSS.out]; exact HS3.out), Lib.hid (HBJ.out.drew)⟩
        case measure => rw [HW1.out]; exact meas9 HJ.out
      · have hdd : decide ((j : Int) < (t.size : Int)) = false := decide_eq_false (by omega)
        have hd2 : decide (j < t.size) = false := decide_eq_false hlt
        have HE : Hid (j = t.size) := Lib.hid (by omega)
        rw [HE.out] at HSJ ⊢
        obtain ⟨b, o, hxb, hcb⟩ := HD3.out.fl _ (by rw [HRT.out.fl]; exact HSJ.out)
        have c258 := HX3.out.c258
        rw [hxb] at c258
        have hsf : ((stAt d (Nf.bs t) t.size : Nat) : Int) < (d.F.length : Int) := by have h1 := HSJ.out; have h2 := HRT.out.fl; omega
        clear hlt hxb
        generalize stAt d (Nf.bs t) t.size = st at *
        go_wp2_with fail
        go_ret
        exact ⟨by rw [HTK.out]; simp, by rw [hs.out]; exact HB3.out⟩
end Df
end Go.Proofs.YtmjjkamndlefmaaDoor
