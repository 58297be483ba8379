/- Several texts in one. -/
import Derived.Test.YtcgllipcnmlkbaaDoorPkA
import Derived.Deep.Quiet
import Derived.Deep.QuietTactic
import Derived.BigQuiet
import Derived.StillTail
import Derived.Deep.RegionHeld3
import Derived.Test.YtcgllipcnmlkbaaDoorPkB
import Derived.Deep.MidRow
import Derived.Deep.WholeRow
import Derived.Laws.StructEq
import Derived.WalkSpells
import Derived.WalkKit
import Derived.Deep.OwnRows
namespace Go.Proofs.YtcgllipcnmlkbaaDoor
open Go.RowKit
/-- The worlds that keep what W holds are given as a family F: so the walk's simp can name one of them. -/
theorem region_fam {P : Program} {id : Nat} {Q : Exit → Act → World → Prop} {a : Act} {W : World} {l : List Oper} (hm : P.follows .mixedOrders = true) (hB : Region.lexB .any l.toArray = true)
    (h : ∀ (ι : Type) (_ : Nonempty ι) (F : ι → World), (∀ n, Below W.heap.size W (F n)) → (∀ w', Below W.heap.size W w' → ∃ n, w' = F n) →
      wpQuiet P l.toArray (fun w' => ∃ n, w' = F n) (fun a' => ∀ w', (∃ n, w' = F n) → Q .normal a' w') l a) : (Code.region id l.toArray true).wp P Q a W := by
  refine wp_region_quiet (C := fun w' => ∃ n : { w' : World // Below W.heap.size W w' }, w' = n.1) hm hB ⟨⟨_, (Below.refl _ W).drew⟩, rfl⟩ ?_
  have := h { w' : World // Below W.heap.size W w' } ⟨⟨W, Below.refl _ W⟩⟩ Subtype.val (fun n => n.2) (fun w' hw => ⟨⟨w', hw⟩, rfl⟩)
  simpa using this
theorem fam_call {P : Program} {f : FuncId} {args : Array Value} {ι : Type} {F : ι → World} {W : World} (hF : ∀ n, Below W.heap.size W (F n)) (hX : ∀ w', Below W.heap.size W w' → ∃ n, w' = F n) {n : ι} {v : Value}
    (h : Calls P f args (F n) fun e w' => e = .returned v ∧ Below (F n).heap.size (F n) w') : Calls P f args (F n) fun e w'' => e = .returned v ∧ ∃ m, w'' = F m :=
  h.mono fun _ _ ⟨he, hb⟩ => ⟨he, hX _ ((hF n).trans (hb.mono (hF n).size))⟩
/-- A whole array, read out of its variable, in every world of the class. -/
theorem quiet_load_row {P : Program} {C : World → Prop} {a : Act} {K : Act → Prop} {o : Oper} (ty : TypeId) (x : Operand) (ho : o.op = .load ty x)
    (g : Nat) (hx : a.eval x = .pointer (some ⟨g, 0, none⟩)) (t : TypeId) (cs : Array Value) (fr : Nat × Nat) (d : TypeDesc) (hg : ∀ w, C w → w.heap[g]? = some (.cells cs t fr))
    (hu : P.underlying ty = some d) (hd : (match d with | .struct _ | .array _ _ => true | _ => false) = true) (hi : (P.info? ty).map (·.size) = some cs.size)
    (h : K (a.put o.dst (.agg cs))) : o.quiet P a C K := by
  refine ⟨.agg cs, fun w hw => ?_, h⟩
  unfold Oper.quietAt execOp
  simp only [ho, hx, Instr.loadAt, Instr.sureAddr, Sem.run_bind, Sem.run_pure, Result.andThen_ok, run_loadVar_row w g t ty cs fr d (hg w hw) hu hd hi]
  exact ⟨rfl, rfl⟩
end Go.Proofs.YtcgllipcnmlkbaaDoor
namespace Go.Proofs.YtcgllipcnmlkbaaDoor
open Go.RowKit
/-- Operations that never enter a function. -/
def pureB (o : Oper) : Bool :=
  match o.op with
  | .move _ | .assign _ | .pick _ _ _ | .load _ _ | .binOp _ _ _ _ _ | .unOp _ _ _ | .convert _ _ _ | .slice _ _ _ _ _ | .fieldAddr _ _ _ | .field _ _ _ | .indexAddr _ _ _ | .index _ _ _ | .lookup _ _ _ _ | .extract _ _ | .build _ _ | .nilCheck _ => true
  | .call c => match c.callee with
    | .builtin .len | .builtin .cap | .builtin .min | .builtin .max => true
    | _ => false
  | _ => false
theorem never_v {P : Program} {w w' : World} {s : Sem Value} {f : FuncId} {args : Array Value} : ¬ (do pure (Next.value (← s)) : Sem Next).run P w = .ok (.enter f args) w' := by
  intro h
  rw [Sem.run_bind] at h
  cases hs : s.run P w with
  | ok v w1 => rw [hs] at h; simp [Result.andThen, Sem.run_pure] at h
  | halt x w1 => rw [hs] at h; simp [Result.andThen] at h
theorem never_r {r : Result Value} {w' : World} {f : FuncId} {args : Array Value} : ¬ (r.andThen fun a w' => Result.ok (Next.value a) w') = .ok (.enter f args) w' := by
  intro h
  cases r <;> simp [Result.andThen] at h
theorem never_bind {α : Type} {P : Program} {s : Sem α} {k : α → Sem Next} {f : FuncId} {args : Array Value} (hk : ∀ x w w', ¬ (k x).run P w = .ok (.enter f args) w') {w w' : World} : ¬ (s >>= k).run P w = .ok (.enter f args) w' := by
  intro h
  rw [Sem.run_bind] at h
  cases hs : s.run P w with
  | ok v w1 => rw [hs] at h; exact hk _ _ _ h
  | halt x w1 => rw [hs] at h; simp [Result.andThen] at h
theorem never_pure {P : Program} {v : Value} {f : FuncId} {args : Array Value} {w w' : World} : ¬ (pure (Next.value v) : Sem Next).run P w = .ok (.enter f args) w' := by
  intro h; simp at h
theorem never_nil {P : Program} {f : FuncId} {args : Array Value} {w w' : World} : ¬ (runtimePanic .nilDeref : Sem Next).run P w = .ok (.enter f args) w' := by
  refine never_bind (fun x w w' h => ?_)
  simp [goPanic] at h
theorem never_enter {P : Program} {ρ : Operand → Value} {o : Oper} {w w' : World} {f : FuncId} {args : Array Value} (hp : pureB o = true) : ¬ (execOp ρ o).run P w = .ok (.enter f args) w' := by
  intro h
  unfold pureB at hp
  unfold execOp at h
  split at hp
  all_goals (rename_i e; try simp only [e] at h)
  case h_1 | h_2 => simp at h
  case h_16 =>
    repeat' split at h
    all_goals first
      | exact never_nil h
      | exact never_pure h
      | (refine never_bind (fun x w w' h => ?_) h
         refine never_bind (fun x w w' h => ?_) h
         split at h
         · exact never_bind (fun x w w' h => never_pure h) h
         · exact never_pure h)
  case h_17 =>
    split at hp
    all_goals (rename_i e2; try (cases hp; done))
    all_goals
      simp only [resolve, e2, Sem.run_bind, Sem.run_pure, Result.andThen_ok, invoke, builtin] at h
      exact never_r h
  case h_18 => cases hp
  case h_3 =>
    rw [Sem.run_bind] at h
    generalize Sem.run P (asBool _) w = r at h
    cases r <;> simp [Result.andThen, Sem.run_pure] at h
  all_goals exact never_v h
section
variable {P : Program} {ops : Array Oper} {Q : Exit → Act → World → Prop} {md : Region.Mode}
/-- In state a, in every world of the class, o leaves v in its temporary, and the world as it is. -/
def YieldsP (P : Program) (ops : Array Oper) (C : World → Prop) (o : Oper) (v : Value) (a : Act) : Prop :=
  (Region.wanted o (yielded ops a.tmps) = true ∧ ∀ w, C w → (execOp a.eval o).run P w = .ok (.value v) w ∨ ((execOp a.eval o).run P w = .ok .skip w ∧ v = undef)) ∨
  (Region.wanted o (yielded ops a.tmps) = false ∧ v = undef)
theorem YieldsP.less {C C' : World → Prop} {o : Oper} {v : Value} {a : Act} (h : YieldsP P ops C o v a) (hC : ∀ w, C' w → C w) : YieldsP P ops C' o v a :=
  h.imp (fun ⟨hw, hv⟩ => ⟨hw, fun w g => hv w (hC w g)⟩) id
theorem YieldsP.wpOp {C : World → Prop} {i : Nat} {o : Oper} {v : Value} {a : Act} (hi : ops[i]? = some o) (hy : YieldsP P ops C o v a)
    {K : Act → World → Prop} {w : World} (hC : C w) (h : K (a.put o.dst v) w) : wpOp P ops Q i K a w := by
  unfold Go.wpOp
  simp only [hi]
  rcases hy with ⟨hw, hv⟩ | ⟨hw, rfl⟩
  · rw [if_pos hw]
    refine .inl ?_
    unfold Oper.wp
    rcases hv w hC with e | ⟨e, rfl⟩
    · rw [e]; exact h
    · rw [e]; exact h
  · rw [if_neg (by rw [hw]; exact Bool.false_ne_true)]; exact h
theorem YieldsP.of_same {C : World → Prop} {o : Oper} {v : Value} {a a' : Act} (hy : YieldsP P ops C o v a) (he : execOp a'.eval o = execOp a.eval o)
    (hw : Region.wanted o (yielded ops a'.tmps) = Region.wanted o (yielded ops a.tmps)) : YieldsP P ops C o v a' := by
  unfold YieldsP at *
  rw [he, hw]
  exact hy
theorem wpOp_putP {C : World → Prop} {j : Nat} {oi oj : Oper} {v : Value} (hj : ops[j]? = some oj) (hap : oi.apart ops oj = true)
    (hsi : ∀ cs b, oi.op ≠ .select cs b) (hsj : ∀ cs b, oj.op ≠ .select cs b)
    (hQ : ∀ c d a v w, Q (.panic c) (a.put d v) w → Q (.panic c) a w) {K : Act → World → Prop} {a : Act} {w : World}
    (hy : YieldsP P ops C oi v a) (h : wpOp P ops Q j K (a.put oi.dst v) w) :
    wpOp P ops Q j (fun a' w' => YieldsP P ops C oi v a' ∧ K (a'.put oi.dst v) w') a w := by
  obtain ⟨h1, h2, h3⟩ := Oper.apart_spec hap
  have keep : ∀ (a : Act), YieldsP P ops C oi v a → ∀ u, YieldsP P ops C oi v (a.put oj.dst u) := fun a hy u =>
    hy.of_same (execOp_put oi hsi a oj.dst u h3) (wanted_put oi a oj.dst u h3)
  have keepD : ∀ d, YieldsP P ops C oi v { a with defers := d :: a.defers } := fun d => hy.of_same rfl rfl
  unfold Go.wpOp at *
  simp only [hj] at *
  rw [wanted_put oj a oi.dst v h1] at h
  by_cases hw : Region.wanted oj (yielded ops a.tmps) = true
  · rw [if_pos hw] at h ⊢
    rcases h with h | ⟨hasks, hlets⟩
    case inr => exact .inr ⟨by unfold Oper.asks at *; rw [execOp_put oj hsj a oi.dst v h1] at hasks; exact hasks, hlets⟩
    refine .inl ?_
    unfold Oper.wp at *
    rw [execOp_put oj hsj a oi.dst v h1] at h
    generalize (execOp a.eval oj).run P w = r at *
    cases r with
    | ok n w' =>
      cases n <;> simp only [Oper.upon] at h ⊢
      case value u => exact ⟨keep a hy u, by rw [← Act.put_comm a v u h2]; exact h⟩
      case skip => exact ⟨keep a hy _, by rw [← Act.put_comm a v undef h2]; exact h⟩
      case defer d =>
        refine ⟨keep _ (keepD d) _, ?_⟩
        rw [← Act.put_comm _ v undef h2, ← Act.put_defers]
        exact h
      case enter f args =>
        refine Calls.mono h fun e w'' he => ?_
        cases e with
        | returned u => exact ⟨keep a hy u, by rw [← Act.put_comm a v u h2]; exact he⟩
        | panicked c => exact hQ _ _ _ _ _ he
        | outgrown => exact he
      case row row args => exact Rows.mono h fun u w'' he => ⟨keep a hy u, by rw [← Act.put_comm a v u h2]; exact he⟩
    | halt x w' =>
      cases x <;> simp only [Oper.upon] at h ⊢
      case panic u => exact hQ _ _ _ _ _ h
  · rw [if_neg hw] at h ⊢
    exact ⟨keep a hy _, by rw [← Act.put_comm a v undef h2]; exact h⟩
/-- Whatever order is picked, the class growing narrower behind what turns the world. -/
def wpAnyM (P : Program) (md : Region.Mode) (ops : Array Oper) (Q : Exit → Act → World → Prop) (n : Nat) (L : Array Bool → Act → World → Prop) : Nat → (World → Prop) → Array Bool → Act → World → Prop
  | 0, _, listed, a, w => L listed a w
  | f + 1, C, listed, a, w => Region.ready md ops listed ≠ [] ∧ ∀ i ∈ Region.ready md ops listed, i < n ∧
      wpOp P ops Q i (fun a' w' => ∃ C', (∀ x, C' x → C x) ∧ C' w' ∧ wpAnyM P md ops Q n L f C' (listed.setIfInBounds i true) a' w') a w
theorem wpAny_of_M {n g : Nat} {L : Array Bool → Act → World → Prop} (hL : ∀ listed a w, L listed a w → wpAny P md ops Q g listed a w) :
    ∀ (f : Nat) (C : World → Prop) (listed : Array Bool) (a : Act) (w : World), wpAnyM P md ops Q n L f C listed a w → wpAny P md ops Q (f + g) listed a w
  | 0, _, _, _, _, h => by rw [Nat.zero_add]; exact hL _ _ _ h
  | f + 1, C, listed, a, w, h => by
    rw [show f + 1 + g = (f + g) + 1 by omega]
    exact ⟨fun h0 => absurd h0 h.1, fun i hi => wpOp_mono (fun a' w' ⟨C', _, _, h'⟩ => wpAny_of_M hL f C' _ a' w' h') (h.2 i hi).2⟩
theorem wpAnyM_first {n i : Nat} {oi : Oper} {v : Value} {L : Array Bool → Act → World → Prop} (hi : ops[i]? = some oi) (hsel : ∀ (j : Nat) (o : Oper) cs b, ops[j]? = some o → o.op ≠ .select cs b)
    (hQ : ∀ c d a v w, Q (.panic c) (a.put d v) w → Q (.panic c) a w)
    (hs : Region.sinkB md ops n = true) (hc : Region.chainB md ops n = true) (hn : n < ops.size) (hin : i < n)
    (hdone : ∀ listed a w, L listed a w → ∀ j ∈ Region.ready md ops listed, n ≤ j) :
    ∀ (f : Nat) (C : World → Prop) (listed : Array Bool) (a : Act) (w : World), HeadInv md ops n listed →
      (∀ j oj, ops[j]? = some oj → j ≠ i → listed.getD j true = false → (∀ e ∈ oj.after, Region.binds md e = true → e.on ≠ i) → oi.apart ops oj = true) →
      i ∈ Region.ready md ops listed → YieldsP P ops C oi v a → C w →
      wpAnyM P md ops Q n L f C (listed.setIfInBounds i true) (a.put oi.dst v) w → wpAnyM P md ops Q n L (f + 1) C listed a w := by
  intro f
  induction f with
  | zero =>
    intro C listed a w inv _ hr hy hC H
    have hun := (mem_ready.1 hr).1
    refine ⟨fun h => (by rw [h] at hr; cases hr), fun j hj => ?_⟩
    have hjn : j < n := by
      rcases Nat.lt_or_ge j n with h | h
      · exact h
      · exact absurd hj (tail_waits hs hc hn inv _ i rfl hin hun j h)
    refine ⟨hjn, ?_⟩
    by_cases hji : j = i
    · subst hji; exact hy.wpOp hi hC ⟨C, fun _ h => h, hC, H⟩
    · have := hdone _ _ _ H j (ready_mono hj hji)
      omega
  | succ f ih =>
    intro C listed a w inv hfree hr hy hC H
    have hun := (mem_ready.1 hr).1
    refine ⟨fun h => (by rw [h] at hr; cases hr), fun j hj => ?_⟩
    have hjn : j < n := by
      rcases Nat.lt_or_ge j n with h | h
      · exact h
      · exact absurd hj (tail_waits hs hc hn inv _ i rfl hin hun j h)
    refine ⟨hjn, ?_⟩
    by_cases hji : j = i
    · subst hji; exact hy.wpOp hi hC ⟨C, fun _ h => h, hC, H⟩
    · have h1 := (H.2 j (ready_mono hj hji)).2
      obtain ⟨hjun, oj, hoj, hall⟩ := mem_ready.1 hj
      have hnot : ∀ e ∈ oj.after, Region.binds md e = true → e.on ≠ i := fun e he hb heq => by
        have h1 := hall e he hb
        rw [heq, getD_both hun] at h1
        cases h1
      have h2 := wpOp_putP hoj (hfree j oj hoj hji hjun hnot) (fun cs b => hsel i oi cs b hi) (fun cs b => hsel j oj cs b hoj) hQ hy h1
      have hfree' : ∀ k ok, ops[k]? = some ok → k ≠ i → (listed.setIfInBounds j true).getD k true = false →
          (∀ e ∈ ok.after, Region.binds md e = true → e.on ≠ i) → oi.apart ops ok = true := fun k ok hk hki hun hno => by
        refine hfree k ok hk hki ?_ hno
        by_cases hjk : j = k
        · subst hjk; exact hjun
        · rw [getD_set_ne true hjk] at hun; exact hun
      refine wpOp_mono (fun a' w' ⟨h3, C', hle, hC', h4⟩ => ⟨C', hle, hC', ih C' (listed.setIfInBounds j true) a' w' (inv.set hj hjn) hfree' (ready_mono hr (Ne.symm hji)) (h3.less hle) hC' ?_⟩) h2
      rw [Array.setIfInBounds_comm _ _ hji]
      exact h4
/-- The plan: which operation comes next, and whether it turns the world. -/
def mixFrom (md : Region.Mode) (ops : Array Oper) (n : Nat) : List (Bool × Nat) → Array Bool → Bool
  | [], listed => Region.seqB md ops (ops.size - n) n listed
  | (false, i) :: r, listed => decide (i < n) && (Region.ready md ops listed).contains i && Region.free md ops listed i && (match ops[i]? with | some o => pureB o | none => false) && mixFrom md ops n r (listed.setIfInBounds i true)
  | (true, i) :: r, listed => decide (i < n) && decide (Region.ready md ops listed = [i]) && mixFrom md ops n r (listed.setIfInBounds i true)
def mixB (md : Region.Mode) (ops : Array Oper) (plan : List (Bool × Nat)) : Bool :=
  Region.noSelect ops && decide (plan.length < ops.size) && Region.sinkB md ops plan.length && Region.chainB md ops plan.length && mixFrom md ops plan.length plan (Array.replicate ops.size false)
def mixQ (Q : Exit → Act → World → Prop) (K : Act → World → Prop) : Exit → Act → World → Prop
  | .normal, a, w => K a w
  | e, a, w => Q e a w
/-- The walk along the plan. -/
def wpMix (P : Program) (ops : Array Oper) (Q : Exit → Act → World → Prop) (T : Act → World → Prop) : List (Bool × Oper) → (World → Prop) → Act → World → Prop
  | [], _, a, w => T a w
  | (false, o) :: r, C, a, w => ∃ v, YieldsP P ops C o v a ∧ wpMix P ops Q T r C (a.put o.dst v) w
  | (true, o) :: r, C, a, w => wpList P ops (mixQ Q fun a' w' => ∃ C', (∀ x, C' x → C x) ∧ C' w' ∧ wpMix P ops Q T r C' a' w') [o] a w
def planOps (l : List Oper) (plan : List (Bool × Nat)) : List (Bool × Oper) := plan.map fun p => (p.1, l.getD p.2 default)
theorem wp_of_mixQ {o : Oper} {a : Act} {w : World} {K : Act → World → Prop} (h : o.wp P a w (mixQ Q K .normal) (mixQ Q K)) : o.wp P a w K Q := by
  unfold Oper.wp at *
  generalize (execOp a.eval o).run P w = r at *
  cases r with
  | ok n w' =>
    cases n <;> simp only [Oper.upon] at h ⊢ <;> exact h
  | halt x w' => cases x <;> simp only [Oper.upon] at h ⊢ <;> exact h
theorem wpAnyM_plan {n : Nat} {T : Act → World → Prop} (hsel : Region.noSelect ops = true) (hs : Region.sinkB md ops n = true) (hc : Region.chainB md ops n = true) (hn : n < ops.size)
    (hQ : ∀ c d a v w, Q (.panic c) (a.put d v) w → Q (.panic c) a w) :
    ∀ (plan : List (Bool × Nat)) (C : World → Prop) (listed : Array Bool) (a : Act) (w : World), HeadInv md ops n listed → mixFrom md ops n plan listed = true → C w →
    wpMix P ops Q T (planOps ops.toList plan) C a w →
    wpAnyM P md ops Q n (fun listed' a' w' => Region.seqB md ops (ops.size - n) n listed' = true ∧ T a' w') plan.length C listed a w
  | [], _, _, _, _, _, hB, _, h => ⟨hB, h⟩
  | (false, i) :: r, C, listed, a, w, inv, hB, hC, h => by
    simp only [mixFrom, Bool.and_eq_true, decide_eq_true_eq] at hB
    obtain ⟨⟨⟨⟨hin, hr⟩, hf⟩, hp⟩, hB'⟩ := hB
    have hr' : i ∈ Region.ready md ops listed := by simpa using hr
    obtain ⟨hun, o, ho, hall⟩ := mem_ready.1 hr'
    have e : ops.toList.getD i default = o := by rw [List.getD_eq_getElem?_getD, Array.getElem?_toList, ho]; rfl
    obtain ⟨v, hy, hK⟩ := h
    rw [e] at hy hK
    exact wpAnyM_first ho (Region.noSelect_spec hsel) hQ hs hc hn hin (fun listed' a' w' hL => seqB_ready hL.1) r.length C listed a w inv (Region.free_spec ho hf) hr' hy hC
      (wpAnyM_plan hsel hs hc hn hQ r C _ _ w (inv.set hr' hin) hB' hC hK)
  | (true, i) :: r, C, listed, a, w, inv, hB, hC, h => by
    simp only [mixFrom, Bool.and_eq_true, decide_eq_true_eq] at hB
    obtain ⟨⟨hin, hr⟩, hB'⟩ := hB
    have hr' : i ∈ Region.ready md ops listed := by rw [hr]; simp
    obtain ⟨hun, o, ho, hall⟩ := mem_ready.1 hr'
    have e : ops.toList.getD i default = o := by rw [List.getD_eq_getElem?_getD, Array.getElem?_toList, ho]; rfl
    refine ⟨by rw [hr]; simp, fun j hj => ?_⟩
    rw [hr] at hj
    have hji : j = i := by simpa using hj
    subst hji
    refine ⟨hin, ?_⟩
    have h' : wpList P ops (mixQ Q fun a' w' => ∃ C', (∀ x, C' x → C x) ∧ C' w' ∧ wpMix P ops Q T (planOps ops.toList r) C' a' w') [o] a w := by rw [← e]; exact h
    have fin : ∀ a' w', (∃ C', (∀ x, C' x → C x) ∧ C' w' ∧ wpMix P ops Q T (planOps ops.toList r) C' a' w') →
        ∃ C', (∀ x, C' x → C x) ∧ C' w' ∧ wpAnyM P md ops Q n (fun listed' a' w' => Region.seqB md ops (ops.size - n) n listed' = true ∧ T a' w') r.length C' (listed.setIfInBounds j true) a' w' :=
      fun a' w' ⟨C', hle, hC', hm⟩ => ⟨C', hle, hC', wpAnyM_plan hsel hs hc hn hQ r C' _ a' w' (inv.set hr' hin) hB' hC' hm⟩
    unfold Go.wpOp
    simp only [ho]
    unfold wpList at h'
    by_cases hw : Region.wanted o (yielded ops a.tmps) = true
    · rw [if_pos hw] at h' ⊢
      rcases h' with h' | ⟨h1, a1, w1, h2⟩
      · exact .inl (Oper.wp_mono fin (wp_of_mixQ h'))
      · exact .inr ⟨h1, a1, w1, h2⟩
    · rw [if_neg hw] at h' ⊢
      exact fin _ _ h'
end
theorem region_mix {P : Program} {id : Nat} {Q : Exit → Act → World → Prop} {a : Act} {w : World} {l : List Oper} (plan : List (Bool × Nat)) (C : World → Prop) (hm : P.follows .mixedOrders = true) (hB : mixB .any l.toArray plan = true)
    (hC : C w.drew) (h : wpMix P l.toArray (NoPanic Q) (fun a' w' => wpList P l.toArray (NoPanic Q) (l.drop plan.length) a' w') (planOps l plan) C a w.drew) : (Code.region id l.toArray true).wp P Q a w := by
  refine wp_region_noPanic ?_
  simp only [mixB, Bool.and_eq_true, decide_eq_true_eq] at hB
  obtain ⟨⟨⟨⟨hsel, hn⟩, hs⟩, hc⟩, hlex⟩ := hB
  have hn' : plan.length < l.length := by simpa using hn
  have hdl : (l.drop plan.length).length = l.toArray.size - plan.length := by simp
  have inv0 : HeadInv .any l.toArray plan.length (Array.replicate l.toArray.size false) :=
    ⟨by simp, fun j oj _ hl => (by rw [getD_replicate_false] at hl; cases hl), fun t _ ht => getD_in (by simpa using ht) (getD_replicate_false _ _)⟩
  have H := wpAnyM_plan (md := .any) (P := P) (Q := NoPanic Q) hsel hs hc hn (fun _ _ _ _ _ h => h) plan C _ a w.drew inv0 hlex hC h
  refine wp_region_any hm ?_
  have := wpAny_of_M (Q := NoPanic Q) (g := l.toArray.size - plan.length) (fun listed a' w' hL => by
    have := wpAny_of_seq (md := .any) (Q' := NoPanic Q) (l.drop plan.length) plan.length listed a' w' (fun j => by simp [List.getElem?_drop]) (by rw [hdl]; exact hL.1) hL.2
    rwa [hdl] at this) _ _ _ _ _ H
  rw [show plan.length + (l.toArray.size - plan.length) = l.toArray.size by omega] at this
  exact this
theorem put_defers' (a : Act) (d : Option Nat) (v : Value) : (a.put d v).defers = a.defers := by cases d <;> rfl
/-- What is asked where a call panics: whatever the temporaries. -/
def AnyTmps (Q : Exit → Act → World → Prop) : Exit → Act → World → Prop
  | .panic c, a, w => ∀ a' : Act, a'.defers = a.defers → Q (.panic c) a' w
  | e, a, w => Q e a w
theorem AnyTmps.imp {Q : Exit → Act → World → Prop} {e : Exit} {a : Act} {w : World} (h : AnyTmps Q e a w) : Q e a w := by
  cases e <;> first | exact h | exact h a rfl
/-- The same, where a call may panic. -/
theorem region_mixP {P : Program} {id : Nat} {Q : Exit → Act → World → Prop} {a : Act} {w : World} {l : List Oper} (plan : List (Bool × Nat)) (C : World → Prop) (hm : P.follows .mixedOrders = true) (hB : mixB .any l.toArray plan = true)
    (hC : C w.drew) (h : wpMix P l.toArray (AnyTmps Q) (fun a' w' => wpList P l.toArray (AnyTmps Q) (l.drop plan.length) a' w') (planOps l plan) C a w.drew) : (Code.region id l.toArray true).wp P Q a w := by
  refine Code.wp_mono (fun _ _ _ => AnyTmps.imp) ?_
  simp only [mixB, Bool.and_eq_true, decide_eq_true_eq] at hB
  obtain ⟨⟨⟨⟨hsel, hn⟩, hs⟩, hc⟩, hlex⟩ := hB
  have hn' : plan.length < l.length := by simpa using hn
  have hdl : (l.drop plan.length).length = l.toArray.size - plan.length := by simp
  have inv0 : HeadInv .any l.toArray plan.length (Array.replicate l.toArray.size false) :=
    ⟨by simp, fun j oj _ hl => (by rw [getD_replicate_false] at hl; cases hl), fun t _ ht => getD_in (by simpa using ht) (getD_replicate_false _ _)⟩
  have H := wpAnyM_plan (md := .any) (P := P) (Q := AnyTmps Q) hsel hs hc hn (fun _ d a1 v _ h a' e => h a' (e.trans (put_defers' a1 d v).symm)) plan C _ a w.drew inv0 hlex hC h
  refine wp_region_any hm ?_
  have := wpAny_of_M (Q := AnyTmps Q) (g := l.toArray.size - plan.length) (fun listed a' w' hL => by
    have := wpAny_of_seq (md := .any) (Q' := AnyTmps Q) (l.drop plan.length) plan.length listed a' w' (fun j => by simp [List.getElem?_drop]) (by rw [hdl]; exact hL.1) hL.2
    rwa [hdl] at this) _ _ _ _ _ H
  rw [show plan.length + (l.toArray.size - plan.length) = l.toArray.size by omega] at this
  exact this
/-- A row of operations that read: in every world of the class, given as a family. -/
theorem mix_seg {P : Program} {ops : Array Oper} {Q : Exit → Act → World → Prop} {T : Act → World → Prop} {C : World → Prop} {w : World} (seg : List Oper) {rest : List (Bool × Oper)} : ∀ {a : Act}, (seg.all pureB = true) → C w →
    (∀ (ι : Type) (_ : Nonempty ι) (F : ι → World), (∀ n, C (F n)) → wpQuiet P ops (fun w' => ∃ n, w' = F n) (fun a' => wpMix P ops Q T rest C a' w) seg a) →
    wpMix P ops Q T (seg.map (fun o => (false, o)) ++ rest) C a w := by
  intro a hp hC h
  have h' := h { w' : World // C w' } ⟨⟨w, hC⟩⟩ Subtype.val (fun n => n.2)
  have hcl : (fun w' => ∃ n : { w' : World // C w' }, w' = n.1) = C := by
    funext w'; apply propext; exact ⟨fun ⟨n, e⟩ => e ▸ n.2, fun g => ⟨⟨w', g⟩, rfl⟩⟩
  rw [hcl] at h'
  clear h hcl
  induction seg generalizing a with
  | nil => exact h'
  | cons o seg ih =>
    simp only [List.all_cons, Bool.and_eq_true] at hp
    rw [List.map_cons, List.cons_append]
    unfold wpQuiet at h'
    by_cases hw : Region.wanted o (yielded ops a.tmps) = true
    · rw [if_pos hw] at h'
      obtain ⟨v, hv, hn⟩ := h'
      refine ⟨v, .inl ⟨hw, fun w1 hw1 => ?_⟩, ih hp.2 hn⟩
      have := hv w1 hw1
      unfold Oper.quietAt at this
      generalize hr : (execOp a.eval o).run P w1 = r at this
      cases r with
      | ok n w2 =>
        cases n <;> simp only [Oper.quietUpon] at this
        case value u => obtain ⟨rfl, rfl⟩ := this; exact .inl rfl
        case skip => obtain ⟨rfl, rfl⟩ := this; exact .inr ⟨rfl, rfl⟩
        case enter f args => exact absurd hr (never_enter hp.1)
      | halt x w2 => simp only [Oper.quietUpon] at this
    · rw [if_neg hw] at h'
      exact ⟨undef, .inr ⟨by simpa using hw, rfl⟩, ih hp.2 h'⟩
/-- One operation that turns the world; the class stays. -/
theorem mix_eff {P : Program} {ops : Array Oper} {Q : Exit → Act → World → Prop} {T : Act → World → Prop} {C : World → Prop} {w : World} {o : Oper} {rest : List (Bool × Oper)} {a : Act}
    (h : ∀ K : Act → World → Prop, (∀ a' w', (∃ C', (∀ x, C' x → C x) ∧ C' w' ∧ wpMix P ops Q T rest C' a' w') → K a' w') → wpList P ops (mixQ Q K) [o] a w) :
    wpMix P ops Q T ((true, o) :: rest) C a w := h _ (fun _ _ g => g)
theorem mix_on {P : Program} {ops : Array Oper} {Q : Exit → Act → World → Prop} {T : Act → World → Prop} {C : World → Prop} {w : World} {rest : List (Bool × Oper)} {a : Act} {K : Act → World → Prop}
    (hK : ∀ a' w', (∃ C', (∀ x, C' x → C x) ∧ C' w' ∧ wpMix P ops Q T rest C' a' w') → K a' w') (hC : C w) (h : wpMix P ops Q T rest C a w) : mixQ Q K .normal a w := hK a w ⟨C, fun _ g => g, hC, h⟩
theorem mix_on' {P : Program} {ops : Array Oper} {Q : Exit → Act → World → Prop} {T : Act → World → Prop} {C : World → Prop} {w : World} {rest : List (Bool × Oper)} {a : Act} {K : Act → World → Prop} (C' : World → Prop)
    (hK : ∀ a' w', (∃ C', (∀ x, C' x → C x) ∧ C' w' ∧ wpMix P ops Q T rest C' a' w') → K a' w') (hle : ∀ x, C' x → C x) (hC : C' w) (h : wpMix P ops Q T rest C' a w) : mixQ Q K .normal a w := hK a w ⟨C', hle, hC, h⟩
end Go.Proofs.YtcgllipcnmlkbaaDoor
namespace Go.Proofs.YtcgllipcnmlkbaaDoor
open Go.RowKit Sets Tr
def nd9 (x : Nd) : List Value := [.int .u8 x.k, .int .u64 (wd x.s 0), .int .u64 (wd x.s 1), .int .u64 (wd x.s 2), .int .u64 (wd x.s 3), .int .i64 x.a, .int .i64 x.b, .int .i64 x.mn, .int .i64 x.mx]
/-- an int -/
def I64 (a : Int) : Prop := -9223372036854775808 ≤ a ∧ a ≤ 9223372036854775807
structure NdOk (x : Nd) : Prop where
  k : x.k < 256
  s : x.s < 2 ^ 256
  a : I64 x.a
  b : I64 x.b
  mn : I64 x.mn
  mx : I64 x.mx
theorem beq_words {S T : Nat} (hS : S < 2 ^ 256) (hT : T < 2 ^ 256) :
    (((wd S 0 : Nat) : Int) == ((wd T 0 : Nat) : Int) && ((wd S 1 : Nat) : Int) == ((wd T 1 : Nat) : Int) && ((wd S 2 : Nat) : Int) == ((wd T 2 : Nat) : Int) && ((wd S 3 : Nat) : Int) == ((wd T 3 : Nat) : Int)) = decide (S = T) := by
  by_cases h : S = T
  · subst h; simp
  · rw [decide_eq_false h, Bool.eq_false_iff]
    intro hh
    simp only [Bool.and_eq_true, beq_iff_eq] at hh
    refine h (ext_words hS hT (fun i hi => ?_))
    have : i = 0 ∨ i = 1 ∨ i = 2 ∨ i = 3 := by omega
    rcases this with rfl | rfl | rfl | rfl <;> omega
theorem eqSet9999 (a b c d a' b' c' d' : Int) (w : World) : (Op.equalIn 9999 52 (.agg #[.int .u64 a, .int .u64 b, .int .u64 c, .int .u64 d]) (.agg #[.int .u64 a', .int .u64 b', .int .u64 c', .int .u64 d'])).run Tryd.prog w = .ok (a == a' && b == b' && c == c' && d == d') w := by
  have u3 := Tryd.underlying24
  have a3 := Tryd.isAgg24
  have z3 := Tryd.sizeOf24
  rw [show (9999 : Nat) = 9998 + 1 from rfl, Op.equalIn]
  simp only [Sem.run_bind, run_underlying Tryd.underlying52, Result.andThen_ok]
  simp only [Std.Legacy.Range.forIn_eq_forIn_range', Std.Legacy.Range.size, Nat.sub_zero, Nat.add_sub_cancel, Nat.div_one, List.range'_succ, List.range'_zero, List.forIn_cons, List.forIn_nil]
  go_simp
  by_cases h1 : a = a' <;> by_cases h2 : b = b' <;> by_cases h3 : c = c' <;> by_cases h4 : d = d' <;> simp [h1, h2, h3, h4]
theorem part_one (t : TypeId) (xs : Array Value) (o : Nat) (v : Value) (w : World) (h : (isAgg t).run Tryd.prog w = .ok false w) (hv : xs[o]? = some v) : (part t xs o).run Tryd.prog w = .ok v w := by
  unfold part
  simp only [Sem.run_bind, h, Result.andThen_ok, hv]
  rfl
theorem part_set (x : Nd) (w : World) : (part 52 (nd9 x).toArray 1).run Tryd.prog w = .ok (.agg #[.int .u64 (wd x.s 0), .int .u64 (wd x.s 1), .int .u64 (wd x.s 2), .int .u64 (wd x.s 3)]) w := by
  have h1 : (isAgg 52).run Tryd.prog w = .ok true w := by kernel_rfl
  have h2 : (sizeOf 52).run Tryd.prog w = .ok 4 w := by kernel_rfl
  unfold part
  simp only [Sem.run_bind, h1, h2, Result.andThen_ok, if_true, Sem.run_pure]
  rfl
theorem six {α : Type} (l : List α) (h : l.length = 6) : ∃ a b c d e f, l = [a, b, c, d, e, f] := by
  rcases l with _ | ⟨a, _ | ⟨b, _ | ⟨c, _ | ⟨d, _ | ⟨e, _ | ⟨f, _ | ⟨g, l⟩⟩⟩⟩⟩⟩⟩ <;> simp at h
  exact ⟨a, b, c, d, e, f, rfl⟩
theorem fieldsNode : ∃ f1 f2 f3 f4 f5 f6 : Field, (Tryd.prog.fieldsOf 96).toList = [f1, f2, f3, f4, f5, f6] ∧ [f1, f2, f3, f4, f5, f6].map (fun f => (f.name, f.type, f.offset)) =
    [("Kind", 5, 0), ("Set", 52, 1), ("A", 3, 5), ("B", 3, 6), ("Min", 3, 7), ("Max", 3, 8)] := by
  have hf : (Tryd.prog.fieldsOf 96).toList.map (fun f => (f.name, f.type, f.offset)) = [("Kind", 5, 0), ("Set", 52, 1), ("A", 3, 5), ("B", 3, 6), ("Min", 3, 7), ("Max", 3, 8)] := by kernel_rfl
  generalize (Tryd.prog.fieldsOf 96).toList = fs at hf ⊢
  have hl := congrArg List.length hf
  simp only [List.length_map, List.length_cons, List.length_nil] at hl
  obtain ⟨f1, f2, f3, f4, f5, f6, rfl⟩ := six fs hl
  exact ⟨f1, f2, f3, f4, f5, f6, rfl, hf⟩
set_option maxRecDepth 100000 in
theorem eqNode (x y : Nd) (hx : x.s < 2 ^ 256) (hy : y.s < 2 ^ 256) (w : World) :
    (Op.equalIn 10000 96 (.agg (nd9 x).toArray) (.agg (nd9 y).toArray)).run Tryd.prog w = .ok (decide (x = y)) w := by
  have he : decide (x = y) = (decide (x.k = y.k) && (decide (x.s = y.s) && (decide (x.a = y.a) && (decide (x.b = y.b) && (decide (x.mn = y.mn) && decide (x.mx = y.mx)))))) := by
    cases x; cases y
    simp [Nd.mk.injEq]
  have hS := beq_words hx hy
  have a1 : (isAgg 5).run Tryd.prog w = .ok false w := by kernel_rfl
  have a2 : (isAgg 3).run Tryd.prog w = .ok false w := by kernel_rfl
  obtain ⟨f1, f2, f3, f4, f5, f6, e1, e2⟩ := fieldsNode
  simp only [List.map_cons, List.map_nil, List.cons.injEq, Prod.mk.injEq, and_true] at e2
  obtain ⟨⟨n1, t1, o1⟩, ⟨n2, t2, o2⟩, ⟨n3, t3, o3⟩, ⟨n4, t4, o4⟩, ⟨n5, t5, o5⟩, n6, t6, o6⟩ := e2
  rw [show (10000 : Nat) = 9999 + 1 from rfl, run_equalIn_struct w 9999 96 _ _ (by kernel_rfl) (by kernel_rfl), e1, he]
  unfold Op.eqFields
  rw [n1, t1, o1, if_pos (by decide)]
  simp only [Sem.run_bind, part_one _ (nd9 x).toArray 0 (.int .u8 x.k) w a1 rfl, part_one _ (nd9 y).toArray 0 (.int .u8 y.k) w a1 rfl, Result.andThen_ok]
  rw [run_equalIn_int w 9998 5 .u8 .u8 _ _ Tryd.underlying5]
  by_cases h1 : x.k = y.k
  case neg => (have : ((x.k : Int) == (y.k : Int)) = false := by simp only [beq_eq_false_iff_ne]; omega); simp [this, h1]
  simp only [h1, BEq.rfl, Result.andThen_ok, Bool.not_true, Bool.false_eq_true, if_false, decide_true, Bool.true_and]
  unfold Op.eqFields
  rw [n2, t2, o2, if_pos (by decide)]
  simp only [Sem.run_bind, part_set, Result.andThen_ok]
  rw [eqSet9999, hS]
  by_cases h2 : x.s = y.s
  case neg => simp [h2]
  simp only [h2, Result.andThen_ok, Bool.not_true, Bool.false_eq_true, if_false, decide_true, Bool.true_and]
  unfold Op.eqFields
  rw [n3, t3, o3, if_pos (by decide)]
  simp only [Sem.run_bind, part_one _ (nd9 x).toArray 5 (.int .i64 x.a) w a2 rfl, part_one _ (nd9 y).toArray 5 (.int .i64 y.a) w a2 rfl, Result.andThen_ok]
  rw [run_equalIn_int w 9998 3 .i64 .i64 _ _ Tryd.underlying3]
  by_cases h3 : x.a = y.a
  case neg => (have : ((x.a : Int) == (y.a : Int)) = false := by simp only [beq_eq_false_iff_ne]; omega); simp [this, h3]
  simp only [h3, BEq.rfl, Result.andThen_ok, Bool.not_true, Bool.false_eq_true, if_false, decide_true, Bool.true_and]
  unfold Op.eqFields
  rw [n4, t4, o4, if_pos (by decide)]
  simp only [Sem.run_bind, part_one _ (nd9 x).toArray 6 (.int .i64 x.b) w a2 rfl, part_one _ (nd9 y).toArray 6 (.int .i64 y.b) w a2 rfl, Result.andThen_ok]
  rw [run_equalIn_int w 9998 3 .i64 .i64 _ _ Tryd.underlying3]
  by_cases h4 : x.b = y.b
  case neg => (have : ((x.b : Int) == (y.b : Int)) = false := by simp only [beq_eq_false_iff_ne]; omega); simp [this, h4]
  simp only [h4, BEq.rfl, Result.andThen_ok, Bool.not_true, Bool.false_eq_true, if_false, decide_true, Bool.true_and]
  unfold Op.eqFields
  rw [n5, t5, o5, if_pos (by decide)]
  simp only [Sem.run_bind, part_one _ (nd9 x).toArray 7 (.int .i64 x.mn) w a2 rfl, part_one _ (nd9 y).toArray 7 (.int .i64 y.mn) w a2 rfl, Result.andThen_ok]
  rw [run_equalIn_int w 9998 3 .i64 .i64 _ _ Tryd.underlying3]
  by_cases h5 : x.mn = y.mn
  case neg => (have : ((x.mn : Int) == (y.mn : Int)) = false := by simp only [beq_eq_false_iff_ne]; omega); simp [this, h5]
  simp only [h5, BEq.rfl, Result.andThen_ok, Bool.not_true, Bool.false_eq_true, if_false, decide_true, Bool.true_and]
  unfold Op.eqFields
  rw [n6, t6, o6, if_pos (by decide)]
  simp only [Sem.run_bind, part_one _ (nd9 x).toArray 8 (.int .i64 x.mx) w a2 rfl, part_one _ (nd9 y).toArray 8 (.int .i64 y.mx) w a2 rfl, Result.andThen_ok]
  rw [run_equalIn_int w 9998 3 .i64 .i64 _ _ Tryd.underlying3]
  by_cases h6 : x.mx = y.mx
  case neg => (have : ((x.mx : Int) == (y.mx : Int)) = false := by simp only [beq_eq_false_iff_ne]; omega); simp [this, h6]
  simp only [h6, BEq.rfl, Result.andThen_ok, Bool.not_true, Bool.false_eq_true, if_false, decide_true]
  rfl
end Go.Proofs.YtcgllipcnmlkbaaDoor
namespace Go.Proofs.YtcgllipcnmlkbaaDoor
open Go.RowKit Sets Tr
theorem wd_zero (i : Nat) : wd 0 i = 0 := by unfold wd; rw [Nat.zero_div]
/-- A node lies in block B. -/
structure BoxAt (w : World) (B : Nat) (x : Nd) : Prop where
  row : w.heap[B]? = some (.cells (nd9 x).toArray 96 (0, 0))
theorem BoxAt.new (w : World) (x : Nd) : BoxAt (w.alloc (.cells (nd9 x).toArray 96)) w.heap.size x := ⟨heap_alloc_new w _⟩
theorem BoxAt.lt {w : World} {B : Nat} {x : Nd} (h : BoxAt w B x) : B < w.heap.size := (Array.getElem?_eq_some_iff.1 h.row).1
theorem BoxAt.kept {w w' : World} {A B : Nat} {x : Nd} (h : BoxAt w B x) (hb : Below A w w') (hA : B < A) : BoxAt w' B x := ⟨by rw [hb.block _ hA]; exact h.row⟩
theorem BoxAt.cell {w : World} {B : Nat} {x : Nd} (h : BoxAt w B x) (q : Nat) (v : Value) (hv : (nd9 x)[q]? = some v) : w.cell? ⟨B, q, none⟩ = some v := by
  rw [cell_of_row w B q _ _ _ h.row]
  rw [List.getElem?_toArray]; exact hv
theorem BoxAt.range {w : World} {B : Nat} {x : Nd} (h : BoxAt w B x) : w.rangeAt B 0 (nd9 x) := by
  intro j v hv
  rw [Nat.zero_add]
  exact h.cell j v hv
theorem sizeNode (x : Nd) : (Tryd.prog.info? 96).map (·.size) = some (nd9 x).length := by
  show _ = some 9
  kernel_rfl
theorem BoxAt.load {w : World} {B : Nat} {x : Nd} (h : BoxAt w B x) : (Instr.loadAt 96 (.pointer (some ⟨B, 0, none⟩))).run Tryd.prog w = .ok (.agg (nd9 x).toArray) w :=
  run_loadAt_mid w B 0 96 (nd9 x) _ h.range Tryd.underlying96 rfl (sizeNode x)
set_option maxHeartbeats 800000 in
theorem countable_any (m n : Int) (w : World) : Calls Tryd.prog 56 #[.int .i64 m, .int .i64 n] w fun e w' => e = .returned (.bool (countable m n)) ∧ w = w' := by
  go_enter Tryd.func56, Tryd.ntmps56
  by_cases h1 : n = -1
  · subst h1
    by_cases h2 : m = 0
    · subst h2
      go_wp2
      go_ret
      exact ⟨rfl, rfl⟩
    · have h2' : (m == 0) = false := by simpa using h2
      go_wp2
      go_ret
      refine ⟨?_, rfl⟩
      unfold countable
      simp only [if_true, h2, false_or]
      by_cases h3 : m = 1 <;> simp [h3]
  · have h1' : (n == -1) = false := by simpa using h1
    by_cases h2 : 0 ≤ m
    · by_cases h3 : m ≤ n
      · go_wp2
        go_ret
        refine ⟨?_, rfl⟩
        unfold countable
        simp [h1, h2, h3]
      · go_wp2
        go_ret
        refine ⟨?_, rfl⟩
        unfold countable
        rw [if_neg h1, decide_eq_false (by omega)]; rfl
    · go_wp2
      go_ret
      refine ⟨?_, rfl⟩
      unfold countable
      rw [if_neg h1, decide_eq_false (by omega)]; rfl

theorem BoxAt.c {w : World} {B : Nat} {x : Nd} (h : BoxAt w B x) : w.cell? ⟨B, 0, none⟩ = some (.int .u8 x.k) ∧ w.cell? ⟨B, 5, none⟩ = some (.int .i64 x.a) ∧ w.cell? ⟨B, 6, none⟩ = some (.int .i64 x.b) ∧ w.cell? ⟨B, 7, none⟩ = some (.int .i64 x.mn) ∧ w.cell? ⟨B, 8, none⟩ = some (.int .i64 x.mx) :=
  ⟨h.cell 0 _ rfl, h.cell 5 _ rfl, h.cell 6 _ rfl, h.cell 7 _ rfl, h.cell 8 _ rfl⟩
theorem BoxAt.sets {w : World} {B : Nat} {x : Nd} (h : BoxAt w B x) : w.cell? ⟨B, 1, none⟩ = some (.int .u64 (wd x.s 0)) ∧ w.cell? ⟨B, 2, none⟩ = some (.int .u64 (wd x.s 1)) ∧ w.cell? ⟨B, 3, none⟩ = some (.int .u64 (wd x.s 2)) ∧ w.cell? ⟨B, 4, none⟩ = some (.int .u64 (wd x.s 3)) :=
  ⟨h.cell 1 _ rfl, h.cell 2 _ rfl, h.cell 3 _ rfl, h.cell 4 _ rfl⟩
theorem wpList_eql_node {ops : Array Oper} {rest : List Oper} {o : Oper} {a : Act} {w : World} {Q : Exit → Act → World → Prop} (hgd : o.guard = none) (x y : Operand) (t : TypeId)
    (ho : o.op = .binOp .eql 96 x y t) (X Y : Nd) (hx : a.eval x = .agg (nd9 X).toArray) (hy : a.eval y = .agg (nd9 Y).toArray) (hX : X.s < 2 ^ 256) (hY : Y.s < 2 ^ 256)
    (h : wpList Tryd.prog ops Q rest (a.put o.dst (.bool (decide (X = Y)))) w) : wpList Tryd.prog ops Q (o :: rest) a w := by
  have hg : Tryd.prog.eqGuardType Tryd.prog.depth 96 = false := by kernel_rfl
  refine wpList_plain hgd fun _ hK => ?_
  unfold Oper.wp execOp
  simp only [ho, hx, hy, Sem.run_bind, run_eqGuard_agg w .eql 96 x y _ _ hg, run_eql_struct, eqNode X Y hX hY, Result.andThen_ok, Sem.run_pure]
  exact hK _ _ h
theorem wpList_eql_node0 {ops : Array Oper} {rest : List Oper} {o : Oper} {a : Act} {w : World} {Q : Exit → Act → World → Prop} (hgd : o.guard = none) (x y : Operand) (t : TypeId)
    (ho : o.op = .binOp .eql 96 x y t) (X : Nd) (k : Nat) (na nb mn mx : Int) (hx : a.eval x = .agg (nd9 X).toArray) (hy : a.eval y = .agg #[.int .u8 k, .int .u64 0, .int .u64 0, .int .u64 0, .int .u64 0, .int .i64 na, .int .i64 nb, .int .i64 mn, .int .i64 mx])
    (hX : X.s < 2 ^ 256) (h : wpList Tryd.prog ops Q rest (a.put o.dst (.bool (decide (X = ⟨k, 0, na, nb, mn, mx⟩)))) w) : wpList Tryd.prog ops Q (o :: rest) a w :=
  wpList_eql_node hgd x y t ho X ⟨k, 0, na, nb, mn, mx⟩ hx (by rw [hy]; simp [nd9, wd_zero]) hX (by decide : (0 : Nat) < 2 ^ 256) h
theorem nd9_get (x : Nd) : (nd9 x)[0]? = some (.int .u8 x.k) ∧ (nd9 x)[1]? = some (.int .u64 (wd x.s 0)) ∧ (nd9 x)[2]? = some (.int .u64 (wd x.s 1)) ∧ (nd9 x)[3]? = some (.int .u64 (wd x.s 2)) ∧ (nd9 x)[4]? = some (.int .u64 (wd x.s 3)) ∧
    (nd9 x)[5]? = some (.int .i64 x.a) ∧ (nd9 x)[6]? = some (.int .i64 x.b) ∧ (nd9 x)[7]? = some (.int .i64 x.mn) ∧ (nd9 x)[8]? = some (.int .i64 x.mx) := ⟨rfl, rfl, rfl, rfl, rfl, rfl, rfl, rfl, rfl⟩
theorem zlt : (0 : Nat) < 2 ^ 256 := by decide
theorem zeroNode (w : World) : (zeroValue 96).run Tryd.prog w = .ok (.agg #[.int .u8 0, .int .u64 0, .int .u64 0, .int .u64 0, .int .u64 0, .int .i64 0, .int .i64 0, .int .i64 0, .int .i64 0]) w := by kernel_rfl
set_option maxHeartbeats 1600000 in
set_option maxRecDepth 100000 in
theorem sound_any (x : Nd) (hx : NdOk x) (w : World) : Calls Tryd.prog 41 #[.agg (nd9 x).toArray] w fun e w' => e = .returned (.bool (sound x)) ∧ Below w.heap.size w w' := by
  have hxs := hx.s
  have hb := (Below.refl w.heap.size w).alloc (Nat.le_refl _) (.cells (nd9 x).toArray 96)
  have hz := zeroNode
  have HB := Lib.hid hb
  obtain ⟨c0, c1, c2, c3, c4, c5, c6, c7, c8⟩ := nd9_get x
  clear hb
  go_enter Tryd.func41, Tryd.ntmps41
  have HX := Lib.hid hxs
  have HK := Lib.hid hx.k
  clear hx hxs
  obtain ⟨k, s, a, b, mn, mx⟩ := x
  simp only at *
  by_cases h1 : k = 1
  · subst h1
    go_wp2_with (refine wpList_eql_node0 rfl _ _ _ rfl ⟨1, s, a, b, mn, mx⟩ 1 0 0 0 0 rfl rfl HX.out ?_)
    go_ret
    refine ⟨?_, HB.out⟩
    unfold sound
    simp
  have g1 : ((k : Int) == 1) = false := by simp only [beq_eq_false_iff_ne]; omega
  by_cases h2 : k = 2
  · subst h2
    go_wp2_with (refine wpList_eql_node rfl _ _ _ rfl ⟨2, s, a, b, mn, mx⟩ ⟨2, s, 0, 0, 0, 0⟩ rfl rfl HX.out HX.out ?_)
    go_ret
    refine ⟨?_, HB.out⟩
    unfold sound
    simp
  have g2 : ((k : Int) == 2) = false := by simp only [beq_eq_false_iff_ne]; omega
  by_cases h3 : k = 3
  · subst h3
    go_wp2_with (refine wpList_eql_node0 rfl _ _ _ rfl ⟨3, s, a, b, mn, mx⟩ 3 a b 0 0 rfl rfl HX.out ?_)
    go_ret
    refine ⟨?_, HB.out⟩
    unfold sound
    simp
  have g3 : ((k : Int) == 3) = false := by simp only [beq_eq_false_iff_ne]; omega
  by_cases h4 : k = 4
  · subst h4
    go_wp2_with (refine wpList_eql_node0 rfl _ _ _ rfl ⟨4, s, a, b, mn, mx⟩ 4 a b 0 0 rfl rfl HX.out ?_)
    go_ret
    refine ⟨?_, HB.out⟩
    unfold sound
    simp
  have g4 : ((k : Int) == 4) = false := by simp only [beq_eq_false_iff_ne]; omega
  by_cases h5 : k = 5
  · subst h5
    have he : decide ((⟨5, s, a, b, mn, mx⟩ : Nd) = ⟨5, 0, a, 0, mn, mx⟩) = decide (s = 0 ∧ b = 0) := by simp
    by_cases hsb : s = 0 ∧ b = 0
    · rw [decide_eq_true hsb] at he
      have HE := Lib.hid he
      have HS := Lib.hid hsb
      clear he hsb
      go_wp2_with (first | (refine wpList_eql_node0 rfl _ _ _ rfl ⟨5, s, a, b, mn, mx⟩ 5 a 0 mn mx rfl rfl HX.out ?_; rw [HE.out]) | (go_at_call 56; refine (countable_any _ _ _).mono ?_; rintro e w' ⟨rfl, rfl⟩))
      go_ret
      refine ⟨?_, HB.out⟩
      unfold sound
      simp [HS.out]
    · rw [decide_eq_false hsb] at he
      have HE := Lib.hid he
      have HS := Lib.hid hsb
      clear he hsb
      go_wp2_with (refine wpList_eql_node0 rfl _ _ _ rfl ⟨5, s, a, b, mn, mx⟩ 5 a 0 mn mx rfl rfl HX.out ?_; rw [HE.out])
      go_ret
      refine ⟨?_, HB.out⟩
      unfold sound
      simp [HS.out]
  have g5 : ((k : Int) == 5) = false := by simp only [beq_eq_false_iff_ne]; omega
  go_wp2_with fail
  go_ret
  refine ⟨?_, HB.out⟩
  unfold sound
  simp [h1, h2, h3, h4, h5]
end Go.Proofs.YtcgllipcnmlkbaaDoor
namespace Go.Proofs.YtcgllipcnmlkbaaDoor
open Go.RowKit Sets Tr
/-- v is a slice of these ints, in a block from B on. -/
def IntsAt (B : Nat) (w : World) (v : Value) (K : List Int) : Prop :=
  ∃ a cap, v = .slice a K.length cap ∧ ∀ i, i < K.length → ∃ b, B ≤ b ∧ a = some ⟨b, 0, none⟩ ∧ w.cell? ⟨b, i, none⟩ = some (.int .i64 (K.getD i 0))
theorem IntsAt.kept {B : Nat} {w w' : World} {v : Value} {K : List Int} (h : IntsAt B w v K) (hb : Below w.heap.size w w') : IntsAt B w' v K := by
  obtain ⟨a, cap, rfl, hc⟩ := h
  refine ⟨a, cap, rfl, fun i hi => ?_⟩
  obtain ⟨b, h1, h2, h3⟩ := hc i hi
  exact ⟨b, h1, h2, (hb.cell (World.block_lt_of_cell? _ _ h3)).trans h3⟩
theorem ints_nil (B : Nat) (w : World) : IntsAt B w (.slice none 0 0) [] := ⟨none, 0, rfl, fun i hi => by cases hi⟩
theorem ints_one (w : World) (B : Nat) (hB : B ≤ w.heap.size) (a : Int) (t : TypeId) : IntsAt B (w.alloc (.cells #[.int .i64 a] t)) (.slice (some ⟨w.heap.size, 0, none⟩) 1 1) [a] :=
  ⟨_, 1, rfl, fun i hi => ⟨w.heap.size, hB, rfl, by
    have : i = 0 := by simp at hi; omega
    subst this
    simp⟩⟩
theorem ints_two (w : World) (B : Nat) (hB : B ≤ w.heap.size) (a b : Int) (t : TypeId) : IntsAt B (w.alloc (.cells #[.int .i64 a, .int .i64 b] t)) (.slice (some ⟨w.heap.size, 0, none⟩) 2 2) [a, b] :=
  ⟨_, 2, rfl, fun i hi => ⟨w.heap.size, hB, rfl, by
    have : i = 0 ∨ i = 1 := by simp at hi; omega
    rcases this with rfl | rfl <;> simp⟩⟩
set_option maxHeartbeats 1600000 in
set_option maxRecDepth 100000 in
theorem below_any (x : Nd) (w : World) : Calls Tryd.prog 43 #[.agg (nd9 x).toArray] w fun e w' => ∃ v, e = .returned v ∧ IntsAt w.heap.size w' v (kids x) ∧ Below w.heap.size w w' := by
  have hb := (Below.refl w.heap.size w).alloc (Nat.le_refl _) (.cells (nd9 x).toArray 96)
  have HB := Lib.hid hb
  obtain ⟨c0, -, -, -, -, c5, c6, -, -⟩ := nd9_get x
  clear hb
  have hs2 : (w.alloc (.cells (nd9 x).toArray 96)).heap.size = w.heap.size + 1 := by simp
  have hi1 := ints_one (w.alloc (.cells (nd9 x).toArray 96)) w.heap.size (by rw [hs2]; omega) x.a 3
  have hi2 := ints_two (w.alloc (.cells (nd9 x).toArray 96)) w.heap.size (by rw [hs2]; omega) x.a x.b 3
  rw [hs2] at hi1 hi2
  have HI1 := Lib.hid hi1
  have HI2 := Lib.hid hi2
  clear hi1 hi2 hs2
  have HK := Lib.hid (show kids x = if x.k = 3 ∨ x.k = 4 then [x.a, x.b] else if x.k = 5 then [x.a] else [] from rfl)
  go_enter Tryd.func43, Tryd.ntmps43
  by_cases h34 : x.k = 3 ∨ x.k = 4
  · have e := HK.out
    rw [if_pos h34] at e
    have E := Lib.hid e
    clear e
    rcases h34 with h | h
    all_goals
      rw [h] at c0
      clear h
      go_wp2_with fail
      go_ret
      refine ⟨_, rfl, ?_, HB.out.alloc (by simp) _⟩
      rw [E.out]
      exact HI2.out
  · have e := HK.out
    rw [if_neg h34] at e
    have g3 : ((x.k : Int) == 3) = false := by simp only [beq_eq_false_iff_ne]; omega
    have g4 : ((x.k : Int) == 4) = false := by simp only [beq_eq_false_iff_ne]; omega
    clear h34
    by_cases h5 : x.k = 5
    · rw [if_pos h5] at e
      have E := Lib.hid e
      clear e g3 g4
      rw [h5] at c0
      clear h5
      go_wp2_with fail
      go_ret
      refine ⟨_, rfl, ?_, HB.out.alloc (by simp) _⟩
      rw [E.out]
      exact HI1.out
    · rw [if_neg h5] at e
      have g5 : ((x.k : Int) == 5) = false := by simp only [beq_eq_false_iff_ne]; omega
      have E := Lib.hid e
      clear h5 e
      go_wp2_with fail
      go_ret
      refine ⟨_, rfl, ?_, HB.out⟩
      rw [E.out]
      exact ints_nil _ _
def copyOf (x : Nd) : Int := if x.k = 5 ∧ x.mx ≠ -1 then x.mx else 1
set_option maxHeartbeats 1600000 in
set_option maxRecDepth 100000 in
theorem copies_any (x : Nd) (w : World) : Calls Tryd.prog 45 #[.agg (nd9 x).toArray] w fun e w' => e = .returned (.int .i64 (copyOf x)) ∧ Below w.heap.size w w' := by
  have hb := (Below.refl w.heap.size w).alloc (Nat.le_refl _) (.cells (nd9 x).toArray 96)
  have HB := Lib.hid hb
  obtain ⟨c0, -, -, -, -, -, -, -, c8⟩ := nd9_get x
  clear hb
  go_enter Tryd.func45, Tryd.ntmps45
  by_cases h5 : x.k = 5
  · rw [h5] at c0
    have H5 := Lib.hid h5
    clear h5
    by_cases hm : x.mx = -1
    · rw [hm] at c8
      have HM := Lib.hid hm
      clear hm
      go_wp2_with fail
      go_ret
      exact ⟨by unfold copyOf; rw [if_neg (by rw [HM.out]; simp)]; rfl, HB.out⟩
    · have g : (x.mx != -1) = true := by simpa using hm
      have HM := Lib.hid hm
      clear hm
      go_wp2_with fail
      go_ret
      exact ⟨by unfold copyOf; rw [if_pos ⟨H5.out, HM.out⟩]; rfl, HB.out⟩
  · have g5 : ((x.k : Int) == 5) = false := by simp only [beq_eq_false_iff_ne]; omega
    have H5 := Lib.hid h5
    clear h5
    go_wp2_with fail
    go_ret
    exact ⟨by unfold copyOf; rw [if_neg (fun h => H5.out h.1)]; rfl, HB.out⟩
end Go.Proofs.YtcgllipcnmlkbaaDoor
namespace Go.Proofs.YtcgllipcnmlkbaaDoor
open Go.RowKit
/-- nothing that was there has turned but block B -/
structure But (B : Nat) (w w' : World) : Prop where
  os : w'.os = w.os
  tape : w'.tape = w.tape
  output : w'.output = w.output
  size : w.heap.size ≤ w'.heap.size
  block : ∀ k, k < w.heap.size → k ≠ B → w'.heap[k]? = w.heap[k]?
theorem But.refl (B : Nat) (w : World) : But B w w := ⟨rfl, rfl, rfl, Nat.le_refl _, fun _ _ _ => rfl⟩
theorem But.trans {B : Nat} {a b c : World} (h : But B a b) (k : But B b c) : But B a c :=
  ⟨k.os.trans h.os, k.tape.trans h.tape, k.output.trans h.output, Nat.le_trans h.size k.size, fun i hi hn => (k.block i (Nat.lt_of_lt_of_le hi h.size) hn).trans (h.block i hi hn)⟩
theorem But.of_below {B : Nat} {w w' : World} (h : Below w.heap.size w w') : But B w w' := ⟨h.os, h.tape, h.output, h.size, fun k hk _ => h.block k hk⟩
theorem But.alloc (B : Nat) (w : World) (o : Obj) : But B w (w.alloc o) := .of_below ((Below.refl _ w).alloc (Nat.le_refl _) o)
theorem But.set (B : Nat) (w : World) (i : Nat) (v : Value) : But B w (w.setCell ⟨B, i, none⟩ v) :=
  ⟨rfl, rfl, rfl, by simp, fun k _ hn => Below.heap_setCell w ⟨B, i, none⟩ v k hn⟩
theorem But.drew {B : Nat} {w w' : World} (h : But B w w') : But B w w'.drew := ⟨h.os, h.tape, h.output, h.size, h.block⟩
theorem But.below {A B : Nat} {W w w' : World} (h : Below A W w) (k : But B w w') (hA : A ≤ B) (hw : A ≤ w.heap.size) : Below A W w' :=
  h.trans ⟨k.os, k.tape, k.output, k.size, fun i hi => k.block i (by omega) (by omega)⟩
theorem But.cell {B : Nat} {w w' : World} (h : But B w w') {p : Addr} {v : Value} (hp : w.cell? p = some v) (hn : p.block ≠ B) : w'.cell? p = some v :=
  (World.cell?_of_block (w := w) (h.block p.block (World.block_lt_of_cell? w p hp) hn)).trans hp
end Go.Proofs.YtcgllipcnmlkbaaDoor
namespace Go.Proofs.YtcgllipcnmlkbaaDoor
open Go.RowKit Sets Tr
/-- Block u holds n answers. -/
def BoolsAt (w : World) (u n : Nat) (f : Nat → Bool) : Prop := w.rowIs u 4 n (fun j => .bool (f j))
theorem BoolsAt.set {w : World} {u n : Nat} {f : Nat → Bool} (h : BoolsAt w u n f) (i : Nat) (v : Bool) : BoolsAt (w.setCell ⟨u, i, none⟩ (.bool v)) u n (fun j => if j = i then v else f j) :=
  (World.rowIs.set h i (.bool v)).congr (fun j _ => by by_cases hj : j = i <;> simp [hj])
theorem BoolsAt.congr {w : World} {u n : Nat} {f g : Nat → Bool} (h : BoolsAt w u n f) (e : ∀ j, j < n → f j = g j) : BoolsAt w u n g := World.rowIs.congr h (fun j hj => by rw [e j hj])
theorem BoolsAt.kept {w w' : World} {u n : Nat} {f : Nat → Bool} (h : BoolsAt w u n f) (e : w'.heap[u]? = w.heap[u]?) : BoolsAt w' u n f := World.rowIs.of_block h e
theorem BoolsAt.alloc {w : World} {u n : Nat} {f : Nat → Bool} (h : BoolsAt w u n f) (o : Obj) : BoolsAt (w.alloc o) u n f := World.rowIs.alloc h o
theorem BoolsAt.cell {w : World} {u n : Nat} {f : Nat → Bool} (h : BoolsAt w u n f) {i : Nat} (hi : i < n) : w.cell? ⟨u, i, none⟩ = some (.bool (f i)) := World.rowIs.cell h hi
theorem BoolsAt.frozen {w : World} {u n : Nat} {f : Nat → Bool} (h : BoolsAt w u n f) (i : Nat) : w.frozen? ⟨u, i, none⟩ = false := World.rowIs.frozen h i
theorem BoolsAt.lt {w : World} {u n : Nat} {f : Nat → Bool} (h : BoolsAt w u n f) : u < w.heap.size := World.rowIs.lt h
/-- May these be used, below i? -/
def okB (f : Nat → Bool) (i : Nat) (K : List Int) : Prop := (∀ c ∈ K, 0 ≤ c ∧ c < i ∧ f c.toNat = false) ∧ K.Nodup
def mark (f : Nat → Bool) (K : List Int) (j : Nat) : Bool := f j || K.contains (j : Int)
theorem okB_snoc (f : Nat → Bool) (i : Nat) (L : List Int) (c : Int) : okB f i (L ++ [c]) ↔ okB f i L ∧ 0 ≤ c ∧ c < i ∧ mark f L c.toNat = false := by
  unfold okB mark
  rw [List.nodup_append]
  constructor
  · rintro ⟨h1, h2, -, h4⟩
    have hc := h1 c (by simp)
    refine ⟨⟨fun x hx => h1 x (by simp [hx]), h2⟩, hc.1, hc.2.1, ?_⟩
    rw [hc.2.2, Bool.false_or, Bool.eq_false_iff]
    intro h
    rw [List.contains_iff_mem, Int.toNat_of_nonneg hc.1] at h
    exact h4 c h c (by simp) rfl
  · rintro ⟨⟨h1, h2⟩, h3, h4, h5⟩
    rw [Bool.or_eq_false_iff, Int.toNat_of_nonneg h3] at h5
    refine ⟨fun x hx => ?_, h2, by simp, fun a ha b hb e => ?_⟩
    · rcases List.mem_append.1 hx with hx | hx
      · exact h1 x hx
      · rw [List.mem_singleton.1 hx]; exact ⟨h3, h4, h5.1⟩
    · rw [List.mem_singleton.1 hb] at e
      subst e
      have := h5.2
      rw [Bool.eq_false_iff] at this
      exact this (List.contains_iff_mem.2 ha)
theorem okB_prefix {f : Nat → Bool} {i : Nat} {L M : List Int} (h : okB f i (L ++ M)) : okB f i L :=
  ⟨fun c hc => h.1 c (by simp [hc]), (List.nodup_append.1 h.2).1⟩
theorem mark_snoc (f : Nat → Bool) (L : List Int) (c : Int) (hc : 0 ≤ c) (j : Nat) : mark f (L ++ [c]) j = if j = c.toNat then true else mark f L j := by
  unfold mark
  by_cases h : j = c.toNat
  · have : (j : Int) = c := by omega
    simp [h, Int.toNat_of_nonneg hc]
  · have : ¬ (j : Int) = c := by omega
    simp [h, this]
theorem mark_nil (f : Nat → Bool) : mark f [] = f := by funext j; simp [mark]
/-- what use leaves -/
def UseEnd (u n i : Nat) (f : Nat → Bool) (K : List Int) (w : World) (e : Ending) (w' : World) : Prop :=
  ∃ r g, e = .returned (.bool r) ∧ BoolsAt w' u n g ∧ But u w w' ∧ (r = true ↔ okB f i K) ∧ (r = true → g = mark f K)
set_option maxHeartbeats 3200000 in
set_option maxRecDepth 100000 in
theorem use_any (u n i cap B : Nat) (f : Nat → Bool) (v : Value) (K : List Int) (w : World) (hR : BoolsAt w u n f) (hi : i ≤ n) (hu : u < B) (hK : IntsAt B w v K) (hl : K.length ≤ 1000) :
    Calls Tryd.prog 42 #[.slice (some ⟨u, 0, none⟩) i cap, v] w (UseEnd u n i f K w) := by
  obtain ⟨a, cp, rfl, hc⟩ := hK
  go_enter Tryd.func42, Tryd.ntmps42
  go_wp2_with fail
  go_loopw [9] (fun x wr => ∃ m : Nat, x = .int .i64 m ∧ m ≤ K.length ∧ Hid (okB f i (K.take m)) ∧ BoolsAt wr u n (mark f (K.take m)) ∧ Hid (But u w wr)) (fun x _ => (K.length - intOf x).toNat)
  case atStart => exact ⟨0, rfl, Nat.zero_le _, Lib.hid ⟨by simp, by simp⟩, by rw [List.take_zero, mark_nil]; exact hR, Lib.hid (But.refl _ _)⟩
  case round =>
    obtain ⟨m, rfl, hm, HO, hB, HW⟩ := hrel
    by_cases hml : m < K.length
    · obtain ⟨b, hb, rfl, hx0⟩ := hc m hml
      clear hc
      have hx := HW.out.cell hx0 (by show b ≠ u; omega)
      have hdm : decide ((m : Int) < (K.length : Int)) = true := decide_eq_true (by omega)
      have htk : K.take (m + 1) = K.take m ++ [K.getD m 0] := by
        rw [List.take_add_one, List.getElem?_eq_getElem hml, List.getD_eq_getElem?_getD, List.getElem?_eq_getElem hml]; rfl
      have HTK := Lib.hid htk
      have HPre : Hid (okB f i K → okB f i (K.take m ++ [K.getD m 0])) := Lib.hid (fun h => by rw [← htk]; rw [← List.take_append_drop (m + 1) K] at h; exact okB_prefix h)
      clear htk hx0
      generalize K.getD m 0 = c at *
      by_cases hc0 : c < 0
      · go_wp2_with fail
        go_ret
        refine ⟨_, _, rfl, hB, HW.out, ⟨fun h => (by cases h), fun h => ?_⟩, fun h => (by cases h)⟩
        have := ((okB_snoc _ _ _ _).1 (HPre.out h)).2.1
        omega
      · have hc0' : 0 ≤ c := by omega
        by_cases hci : c < i
        · obtain ⟨j, rfl⟩ : ∃ j : Nat, c = (j : Int) := ⟨c.toNat, by omega⟩
          have hji : j < i := by omega
          have hcj := hB.cell (i := j) (by omega)
          have hfj := hB.frozen j
          have HB := Lib.hid hB
          have hdj : decide (i ≤ j) = false := decide_eq_false (by omega)
          clear hB hc0 hci hc0'
          cases hmj : mark f (K.take m) j
          · rw [hmj] at hcj
            have HM := Lib.hid hmj
            clear hmj
            go_wp2_with fail
            go_roundw
            case rel =>
              refine ⟨m + 1, by go_num, hml, Lib.hid ?_, ?_, Lib.hid (HW.out.trans (But.set _ _ _ _))⟩
              · rw [HTK.out]
                exact (okB_snoc _ _ _ _).2 ⟨HO.out, by omega, by omega, HM.out⟩
              · rw [HTK.out]
                exact (HB.out.set j true).congr (fun q _ => by rw [mark_snoc _ _ _ (by omega)]; rfl)
            case measure => simp only [intOf]; omega
          · rw [hmj] at hcj
            have HM := Lib.hid hmj
            clear hmj
            go_wp2_with fail
            go_ret
            refine ⟨_, _, rfl, HB.out, HW.out, ⟨fun h => (by cases h), fun h => ?_⟩, fun h => (by cases h)⟩
            have := ((okB_snoc _ _ _ _).1 (HPre.out h)).2.2.2
            rw [show ((j : Int)).toNat = j from by omega, HM.out] at this
            cases this
        · have hge : decide ((i : Int) ≤ c) = true := decide_eq_true (by omega)
          go_wp2_with fail
          go_ret
          refine ⟨_, _, rfl, hB, HW.out, ⟨fun h => (by cases h), fun h => ?_⟩, fun h => (by cases h)⟩
          have := ((okB_snoc _ _ _ _).1 (HPre.out h)).2.2.1
          omega
    · have : m = K.length := by omega
      subst this
      have hdm : decide ((K.length : Int) < (K.length : Int)) = false := decide_eq_false (by omega)
      clear hc
      rw [List.take_length] at hB HO
      go_wp2_with fail
      go_ret
      exact ⟨_, _, rfl, hB, HW.out, ⟨fun _ => HO.out, fun _ => rfl⟩, fun _ => rfl⟩
def allB (f : Nat → Bool) (n : Nat) : Bool := (List.range n).all f
set_option maxHeartbeats 3200000 in
set_option maxRecDepth 100000 in
theorem index_any (u n cap : Nat) (f : Nat → Bool) (w : World) (hR : BoolsAt w u n f) (hn : n ≤ 1000) :
    Calls Tryd.prog 57 #[.slice (some ⟨u, 0, none⟩) n cap, .bool false] w fun e w' => ∃ k : Int, e = .returned (.int .i64 k) ∧ (decide (0 ≤ k) = !allB f n) ∧ w = w' := by
  go_enter Tryd.func57, Tryd.ntmps57
  go_wp2_with fail
  go_loopw [8] (fun x wr => ∃ m : Nat, x = .int .i64 m ∧ m ≤ n ∧ Hid (∀ j, j < m → f j = true) ∧ wr = w) (fun x _ => (n - intOf x).toNat)
  case atStart => exact ⟨0, rfl, Nat.zero_le _, Lib.hid (fun j hj => absurd hj (Nat.not_lt_zero _)), rfl⟩
  case round =>
    obtain ⟨m, rfl, hm, HA, rfl⟩ := hrel
    by_cases hml : m < n
    · have hcj := hR.cell hml
      have hdm : decide ((m : Int) < (n : Int)) = true := decide_eq_true (by omega)
      have HR := Lib.hid hR
      clear hR
      cases hf : f m
      · rw [hf] at hcj
        have HF := Lib.hid hf
        clear hf
        go_wp2_with fail
        go_ret
        refine ⟨_, rfl, ?_, rfl⟩
        rw [decide_eq_true (by omega)]
        symm
        rw [Bool.not_eq_true', Bool.eq_false_iff]
        intro h
        have := List.all_eq_true.1 h m (List.mem_range.2 hml)
        rw [HF.out] at this
        cases this
      · rw [hf] at hcj
        have HF := Lib.hid hf
        clear hf
        go_wp2_with fail
        go_roundw
        case rel =>
          refine ⟨m + 1, by go_num, hml, Lib.hid (fun j hj => ?_), by first | rfl | trivial⟩
          by_cases h : j = m
          · rw [h]; exact HF.out
          · exact HA.out j (by omega)
        case measure => simp only [intOf]; omega
    · have : m = n := by omega
      subst this
      have hdm : decide ((m : Int) < (m : Int)) = false := decide_eq_false (by omega)
      have HR := Lib.hid hR
      clear hR
      go_wp2_with fail
      go_ret
      refine ⟨_, rfl, ?_, rfl⟩
      rw [decide_eq_false (by omega)]
      symm
      rw [Bool.not_eq_false']
      exact List.all_eq_true.2 (fun j hj => HA.out j (List.mem_range.1 hj))
theorem contains_any (u n cap : Nat) (f : Nat → Bool) (w : World) (hR : BoolsAt w u n f) (hn : n ≤ 1000) :
    Calls Tryd.prog 44 #[.slice (some ⟨u, 0, none⟩) n cap, .bool false] w fun e w' => e = .returned (.bool (!allB f n)) ∧ w = w' := by
  go_enter Tryd.func44, Tryd.ntmps44
  have HR := Lib.hid hR
  clear hR
  go_wp2_with (go_at_call 57; refine (index_any _ _ _ _ _ HR.out hn).mono ?_; rintro e w' ⟨k, rfl, hk, rfl⟩)
  go_ret
  exact ⟨by rw [← hk]; rfl, rfl⟩
end Go.Proofs.YtcgllipcnmlkbaaDoor
namespace Go.Proofs.YtcgllipcnmlkbaaDoor
open Tr
/-- those of E are used -/
def inE (E : List Int) : Nat → Bool := mark (fun _ => false) E
theorem inE_nil : inE [] = fun _ => false := mark_nil _
theorem inE_append (E K : List Int) : mark (inE E) K = inE (E ++ K) := by
  funext j
  simp only [inE, mark, Bool.false_or]
  rw [Bool.eq_iff_iff]
  simp
theorem inE_iff (E : List Int) (j : Nat) : inE E j = true ↔ (j : Int) ∈ E := by simp [inE, mark]
theorem inE_not (E : List Int) (c : Int) (h : 0 ≤ c) : inE E c.toNat = false ↔ c ∉ E := by
  rw [← Bool.not_eq_true, inE_iff, Int.toNat_of_nonneg h]
theorem edges_append (A B : List Nd) : edges (A ++ B) = edges A ++ edges B := by simp [edges]
theorem take_snoc {α : Type} [Inhabited α] (l : List α) (i : Nat) (h : i < l.length) : l.take (i + 1) = l.take i ++ [l.getD i default] := by
  rw [List.take_add_one, List.getElem?_eq_getElem h, List.getD_eq_getElem?_getD, List.getElem?_eq_getElem h]; rfl
theorem edges_snoc (N : List Nd) (i : Nat) (h : i < N.length) : edges (N.take (i + 1)) = edges (N.take i) ++ kids (N.getD i default) := by
  rw [take_snoc N i h, edges_append]; simp [edges]
theorem roots_snoc (R : List (Int × Bool)) (i : Nat) (h : i < R.length) : roots (R.take (i + 1)) = roots (R.take i) ++ [(R.getD i default).1] := by
  rw [take_snoc R i h]; simp [roots]
theorem prefix_edges (N : List Nd) (i : Nat) : ∃ M, edges N = edges (N.take i) ++ M := ⟨edges (N.drop i), by rw [← edges_append, List.take_append_drop]⟩
theorem prefix_roots (R : List (Int × Bool)) (i : Nat) : ∃ M, roots R = roots (R.take i) ++ M := ⟨roots (R.drop i), by simp only [roots]; rw [← List.map_append, List.take_append_drop]⟩
theorem okB_inE (E K : List Int) (i : Nat) : okB (inE E) i K ↔ (∀ c ∈ K, 0 ≤ c ∧ c < i) ∧ (∀ c ∈ K, c ∉ E) ∧ K.Nodup := by
  unfold okB
  constructor
  · rintro ⟨h1, h2⟩
    exact ⟨fun c hc => ⟨(h1 c hc).1, (h1 c hc).2.1⟩, fun c hc => (inE_not E c (h1 c hc).1).1 (h1 c hc).2.2, h2⟩
  · rintro ⟨h1, h2, h3⟩
    exact ⟨fun c hc => ⟨(h1 c hc).1, (h1 c hc).2, (inE_not E c (h1 c hc).1).2 (h2 c hc)⟩, h3⟩
theorem nodup_okB (E K : List Int) (i : Nat) (hE : E.Nodup) (h : okB (inE E) i K) : (E ++ K).Nodup := by
  rw [okB_inE] at h
  rw [List.nodup_append]
  exact ⟨hE, h.2.2, fun a ha b hb e => h.2.1 b hb (e ▸ ha)⟩
structure RightB (N : List Nd) (R : List (Int × Bool)) : Prop where
  few : 1 ≤ R.length ∧ R.length ≤ 20 ∧ N.length ≤ 600
  one : ∀ i, i < N.length → sound (N.getD i default) = true ∧ okB (inE (edges (N.take i))) i (kids (N.getD i default))
  two : ∀ q, q < R.length → okB (inE (edges N ++ roots (R.take q))) N.length [(R.getD q default).1]
  thr : allB (inE (edges N ++ roots R)) N.length = true
theorem right_iff (N : List Nd) (R : List (Int × Bool)) : Right N R ↔ RightB N R := by
  constructor
  · rintro ⟨h1, h2, h3, h4, h5, h6⟩
    refine ⟨h1, fun i hi => ⟨h2 i hi, ?_⟩, fun q hq => ?_, ?_⟩
    · rw [okB_inE]
      obtain ⟨M, hM⟩ := prefix_edges N (i + 1)
      rw [hM, edges_snoc N i hi] at h5
      have h7 := (List.nodup_append.1 (List.nodup_append.1 h5).1).1
      rw [List.nodup_append] at h7
      exact ⟨fun c hc => h3 i hi c hc, fun c hc hm => h7.2.2 c hm c hc rfl, h7.2.1⟩
    · rw [okB_inE]
      obtain ⟨M, hM⟩ := prefix_roots R (q + 1)
      rw [hM, roots_snoc R q hq, ← List.append_assoc, ← List.append_assoc] at h5
      have h7 := (List.nodup_append.1 h5).1
      rw [List.nodup_append] at h7
      refine ⟨fun c hc => ?_, fun c hc hm => h7.2.2 c hm c hc rfl, h7.2.1⟩
      rw [List.mem_singleton.1 hc]
      refine h4 _ ?_
      rw [hM, roots_snoc R q hq]
      simp
    · exact List.all_eq_true.2 (fun j hj => (inE_iff _ _).2 (h6 j (List.mem_range.1 hj)))
  · rintro ⟨h1, h2, h3, h4⟩
    have e1 : ∀ i, i ≤ N.length → (edges (N.take i)).Nodup := by
      intro i
      induction i with
      | zero => intro _; simp [edges]
      | succ i ih =>
        intro hi
        rw [edges_snoc N i hi]
        exact nodup_okB _ _ i (ih (by omega)) (h2 i hi).2
    have e2 : ∀ q, q ≤ R.length → (edges N ++ roots (R.take q)).Nodup := by
      intro q
      induction q with
      | zero => intro _; have := e1 N.length (Nat.le_refl _); rw [List.take_length] at this; simpa [roots] using this
      | succ q ih =>
        intro hq
        rw [roots_snoc R q hq, ← List.append_assoc]
        exact nodup_okB _ _ _ (ih (by omega)) (h3 q hq)
    refine ⟨h1, fun i hi => (h2 i hi).1, fun i hi => ((okB_inE _ _ _).1 (h2 i hi).2).1, ?_, ?_, ?_⟩
    · intro c hc
      obtain ⟨p, hp, rfl⟩ := List.mem_map.1 hc
      obtain ⟨q, hq, rfl⟩ := List.mem_iff_getElem.1 hp
      have := ((okB_inE _ _ _).1 (h3 q hq)).1
      rw [List.getD_eq_getElem?_getD, List.getElem?_eq_getElem hq] at this
      exact this _ (by simp)
    · have := e2 R.length (Nat.le_refl _); rwa [List.take_length] at this
    · intro j hj
      exact (inE_iff _ _).1 (List.all_eq_true.1 h4 j (List.mem_range.2 hj))
end Go.Proofs.YtcgllipcnmlkbaaDoor
namespace Go.Proofs.YtcgllipcnmlkbaaDoor
open Go.RowKit Sets Tr
def NodesAt (w : World) (v : Value) (N : List Nd) : Prop :=
  (∀ x ∈ N, NdOk x) ∧ N.length ≤ 700 ∧ ∃ a cap, v = .slice a N.length cap ∧ ∀ i, i < N.length → ∃ b o, a = some ⟨b, o, none⟩ ∧ w.rangeAt b (o + i * 9) (nd9 (N.getD i default))
def pt2 (p : Int × Bool) : List Value := [.int .i64 p.1, .bool p.2]
def PartsAt (w : World) (v : Value) (R : List (Int × Bool)) : Prop :=
  (∀ x ∈ R, I64 x.1) ∧ R.length ≤ 30 ∧ ∃ a cap, v = .slice a R.length cap ∧ ∀ i, i < R.length → ∃ b o, a = some ⟨b, o, none⟩ ∧ w.rangeAt b (o + i * 2) (pt2 (R.getD i default))
theorem range_kept {w w' : World} {b o : Nat} {l : List Value} (h : w.rangeAt b o l) (hb : Below w.heap.size w w') : w'.rangeAt b o l := by
  intro j v hv
  exact (hb.cell (World.block_lt_of_cell? _ _ (h j v hv))).trans (h j v hv)
theorem nd9_ne (x : Nd) : nd9 x ≠ [] := by unfold nd9; simp
theorem pt2_ne (p : Int × Bool) : pt2 p ≠ [] := by unfold pt2; simp
theorem NodesAt.kept {w w' : World} {v : Value} {N : List Nd} (h : NodesAt w v N) (hb : Below w.heap.size w w') : NodesAt w' v N := by
  obtain ⟨h1, h2, a, cap, rfl, hc⟩ := h
  refine ⟨h1, h2, a, cap, rfl, fun i hi => ?_⟩
  obtain ⟨b, o, e, hr⟩ := hc i hi
  exact ⟨b, o, e, range_kept hr hb⟩
theorem PartsAt.kept {w w' : World} {v : Value} {R : List (Int × Bool)} (h : PartsAt w v R) (hb : Below w.heap.size w w') : PartsAt w' v R := by
  obtain ⟨h1, h2, a, cap, rfl, hc⟩ := h
  refine ⟨h1, h2, a, cap, rfl, fun i hi => ?_⟩
  obtain ⟨b, o, e, hr⟩ := hc i hi
  exact ⟨b, o, e, range_kept hr hb⟩
theorem range_lt {w : World} {b o : Nat} {l : List Value} (h : w.rangeAt b o l) (hl : l ≠ []) : b < w.heap.size := by
  cases l with
  | nil => exact absurd rfl hl
  | cons v l => exact World.block_lt_of_cell? _ _ (h 0 v rfl)
theorem NodesAt.at {w : World} {N : List Nd} {a : Option Addr} {n c : Nat} (h : NodesAt w (.slice a n c) N) {i : Nat} (hi : i < N.length) : ∃ b o, a = some ⟨b, o, none⟩ ∧ w.rangeAt b (o + i * 9) (nd9 (N.getD i default)) ∧ NdOk (N.getD i default) := by
  obtain ⟨h1, -, a', cap, e, hc⟩ := h
  cases e
  obtain ⟨b, o, e, hr⟩ := hc i hi
  exact ⟨b, o, e, hr, h1 _ (by rw [List.getD_eq_getElem?_getD, List.getElem?_eq_getElem hi]; exact List.getElem_mem hi)⟩
theorem PartsAt.at {w : World} {N : List (Int × Bool)} {a : Option Addr} {n c : Nat} (h : PartsAt w (.slice a n c) N) {i : Nat} (hi : i < N.length) : ∃ b o, a = some ⟨b, o, none⟩ ∧ w.rangeAt b (o + i * 2) (pt2 (N.getD i default)) ∧ I64 (N.getD i default).1 := by
  obtain ⟨h1, -, a', cap, e, hc⟩ := h
  cases e
  obtain ⟨b, o, e, hr⟩ := hc i hi
  exact ⟨b, o, e, hr, h1 _ (by rw [List.getD_eq_getElem?_getD, List.getElem?_eq_getElem hi]; exact List.getElem_mem hi)⟩
theorem oneNode (x : Nd) : (nd9 x).toArray.all (·.oneCell') = true := by
  rw [Array.all_eq_true_iff_forall_mem]
  intro v hv
  simp [nd9] at hv
  rcases hv with rfl | rfl | rfl | rfl | rfl | rfl | rfl | rfl | rfl <;> rfl
def zero9 : Array Value := #[.int .u8 0, .int .u64 0, .int .u64 0, .int .u64 0, .int .u64 0, .int .i64 0, .int .i64 0, .int .i64 0, .int .i64 0]
/-- a node is stored where it was laid -/
theorem wpList_store_node {ops : Array Oper} {rest : List Oper} {o : Oper} {a : Act} {w : World} {Q : Exit → Act → World → Prop} (hgd : o.guard = none) (x y : Operand)
    (ho : o.op = .store 96 x y) (X : Nd) (hx : a.eval x = .pointer (some ⟨w.heap.size, 0, none⟩)) (hy : a.eval y = .agg (nd9 X).toArray)
    (h : wpList Tryd.prog ops Q rest (a.put o.dst undef) (w.alloc (.cells (nd9 X).toArray 96))) : wpList Tryd.prog ops Q (o :: rest) a (w.alloc (.cells zero9 96)) := by
  refine wpList_store_row hgd 96 x y ho w.heap.size (nd9 X).toArray hx hy 96 zero9 (heap_alloc_new w _) (by rw [List.size_toArray]; exact sizeNode X) rfl (oneNode X) ?_
  rw [World.setRow_alloc_new]
  exact h
theorem wpList_load_node {ops : Array Oper} {rest : List Oper} {o : Oper} {a : Act} {w : World} {Q : Exit → Act → World → Prop} (hgd : o.guard = none) (x : Operand) (ho : o.op = .load 96 x)
    (b q : Nat) (X : Nd) (hx : a.eval x = .pointer (some ⟨b, q, none⟩)) (hc : w.rangeAt b q (nd9 X)) (h : wpList Tryd.prog ops Q rest (a.put o.dst (.agg (nd9 X).toArray)) w) : wpList Tryd.prog ops Q (o :: rest) a w :=
  wpList_load_mid hgd 96 x ho b q hx (nd9 X) _ hc Tryd.underlying96 rfl (sizeNode X) h
theorem quiet_load_node {C : World → Prop} {a : Act} {K : Act → Prop} {o : Oper} (x : Operand) (ho : o.op = .load 96 x) (g : Nat) (X : Nd) (hx : a.eval x = .pointer (some ⟨g, 0, none⟩)) (hg : ∀ w, C w → BoxAt w g X)
    (h : K (a.put o.dst (.agg (nd9 X).toArray))) : o.quiet Tryd.prog a C K :=
  quiet_load_row 96 x ho g hx 96 (nd9 X).toArray (0, 0) _ (fun w hw => (hg w hw).row) Tryd.underlying96 rfl (by rw [List.size_toArray]; exact sizeNode X) h
noncomputable def rightB (N : List Nd) (R : List (Int × Bool)) : Bool := @decide (Right N R) (Classical.propDecidable _)
theorem rightB_true {N : List Nd} {R : List (Int × Bool)} (h : Right N R) : rightB N R = true := @decide_eq_true _ (Classical.propDecidable _) h
theorem rightB_false {N : List Nd} {R : List (Int × Bool)} (h : ¬ Right N R) : rightB N R = false := @decide_eq_false _ (Classical.propDecidable _) h
theorem rightB_iff {N : List Nd} {R : List (Int × Bool)} : rightB N R = true ↔ Right N R := @decide_eq_true_iff _ (Classical.propDecidable _)
theorem infoBool : (Tryd.prog.info? 4).map (fun i => (i.zero, i.size, i.bytes)) = some (some (.bool false), 1, 1) := by kernel_rfl
end Go.Proofs.YtcgllipcnmlkbaaDoor
