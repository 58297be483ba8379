/- Regions that draw their order: operations that read are taken when they come up in a plan, those that turn the world come up one after another; at the end a tail in one forced order. -/
import Derived.Test.YtlbaecjmfgahgaaDoorFam
import Derived.StillTail
import Derived.Deep.RegionHeld3
namespace Go.Proofs.YtlbaecjmfgahgaaDoor
open Go.RowKit
/-- Operations that never enter a function. -/
def pureB (o : Oper) : Bool :=
  match o.op with
  | .move _ | .assign _ | .pick _ _ _ | .load _ _ | .binOp _ _ _ _ _ | .unOp _ _ _ | .convert _ _ _ | .slice _ _ _ _ _ | .fieldAddr _ _ _ | .field _ _ _ | .indexAddr _ _ _ | .index _ _ _ | .lookup _ _ _ _ | .extract _ _ | .build _ _ | .nilCheck _ => true
  | .call c => match c.callee with
    | .builtin .len | .builtin .cap | .builtin .min | .builtin .max => true
    | _ => false
  | _ => false
theorem never_v {P : Program} {w w' : World} {s : Sem Value} {f : FuncId} {args : Array Value} : ¬ (do pure (Next.value (← s)) : Sem Next).run P w = .ok (.enter f args) w' := by
  intro h
  rw [Sem.run_bind] at h
  cases hs : s.run P w with
  | ok v w1 => rw [hs] at h; simp [Result.andThen, Sem.run_pure] at h
  | halt x w1 => rw [hs] at h; simp [Result.andThen] at h
theorem never_r {r : Result Value} {w' : World} {f : FuncId} {args : Array Value} : ¬ (r.andThen fun a w' => Result.ok (Next.value a) w') = .ok (.enter f args) w' := by
  intro h
  cases r <;> simp [Result.andThen] at h
theorem never_bind {α : Type} {P : Program} {s : Sem α} {k : α → Sem Next} {f : FuncId} {args : Array Value} (hk : ∀ x w w', ¬ (k x).run P w = .ok (.enter f args) w') {w w' : World} : ¬ (s >>= k).run P w = .ok (.enter f args) w' := by
  intro h
  rw [Sem.run_bind] at h
  cases hs : s.run P w with
  | ok v w1 => rw [hs] at h; exact hk _ _ _ h
  | halt x w1 => rw [hs] at h; simp [Result.andThen] at h
theorem never_pure {P : Program} {v : Value} {f : FuncId} {args : Array Value} {w w' : World} : ¬ (pure (Next.value v) : Sem Next).run P w = .ok (.enter f args) w' := by
  intro h; simp at h
theorem never_nil {P : Program} {f : FuncId} {args : Array Value} {w w' : World} : ¬ (runtimePanic .nilDeref : Sem Next).run P w = .ok (.enter f args) w' := by
  refine never_bind (fun x w w' h => ?_)
  simp [goPanic] at h
theorem never_enter {P : Program} {ρ : Operand → Value} {o : Oper} {w w' : World} {f : FuncId} {args : Array Value} (hp : pureB o = true) : ¬ (execOp ρ o).run P w = .ok (.enter f args) w' := by
  intro h
  unfold pureB at hp
  unfold execOp at h
  split at hp
  all_goals (rename_i e; try simp only [e] at h)
  case h_1 | h_2 => simp at h
  case h_16 =>
    repeat' split at h
    all_goals first
      | exact never_nil h
      | exact never_pure h
      | (refine never_bind (fun x w w' h => ?_) h
         refine never_bind (fun x w w' h => ?_) h
         split at h
         · exact never_bind (fun x w w' h => never_pure h) h
         · exact never_pure h)
  case h_17 =>
    split at hp
    all_goals (rename_i e2; try (cases hp; done))
    all_goals
      simp only [resolve, e2, Sem.run_bind, Sem.run_pure, Result.andThen_ok, invoke, builtin] at h
      exact never_r h
  case h_18 => cases hp
  case h_3 =>
    rw [Sem.run_bind] at h
    generalize Sem.run P (asBool _) w = r at h
    cases r <;> simp [Result.andThen, Sem.run_pure] at h
  all_goals exact never_v h
section
variable {P : Program} {ops : Array Oper} {Q : Exit → Act → World → Prop} {md : Region.Mode}
/-- In state a, in every world of the class, o leaves v in its temporary, and the world as it is. -/
def YieldsP (P : Program) (ops : Array Oper) (C : World → Prop) (o : Oper) (v : Value) (a : Act) : Prop :=
  (Region.wanted o (yielded ops a.tmps) = true ∧ ∀ w, C w → (execOp a.eval o).run P w = .ok (.value v) w ∨ ((execOp a.eval o).run P w = .ok .skip w ∧ v = undef)) ∨
  (Region.wanted o (yielded ops a.tmps) = false ∧ v = undef)
theorem YieldsP.less {C C' : World → Prop} {o : Oper} {v : Value} {a : Act} (h : YieldsP P ops C o v a) (hC : ∀ w, C' w → C w) : YieldsP P ops C' o v a :=
  h.imp (fun ⟨hw, hv⟩ => ⟨hw, fun w g => hv w (hC w g)⟩) id
theorem YieldsP.wpOp {C : World → Prop} {i : Nat} {o : Oper} {v : Value} {a : Act} (hi : ops[i]? = some o) (hy : YieldsP P ops C o v a)
    {K : Act → World → Prop} {w : World} (hC : C w) (h : K (a.put o.dst v) w) : wpOp P ops Q i K a w := by
  unfold Go.wpOp
  simp only [hi]
  rcases hy with ⟨hw, hv⟩ | ⟨hw, rfl⟩
  · rw [if_pos hw]
    refine .inl ?_
    unfold Oper.wp
    rcases hv w hC with e | ⟨e, rfl⟩
    · rw [e]; exact h
    · rw [e]; exact h
  · rw [if_neg (by rw [hw]; exact Bool.false_ne_true)]; exact h
theorem YieldsP.of_same {C : World → Prop} {o : Oper} {v : Value} {a a' : Act} (hy : YieldsP P ops C o v a) (he : execOp a'.eval o = execOp a.eval o)
    (hw : Region.wanted o (yielded ops a'.tmps) = Region.wanted o (yielded ops a.tmps)) : YieldsP P ops C o v a' := by
  unfold YieldsP at *
  rw [he, hw]
  exact hy
theorem wpOp_putP {C : World → Prop} {j : Nat} {oi oj : Oper} {v : Value} (hj : ops[j]? = some oj) (hap : oi.apart ops oj = true)
    (hsi : ∀ cs b, oi.op ≠ .select cs b) (hsj : ∀ cs b, oj.op ≠ .select cs b)
    (hQ : ∀ c d a v w, Q (.panic c) (a.put d v) w → Q (.panic c) a w) {K : Act → World → Prop} {a : Act} {w : World}
    (hy : YieldsP P ops C oi v a) (h : wpOp P ops Q j K (a.put oi.dst v) w) :
    wpOp P ops Q j (fun a' w' => YieldsP P ops C oi v a' ∧ K (a'.put oi.dst v) w') a w := by
  obtain ⟨h1, h2, h3⟩ := Oper.apart_spec hap
  have keep : ∀ (a : Act), YieldsP P ops C oi v a → ∀ u, YieldsP P ops C oi v (a.put oj.dst u) := fun a hy u =>
    hy.of_same (execOp_put oi hsi a oj.dst u h3) (wanted_put oi a oj.dst u h3)
  have keepD : ∀ d, YieldsP P ops C oi v { a with defers := d :: a.defers } := fun d => hy.of_same rfl rfl
  unfold Go.wpOp at *
  simp only [hj] at *
  rw [wanted_put oj a oi.dst v h1] at h
  by_cases hw : Region.wanted oj (yielded ops a.tmps) = true
  · rw [if_pos hw] at h ⊢
    rcases h with h | ⟨hasks, hlets⟩
    case inr => exact .inr ⟨by unfold Oper.asks at *; rw [execOp_put oj hsj a oi.dst v h1] at hasks; exact hasks, hlets⟩
    refine .inl ?_
    unfold Oper.wp at *
    rw [execOp_put oj hsj a oi.dst v h1] at h
    generalize (execOp a.eval oj).run P w = r at *
    cases r with
    | ok n w' =>
      cases n <;> simp only [Oper.upon] at h ⊢
      case value u => exact ⟨keep a hy u, by rw [← Act.put_comm a v u h2]; exact h⟩
      case skip => exact ⟨keep a hy _, by rw [← Act.put_comm a v undef h2]; exact h⟩
      case defer d =>
        refine ⟨keep _ (keepD d) _, ?_⟩
        rw [← Act.put_comm _ v undef h2, ← Act.put_defers]
        exact h
      case enter f args =>
        refine Calls.mono h fun e w'' he => ?_
        cases e with
        | returned u => exact ⟨keep a hy u, by rw [← Act.put_comm a v u h2]; exact he⟩
        | panicked c => exact hQ _ _ _ _ _ he
        | outgrown => exact he
      case row row args => exact Rows.mono h fun u w'' he => ⟨keep a hy u, by rw [← Act.put_comm a v u h2]; exact he⟩
    | halt x w' =>
      cases x <;> simp only [Oper.upon] at h ⊢
      case panic u => exact hQ _ _ _ _ _ h
  · rw [if_neg hw] at h ⊢
    exact ⟨keep a hy _, by rw [← Act.put_comm a v undef h2]; exact h⟩
/-- Whatever order is picked, the class growing narrower behind what turns the world. -/
def wpAnyM (P : Program) (md : Region.Mode) (ops : Array Oper) (Q : Exit → Act → World → Prop) (n : Nat) (L : Array Bool → Act → World → Prop) : Nat → (World → Prop) → Array Bool → Act → World → Prop
  | 0, _, listed, a, w => L listed a w
  | f + 1, C, listed, a, w => Region.ready md ops listed ≠ [] ∧ ∀ i ∈ Region.ready md ops listed, i < n ∧
      wpOp P ops Q i (fun a' w' => ∃ C', (∀ x, C' x → C x) ∧ C' w' ∧ wpAnyM P md ops Q n L f C' (listed.setIfInBounds i true) a' w') a w
theorem wpAny_of_M {n g : Nat} {L : Array Bool → Act → World → Prop} (hL : ∀ listed a w, L listed a w → wpAny P md ops Q g listed a w) :
    ∀ (f : Nat) (C : World → Prop) (listed : Array Bool) (a : Act) (w : World), wpAnyM P md ops Q n L f C listed a w → wpAny P md ops Q (f + g) listed a w
  | 0, _, _, _, _, h => by rw [Nat.zero_add]; exact hL _ _ _ h
  | f + 1, C, listed, a, w, h => by
    rw [show f + 1 + g = (f + g) + 1 by omega]
    exact ⟨fun h0 => absurd h0 h.1, fun i hi => wpOp_mono (fun a' w' ⟨C', _, _, h'⟩ => wpAny_of_M hL f C' _ a' w' h') (h.2 i hi).2⟩
theorem wpAnyM_first {n i : Nat} {oi : Oper} {v : Value} {L : Array Bool → Act → World → Prop} (hi : ops[i]? = some oi) (hsel : ∀ (j : Nat) (o : Oper) cs b, ops[j]? = some o → o.op ≠ .select cs b)
    (hQ : ∀ c d a v w, Q (.panic c) (a.put d v) w → Q (.panic c) a w)
    (hs : Region.sinkB md ops n = true) (hc : Region.chainB md ops n = true) (hn : n < ops.size) (hin : i < n)
    (hdone : ∀ listed a w, L listed a w → ∀ j ∈ Region.ready md ops listed, n ≤ j) :
    ∀ (f : Nat) (C : World → Prop) (listed : Array Bool) (a : Act) (w : World), HeadInv md ops n listed →
      (∀ j oj, ops[j]? = some oj → j ≠ i → listed.getD j true = false → (∀ e ∈ oj.after, Region.binds md e = true → e.on ≠ i) → oi.apart ops oj = true) →
      i ∈ Region.ready md ops listed → YieldsP P ops C oi v a → C w →
      wpAnyM P md ops Q n L f C (listed.setIfInBounds i true) (a.put oi.dst v) w → wpAnyM P md ops Q n L (f + 1) C listed a w := by
  intro f
  induction f with
  | zero =>
    intro C listed a w inv _ hr hy hC H
    have hun := (mem_ready.1 hr).1
    refine ⟨fun h => (by rw [h] at hr; cases hr), fun j hj => ?_⟩
    have hjn : j < n := by
      rcases Nat.lt_or_ge j n with h | h
      · exact h
      · exact absurd hj (tail_waits hs hc hn inv _ i rfl hin hun j h)
    refine ⟨hjn, ?_⟩
    by_cases hji : j = i
    · subst hji; exact hy.wpOp hi hC ⟨C, fun _ h => h, hC, H⟩
    · have := hdone _ _ _ H j (ready_mono hj hji)
      omega
  | succ f ih =>
    intro C listed a w inv hfree hr hy hC H
    have hun := (mem_ready.1 hr).1
    refine ⟨fun h => (by rw [h] at hr; cases hr), fun j hj => ?_⟩
    have hjn : j < n := by
      rcases Nat.lt_or_ge j n with h | h
      · exact h
      · exact absurd hj (tail_waits hs hc hn inv _ i rfl hin hun j h)
    refine ⟨hjn, ?_⟩
    by_cases hji : j = i
    · subst hji; exact hy.wpOp hi hC ⟨C, fun _ h => h, hC, H⟩
    · have h1 := (H.2 j (ready_mono hj hji)).2
      obtain ⟨hjun, oj, hoj, hall⟩ := mem_ready.1 hj
      have hnot : ∀ e ∈ oj.after, Region.binds md e = true → e.on ≠ i := fun e he hb heq => by
        have h1 := hall e he hb
        rw [heq, getD_both hun] at h1
        cases h1
      have h2 := wpOp_putP hoj (hfree j oj hoj hji hjun hnot) (fun cs b => hsel i oi cs b hi) (fun cs b => hsel j oj cs b hoj) hQ hy h1
      have hfree' : ∀ k ok, ops[k]? = some ok → k ≠ i → (listed.setIfInBounds j true).getD k true = false →
          (∀ e ∈ ok.after, Region.binds md e = true → e.on ≠ i) → oi.apart ops ok = true := fun k ok hk hki hun hno => by
        refine hfree k ok hk hki ?_ hno
        by_cases hjk : j = k
        · subst hjk; exact hjun
        · rw [getD_set_ne true hjk] at hun; exact hun
      refine wpOp_mono (fun a' w' ⟨h3, C', hle, hC', h4⟩ => ⟨C', hle, hC', ih C' (listed.setIfInBounds j true) a' w' (inv.set hj hjn) hfree' (ready_mono hr (Ne.symm hji)) (h3.less hle) hC' ?_⟩) h2
      rw [Array.setIfInBounds_comm _ _ hji]
      exact h4
/-- The plan: which operation comes next, and whether it turns the world. -/
def mixFrom (md : Region.Mode) (ops : Array Oper) (n : Nat) : List (Bool × Nat) → Array Bool → Bool
  | [], listed => Region.seqB md ops (ops.size - n) n listed
  | (false, i) :: r, listed => decide (i < n) && (Region.ready md ops listed).contains i && Region.free md ops listed i && (match ops[i]? with | some o => pureB o | none => false) && mixFrom md ops n r (listed.setIfInBounds i true)
  | (true, i) :: r, listed => decide (i < n) && decide (Region.ready md ops listed = [i]) && mixFrom md ops n r (listed.setIfInBounds i true)
def mixB (md : Region.Mode) (ops : Array Oper) (plan : List (Bool × Nat)) : Bool :=
  Region.noSelect ops && decide (plan.length < ops.size) && Region.sinkB md ops plan.length && Region.chainB md ops plan.length && mixFrom md ops plan.length plan (Array.replicate ops.size false)
def mixQ (Q : Exit → Act → World → Prop) (K : Act → World → Prop) : Exit → Act → World → Prop
  | .normal, a, w => K a w
  | e, a, w => Q e a w
/-- The walk along the plan. -/
def wpMix (P : Program) (ops : Array Oper) (Q : Exit → Act → World → Prop) (T : Act → World → Prop) : List (Bool × Oper) → (World → Prop) → Act → World → Prop
  | [], _, a, w => T a w
  | (false, o) :: r, C, a, w => ∃ v, YieldsP P ops C o v a ∧ wpMix P ops Q T r C (a.put o.dst v) w
  | (true, o) :: r, C, a, w => wpList P ops (mixQ Q fun a' w' => ∃ C', (∀ x, C' x → C x) ∧ C' w' ∧ wpMix P ops Q T r C' a' w') [o] a w
def planOps (l : List Oper) (plan : List (Bool × Nat)) : List (Bool × Oper) := plan.map fun p => (p.1, l.getD p.2 default)
theorem wp_of_mixQ {o : Oper} {a : Act} {w : World} {K : Act → World → Prop} (h : o.wp P a w (mixQ Q K .normal) (mixQ Q K)) : o.wp P a w K Q := by
  unfold Oper.wp at *
  generalize (execOp a.eval o).run P w = r at *
  cases r with
  | ok n w' =>
    cases n <;> simp only [Oper.upon] at h ⊢ <;> exact h
  | halt x w' => cases x <;> simp only [Oper.upon] at h ⊢ <;> exact h
theorem wpAnyM_plan {n : Nat} {T : Act → World → Prop} (hsel : Region.noSelect ops = true) (hs : Region.sinkB md ops n = true) (hc : Region.chainB md ops n = true) (hn : n < ops.size)
    (hQ : ∀ c d a v w, Q (.panic c) (a.put d v) w → Q (.panic c) a w) :
    ∀ (plan : List (Bool × Nat)) (C : World → Prop) (listed : Array Bool) (a : Act) (w : World), HeadInv md ops n listed → mixFrom md ops n plan listed = true → C w →
    wpMix P ops Q T (planOps ops.toList plan) C a w →
    wpAnyM P md ops Q n (fun listed' a' w' => Region.seqB md ops (ops.size - n) n listed' = true ∧ T a' w') plan.length C listed a w
  | [], _, _, _, _, _, hB, _, h => ⟨hB, h⟩
  | (false, i) :: r, C, listed, a, w, inv, hB, hC, h => by
    simp only [mixFrom, Bool.and_eq_true, decide_eq_true_eq] at hB
    obtain ⟨⟨⟨⟨hin, hr⟩, hf⟩, hp⟩, hB'⟩ := hB
    have hr' : i ∈ Region.ready md ops listed := by simpa using hr
    obtain ⟨hun, o, ho, hall⟩ := mem_ready.1 hr'
    have e : ops.toList.getD i default = o := by rw [List.getD_eq_getElem?_getD, Array.getElem?_toList, ho]; rfl
    obtain ⟨v, hy, hK⟩ := h
    rw [e] at hy hK
    exact wpAnyM_first ho (Region.noSelect_spec hsel) hQ hs hc hn hin (fun listed' a' w' hL => seqB_ready hL.1) r.length C listed a w inv (Region.free_spec ho hf) hr' hy hC
      (wpAnyM_plan hsel hs hc hn hQ r C _ _ w (inv.set hr' hin) hB' hC hK)
  | (true, i) :: r, C, listed, a, w, inv, hB, hC, h => by
    simp only [mixFrom, Bool.and_eq_true, decide_eq_true_eq] at hB
    obtain ⟨⟨hin, hr⟩, hB'⟩ := hB
    have hr' : i ∈ Region.ready md ops listed := by rw [hr]; simp
    obtain ⟨hun, o, ho, hall⟩ := mem_ready.1 hr'
    have e : ops.toList.getD i default = o := by rw [List.getD_eq_getElem?_getD, Array.getElem?_toList, ho]; rfl
    refine ⟨by rw [hr]; simp, fun j hj => ?_⟩
    rw [hr] at hj
    have hji : j = i := by simpa using hj
    subst hji
    refine ⟨hin, ?_⟩
    have h' : wpList P ops (mixQ Q fun a' w' => ∃ C', (∀ x, C' x → C x) ∧ C' w' ∧ wpMix P ops Q T (planOps ops.toList r) C' a' w') [o] a w := by rw [← e]; exact h
    have fin : ∀ a' w', (∃ C', (∀ x, C' x → C x) ∧ C' w' ∧ wpMix P ops Q T (planOps ops.toList r) C' a' w') →
        ∃ C', (∀ x, C' x → C x) ∧ C' w' ∧ wpAnyM P md ops Q n (fun listed' a' w' => Region.seqB md ops (ops.size - n) n listed' = true ∧ T a' w') r.length C' (listed.setIfInBounds j true) a' w' :=
      fun a' w' ⟨C', hle, hC', hm⟩ => ⟨C', hle, hC', wpAnyM_plan hsel hs hc hn hQ r C' _ a' w' (inv.set hr' hin) hB' hC' hm⟩
    unfold Go.wpOp
    simp only [ho]
    unfold wpList at h'
    by_cases hw : Region.wanted o (yielded ops a.tmps) = true
    · rw [if_pos hw] at h' ⊢
      rcases h' with h' | ⟨h1, a1, w1, h2⟩
      · exact .inl (Oper.wp_mono fin (wp_of_mixQ h'))
      · exact .inr ⟨h1, a1, w1, h2⟩
    · rw [if_neg hw] at h' ⊢
      exact fin _ _ h'
end
theorem region_mix {P : Program} {id : Nat} {Q : Exit → Act → World → Prop} {a : Act} {w : World} {l : List Oper} (plan : List (Bool × Nat)) (C : World → Prop) (hm : P.follows .mixedOrders = true) (hB : mixB .any l.toArray plan = true)
    (hC : C w.drew) (h : wpMix P l.toArray (NoPanic Q) (fun a' w' => wpList P l.toArray (NoPanic Q) (l.drop plan.length) a' w') (planOps l plan) C a w.drew) : (Code.region id l.toArray true).wp P Q a w := by
  refine wp_region_noPanic ?_
  simp only [mixB, Bool.and_eq_true, decide_eq_true_eq] at hB
  obtain ⟨⟨⟨⟨hsel, hn⟩, hs⟩, hc⟩, hlex⟩ := hB
  have hn' : plan.length < l.length := by simpa using hn
  have hdl : (l.drop plan.length).length = l.toArray.size - plan.length := by simp
  have inv0 : HeadInv .any l.toArray plan.length (Array.replicate l.toArray.size false) :=
    ⟨by simp, fun j oj _ hl => (by rw [getD_replicate_false] at hl; cases hl), fun t _ ht => getD_in (by simpa using ht) (getD_replicate_false _ _)⟩
  have H := wpAnyM_plan (md := .any) (P := P) (Q := NoPanic Q) hsel hs hc hn (fun _ _ _ _ _ h => h) plan C _ a w.drew inv0 hlex hC h
  refine wp_region_any hm ?_
  have := wpAny_of_M (Q := NoPanic Q) (g := l.toArray.size - plan.length) (fun listed a' w' hL => by
    have := wpAny_of_seq (md := .any) (Q' := NoPanic Q) (l.drop plan.length) plan.length listed a' w' (fun j => by simp [List.getElem?_drop]) (by rw [hdl]; exact hL.1) hL.2
    rwa [hdl] at this) _ _ _ _ _ H
  rw [show plan.length + (l.toArray.size - plan.length) = l.toArray.size by omega] at this
  exact this
theorem put_defers' (a : Act) (d : Option Nat) (v : Value) : (a.put d v).defers = a.defers := by cases d <;> rfl
/-- What is asked where a call panics: whatever the temporaries. -/
def AnyTmps (Q : Exit → Act → World → Prop) : Exit → Act → World → Prop
  | .panic c, a, w => ∀ a' : Act, a'.defers = a.defers → Q (.panic c) a' w
  | e, a, w => Q e a w
theorem AnyTmps.imp {Q : Exit → Act → World → Prop} {e : Exit} {a : Act} {w : World} (h : AnyTmps Q e a w) : Q e a w := by
  cases e <;> first | exact h | exact h a rfl
/-- The same, where a call may panic. -/
theorem region_mixP {P : Program} {id : Nat} {Q : Exit → Act → World → Prop} {a : Act} {w : World} {l : List Oper} (plan : List (Bool × Nat)) (C : World → Prop) (hm : P.follows .mixedOrders = true) (hB : mixB .any l.toArray plan = true)
    (hC : C w.drew) (h : wpMix P l.toArray (AnyTmps Q) (fun a' w' => wpList P l.toArray (AnyTmps Q) (l.drop plan.length) a' w') (planOps l plan) C a w.drew) : (Code.region id l.toArray true).wp P Q a w := by
  refine Code.wp_mono (fun _ _ _ => AnyTmps.imp) ?_
  simp only [mixB, Bool.and_eq_true, decide_eq_true_eq] at hB
  obtain ⟨⟨⟨⟨hsel, hn⟩, hs⟩, hc⟩, hlex⟩ := hB
  have hn' : plan.length < l.length := by simpa using hn
  have hdl : (l.drop plan.length).length = l.toArray.size - plan.length := by simp
  have inv0 : HeadInv .any l.toArray plan.length (Array.replicate l.toArray.size false) :=
    ⟨by simp, fun j oj _ hl => (by rw [getD_replicate_false] at hl; cases hl), fun t _ ht => getD_in (by simpa using ht) (getD_replicate_false _ _)⟩
  have H := wpAnyM_plan (md := .any) (P := P) (Q := AnyTmps Q) hsel hs hc hn (fun _ d a1 v _ h a' e => h a' (e.trans (put_defers' a1 d v).symm)) plan C _ a w.drew inv0 hlex hC h
  refine wp_region_any hm ?_
  have := wpAny_of_M (Q := AnyTmps Q) (g := l.toArray.size - plan.length) (fun listed a' w' hL => by
    have := wpAny_of_seq (md := .any) (Q' := AnyTmps Q) (l.drop plan.length) plan.length listed a' w' (fun j => by simp [List.getElem?_drop]) (by rw [hdl]; exact hL.1) hL.2
    rwa [hdl] at this) _ _ _ _ _ H
  rw [show plan.length + (l.toArray.size - plan.length) = l.toArray.size by omega] at this
  exact this
/-- A row of operations that read: in every world of the class, given as a family. -/
theorem mix_seg {P : Program} {ops : Array Oper} {Q : Exit → Act → World → Prop} {T : Act → World → Prop} {C : World → Prop} {w : World} (seg : List Oper) {rest : List (Bool × Oper)} : ∀ {a : Act}, (seg.all pureB = true) → C w →
    (∀ (ι : Type) (_ : Nonempty ι) (F : ι → World), (∀ n, C (F n)) → wpQuiet P ops (fun w' => ∃ n, w' = F n) (fun a' => wpMix P ops Q T rest C a' w) seg a) →
    wpMix P ops Q T (seg.map (fun o => (false, o)) ++ rest) C a w := by
  intro a hp hC h
  have h' := h { w' : World // C w' } ⟨⟨w, hC⟩⟩ Subtype.val (fun n => n.2)
  have hcl : (fun w' => ∃ n : { w' : World // C w' }, w' = n.1) = C := by
    funext w'; apply propext; exact ⟨fun ⟨n, e⟩ => e ▸ n.2, fun g => ⟨⟨w', g⟩, rfl⟩⟩
  rw [hcl] at h'
  clear h hcl
  induction seg generalizing a with
  | nil => exact h'
  | cons o seg ih =>
    simp only [List.all_cons, Bool.and_eq_true] at hp
    rw [List.map_cons, List.cons_append]
    unfold wpQuiet at h'
    by_cases hw : Region.wanted o (yielded ops a.tmps) = true
    · rw [if_pos hw] at h'
      obtain ⟨v, hv, hn⟩ := h'
      refine ⟨v, .inl ⟨hw, fun w1 hw1 => ?_⟩, ih hp.2 hn⟩
      have := hv w1 hw1
      unfold Oper.quietAt at this
      generalize hr : (execOp a.eval o).run P w1 = r at this
      cases r with
      | ok n w2 =>
        cases n <;> simp only [Oper.quietUpon] at this
        case value u => obtain ⟨rfl, rfl⟩ := this; exact .inl rfl
        case skip => obtain ⟨rfl, rfl⟩ := this; exact .inr ⟨rfl, rfl⟩
        case enter f args => exact absurd hr (never_enter hp.1)
      | halt x w2 => simp only [Oper.quietUpon] at this
    · rw [if_neg hw] at h'
      exact ⟨undef, .inr ⟨by simpa using hw, rfl⟩, ih hp.2 h'⟩
/-- One operation that turns the world; the class stays. -/
theorem mix_eff {P : Program} {ops : Array Oper} {Q : Exit → Act → World → Prop} {T : Act → World → Prop} {C : World → Prop} {w : World} {o : Oper} {rest : List (Bool × Oper)} {a : Act}
    (h : ∀ K : Act → World → Prop, (∀ a' w', (∃ C', (∀ x, C' x → C x) ∧ C' w' ∧ wpMix P ops Q T rest C' a' w') → K a' w') → wpList P ops (mixQ Q K) [o] a w) :
    wpMix P ops Q T ((true, o) :: rest) C a w := h _ (fun _ _ g => g)
theorem mix_on {P : Program} {ops : Array Oper} {Q : Exit → Act → World → Prop} {T : Act → World → Prop} {C : World → Prop} {w : World} {rest : List (Bool × Oper)} {a : Act} {K : Act → World → Prop}
    (hK : ∀ a' w', (∃ C', (∀ x, C' x → C x) ∧ C' w' ∧ wpMix P ops Q T rest C' a' w') → K a' w') (hC : C w) (h : wpMix P ops Q T rest C a w) : mixQ Q K .normal a w := hK a w ⟨C, fun _ g => g, hC, h⟩
theorem mix_on' {P : Program} {ops : Array Oper} {Q : Exit → Act → World → Prop} {T : Act → World → Prop} {C : World → Prop} {w : World} {rest : List (Bool × Oper)} {a : Act} {K : Act → World → Prop} (C' : World → Prop)
    (hK : ∀ a' w', (∃ C', (∀ x, C' x → C x) ∧ C' w' ∧ wpMix P ops Q T rest C' a' w') → K a' w') (hle : ∀ x, C' x → C x) (hC : C' w) (h : wpMix P ops Q T rest C' a w) : mixQ Q K .normal a w := hK a w ⟨C', hle, hC, h⟩
end Go.Proofs.YtlbaecjmfgahgaaDoor
