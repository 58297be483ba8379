/- tree.addSet. -/
import Derived.Test.YtpchahlnnbgpkaaDoorTreE
import Derived.Test.YtpchahlnnbgpkaaDoorOct1
import Derived.Test.YtpchahlnnbgpkaaDoorTre1
import Derived.Test.YtpchahlnnbgpkaaDoorSetA
namespace Go.Proofs.YtpchahlnnbgpkaaDoor
open Go.RowKit Sets Tr
theorem runs_more : ∀ (f g : Nat) (l : List Nat), l.length ≤ f → l.length ≤ g → runs f l = runs g l := by
  intro f
  induction f with
  | zero =>
    intro g l hf _
    have : l = [] := List.eq_nil_of_length_eq_zero (by omega)
    subst this
    cases g <;> rfl
  | succ f ih =>
    intro g l hf hg
    cases l with
    | nil => cases g <;> rfl
    | cons a l =>
      cases g with
      | zero => simp at hg
      | succ g =>
        simp only [runs]
        have hp := runLen_pos a l
        congr 1
        refine ih g _ ?_ ?_ <;> simp only [List.length_drop, List.length_cons] at * <;> omega
theorem runs_step (l : List Nat) (h : l ≠ []) (hl : l.length ≤ 256) : runs 256 l = oneRun (l.take (runLen l)) ++ runs 256 (l.drop (runLen l)) := by
  cases l with
  | nil => exact absurd rfl h
  | cons a l =>
    rw [show (256 : Nat) = 255 + 1 from rfl]
    conv => lhs; rw [runs]
    have hp := runLen_pos a l
    congr 1
    refine runs_more _ _ _ ?_ ?_ <;> simp only [List.length_drop, List.length_cons] at * <;> omega
theorem wpList_eql_set {ops : Array Oper} {rest : List Oper} {o : Oper} {a : Act} {w : World} {Q : Exit → Act → World → Prop} (hgd : o.guard = none) (x y : Operand) (t : TypeId)
    (ho : o.op = .binOp .eql 24 x y t) (S T : Nat) (hx : a.eval x = .agg #[.int .u64 (wd S 0), .int .u64 (wd S 1), .int .u64 (wd S 2), .int .u64 (wd S 3)]) (hy : a.eval y = .agg #[.int .u64 (wd T 0), .int .u64 (wd T 1), .int .u64 (wd T 2), .int .u64 (wd T 3)]) (hS : S < 2 ^ 256) (hT : T < 2 ^ 256)
    (h : wpList Tryd.prog ops Q rest (a.put o.dst (.bool (decide (S = T)))) w) : wpList Tryd.prog ops Q (o :: rest) a w := by
  have hg : Tryd.prog.eqGuardType Tryd.prog.depth 24 = false := by kernel_rfl
  refine wpList_plain hgd fun _ hK => ?_
  unfold Oper.wp execOp
  simp only [ho, hx, hy, Sem.run_bind, run_eqGuard_agg w .eql 24 x y _ _ hg, run_eql_struct, eqSet, beq_words hS hT, Result.andThen_ok, Sem.run_pure]
  exact hK _ _ h
/-- the list and what is built lie apart -/
def Sep (x v : Value) : Prop := ∀ g, x.ownBlock = some g → v.ownBlock ≠ some g
/-- what is left of the list -/
structure Lst (w : World) (x : Value) (M : List Nat) (v : Value) : Prop where
  at_ : BytesAt w x M
  cap : ∃ a c, x = .slice a M.length c ∧ M.length ≤ c
  sep : Sep x v
  own : ∀ g, x.ownBlock = some g → g < w.heap.size
theorem Lst.ap {w w' : World} {x v v' : Value} {M : List Nat} (h : Lst w x M v) (ha : Ap w v w' v') : Lst w' x M v' := by
  refine ⟨ha.bytes h.at_ h.sep, h.cap, fun g hg hv => ?_, fun g hg => Nat.lt_of_lt_of_le (h.own g hg) ha.size⟩
  rcases ha.own g hv with h1 | h1
  · exact h.sep g hg h1
  · have := h.own g hg; omega
theorem Lst.below {w w' : World} {x v : Value} {M : List Nat} (h : Lst w x M v) (hb : Below w.heap.size w w') : Lst w' x M v := h.ap (Ap.of_below v hb)
theorem bytes_take {w : World} {a : Option Addr} {n c k : Nat} {M : List Nat} (h : BytesAt w (.slice a n c) M) (hk : k ≤ M.length) : BytesAt w (.slice a k c) (M.take k) := by
  obtain ⟨h1, h2, a', c', e, hc⟩ := h
  cases e
  refine ⟨fun x hx => h1 x (List.mem_of_mem_take hx), by rw [List.length_take]; omega, a, c, by rw [List.length_take, Nat.min_eq_left hk], fun i hi => ?_⟩
  rw [List.length_take] at hi
  obtain ⟨b, o, e, hx⟩ := hc i (by omega)
  refine ⟨b, o, e, ?_⟩
  rw [hx, List.getD_eq_getElem?_getD, List.getD_eq_getElem?_getD, List.getElem?_take_of_lt (by omega)]
theorem bytes_drop {w : World} {b o n c d k : Nat} {M : List Nat} (h : BytesAt w (.slice (some ⟨b, o, none⟩) n c) M) (hk : k ≤ M.length) (hn : n = M.length) : BytesAt w (.slice (some ⟨b, o + k, none⟩) (n - k) d) (M.drop k) := by
  obtain ⟨h1, h2, a', c', e, hc⟩ := h
  subst hn
  refine ⟨fun x hx => h1 x (List.mem_of_mem_drop hx), by rw [List.length_drop]; omega, _, d, by rw [List.length_drop], fun i hi => ?_⟩
  rw [List.length_drop] at hi
  obtain ⟨b', o', e, hx⟩ := hc (k + i) (by omega)
  cases e
  cases e
  refine ⟨b, o + k, rfl, ?_⟩
  rw [show o + k + i = o + (k + i) from by omega, hx, List.getD_eq_getElem?_getD, List.getD_eq_getElem?_getD, List.getElem?_drop]
theorem bytes_none {w : World} (a : Option Addr) (c : Nat) : BytesAt w (.slice a 0 c) [] := ⟨fun x hx => (by cases hx), Nat.zero_le _, a, c, rfl, fun i hi => (by cases hi)⟩
def sliceLen : Value → Nat
  | .slice _ n _ => n
  | _ => 0
theorem full_lt : full < 2 ^ 256 := by decide
set_option maxHeartbeats 6400000 in
set_option maxRecDepth 100000 in
theorem addSet_any (B : Nat) (v : Value) (D : List Nat) (S : Nat) (w : World) (hS : S < 2 ^ 256) (hO : Out B w v D) (hD : D.length ≤ 400000000) (hB : B ≤ w.heap.size) (hT : Tab w) (hg : 0 < B) :
    Calls Tryd.prog 33 #[v, .agg #[.int .u64 (wd S 0), .int .u64 (wd S 1), .int .u64 (wd S 2), .int .u64 (wd S 3)]] w (OutAp B w v (D ++ setPr S)) := by
  have HS := Lib.hid hS
  have HO := Lib.hid hO
  have HT := Lib.hid hT
  have hb0 := (Below.refl w.heap.size w).alloc (Nat.le_refl _) (.cells #[.int .u64 (wd S 0), .int .u64 (wd S 1), .int .u64 (wd S 2), .int .u64 (wd S 3)] 24)
  have HB0 := Lib.hid hb0
  have hA := SetAt.new w S 24
  have HA := Lib.hid hA
  have HZ0 : Hid ((w.alloc (.cells #[.int .u64 (wd S 0), .int .u64 (wd S 1), .int .u64 (wd S 2), .int .u64 (wd S 3)] 24)).heap.size = w.heap.size + 1) := Lib.hid (by simp)
  clear hS hO hT hb0 hA
  go_enter Tryd.func33, Tryd.ntmps33
  go_wp2_with fail
  generalize (w.alloc (.cells #[.int .u64 (wd S 0), .int .u64 (wd S 1), .int .u64 (wd S 2), .int .u64 (wd S 3)] 24)) = w1 at *
  have hs1 : w.heap.size < w1.heap.size := by rw [HZ0.out]; omega
  refine region_mix [(false, 0), (true, 1)] (fun w' => Below w1.heap.size w1 w') (by kernel_rfl) (by kernel_rfl) ((Below.refl _ _).drew) ?_
  simp only [planOps, List.map_cons, List.map_nil, List.getD_cons_zero, List.getD_cons_succ, List.length_cons, List.length_nil, List.drop_succ_cons, List.drop_zero]
  refine mix_seg (seg := [_]) rfl ((Below.refl _ _).drew) ?_
  intro ι hι F hF
  have f0 := fun n => ((hF n).cell (p := ⟨w.heap.size, 0, none⟩) hs1).trans HA.out.c0
  have f1 := fun n => ((hF n).cell (p := ⟨w.heap.size, 1, none⟩) hs1).trans HA.out.c1
  have f2 := fun n => ((hF n).cell (p := ⟨w.heap.size, 2, none⟩) hs1).trans HA.out.c2
  have f3 := fun n => ((hF n).cell (p := ⟨w.heap.size, 3, none⟩) hs1).trans HA.out.c3
  repeat (go_big_quiet_step (fail))
  refine wpQuiet_nil ?_
  clear f0 f1 f2 f3 hF hι F
  refine mix_eff (fun K hK => ?_)
  go_wp2_with (go_at_call 38; refine (all_any _).mono ?_; rintro e w3 ⟨rfl, hB3⟩)
  have hW3 := ((Below.refl w1.heap.size w1).drew).trans (hB3.mono (Nat.le_refl _))
  refine mix_on hK hW3 ?_
  clear hK K
  have HW3 := Lib.hid (HB0.out.trans (hW3.mono HB0.out.size))
  have HA3 := Lib.hid (HA.out.kept hW3 hs1)
  clear hB3 hW3
  show wpList _ _ _ _ _ _
  by_cases hf : S = full
  · go_wp2_with (refine wpList_eql_set rfl _ _ _ rfl S full rfl rfl HS.out full_lt ?_; rw [decide_eq_true hf])
    refine NoPanic.normal ?_
    have HSF := Lib.hid hf
    have HO3 := Lib.hid (HO.out.below HW3.out)
    clear hf
    go_wp2_with (refine wpList_out rfl _ _ rfl B v D [46] _ rfl rfl HO3.out rfl (by simp; omega) (Nat.le_trans hB HW3.out.size) ?_; intro v2 w2 hO2 hB2 hA2; have HO2 := Lib.hid hO2; have HA2 := Lib.hid hA2; clear hO2 hA2)
    go_ret
    refine ⟨_, rfl, ?_, (HW3.out.mono hB).trans hB2, (Ap.of_below v HW3.out).trans HA2.out⟩
    have e : setPr S = [46] := by unfold setPr; rw [if_pos HSF.out]
    rw [e]
    exact HO2.out
  · go_wp2_with (refine wpList_eql_set rfl _ _ _ rfl S full rfl rfl HS.out full_lt ?_; rw [decide_eq_false hf])
    refine NoPanic.normal ?_
    have HSF := Lib.hid hf
    have HO3 := Lib.hid (HO.out.below HW3.out)
    have HL := Lib.hid (list_any S w3 (HT.out.below HW3.out (Nat.lt_of_lt_of_le hg hB)) (Nat.lt_of_lt_of_le hg (Nat.le_trans hB HW3.out.size)))
    obtain ⟨c0, c1, c2, c3⟩ := HA3.out
    have hvs : ∀ g, v.ownBlock = some g → g < w3.heap.size := fun g hg => Nat.lt_of_lt_of_le (HO.out.lt g hg).2 HW3.out.size
    have HVS := Lib.hid hvs
    clear hf hvs hs1
    go_wp2_with fail
    refine HL.out.mono ?_
    rintro e w4 ⟨x, rfl, hLo, hB4⟩
    have hLb := owns_bytes hLo (listN_lt S) (by have := listN_len S; unfold maxLen; omega)
    have hL4 : Lst w4 x (listN S) v := by
      refine ⟨hLb, ?_, fun g hg hv => ?_, fun g hg => (hLo.lt g hg).2⟩
      · rcases hLo.2 with ⟨h1, h2⟩ | ⟨g, cap, cur, h1, -, -, h2, -⟩
        · exact ⟨none, 0, by rw [h1, h2], by omega⟩
        · exact ⟨_, cap, h1, h2⟩
      · have h1 := (hLo.lt g hg).1
        have h2 := HVS.out g hv
        omega
    have HL4 := Lib.hid hL4
    have HO4 := Lib.hid (HO3.out.below hB4)
    have HW4 := Lib.hid (HW3.out.trans (hB4.mono HW3.out.size))
    have HSrt := Lib.hid (listN_sorted S)
    have hln := listN_len S
    have hpr : setPr S = if (listN S).length = 1 then esc marks ((listN S).getD 0 0) else 91 :: (runs 256 (listN S) ++ [93]) := by unfold setPr; rw [if_neg HSF.out]
    obtain ⟨a, cp, rfl, hcp⟩ := hL4.cap
    have HPR := Lib.hid hpr
    clear hLo hB4 hLb hL4 hpr c0 c1 c2 c3 HL HA3
    have HBw : Hid (B ≤ w4.heap.size) := Lib.hid (Nat.le_trans hB HW4.out.size)
    generalize listN S = L at *
    by_cases h1 : L.length = 1
    · obtain ⟨b, o, rfl, hc0, hb0⟩ := bytes_cell HL4.out.at_ (i := 0) (by omega)
      have e := HPR.out
      rw [if_pos h1] at e
      have HE := Lib.hid e
      clear e
      rw [Nat.add_zero] at hc0
      generalize L.getD 0 0 = y at *
      rw [h1]
      clear h1
      have hh := addByte_any B v D y sMarks marks w4 hb0 hasMarks HO4.out (by omega) HBw.out
      have HH := Lib.hid hh
      clear hh
      go_wp2_with fail
      refine HH.out.mono ?_
      rintro e w5 ⟨v5, rfl, hO5, hB5, hA5⟩
      have HA5 := Lib.hid ((Ap.of_below v HW4.out).trans hA5)
      have HO5 := Lib.hid hO5
      have HB5 := Lib.hid ((HW4.out.mono hB).trans hB5)
      clear hO5 hB5 hA5
      go_wp2_with fail
      go_ret
      refine ⟨_, rfl, ?_, HB5.out, HA5.out⟩
      rw [HE.out]
      exact HO5.out
    · have hd1 : (((L.length : Nat) : Int) == 1) = false := by rw [beq_eq_false_iff_ne]; omega
      have e := HPR.out
      rw [if_neg h1] at e
      have HE := Lib.hid e
      clear e h1
      go_wp2_with (refine wpList_out rfl _ _ rfl B v D [91] _ rfl rfl HO4.out rfl (by simp; omega) HBw.out ?_; intro v5 w5 hO5 hB5 hA5; have HO5 := Lib.hid hO5; have HB5 := Lib.hid ((HW4.out.mono hB).trans hB5); have HL5 := Lib.hid (HL4.out.ap hA5); have HA5 := Lib.hid ((Ap.of_below v HW4.out).trans hA5); have HBw5 : Hid (B ≤ w5.heap.size) := Lib.hid (Nat.le_trans HBw.out hB5.size); clear hO5 hB5 hA5)
      have hrl := runs_len 256 L
      have HRL := Lib.hid hrl
      clear hrl hd1
      go_loopw [0, 5] (fun u x wr => ∃ M acc, Hid (acc ++ runs 256 M = runs 256 L) ∧ M.length ≤ 256 ∧ Hid (M.Pairwise (· < ·)) ∧ Hid (Out B wr u (D ++ 91 :: acc)) ∧ Hid (Lst wr x M u) ∧ Hid (Below B w wr) ∧ Hid (B ≤ wr.heap.size) ∧ Hid (Ap w v wr u) ∧ ∃ a c, x = .slice a M.length c ∧ M.length ≤ c) (fun _ x _ => sliceLen x)
      case atStart => exact ⟨L, [], Lib.hid rfl, hln, HSrt, HO5, HL5, HB5, HBw5, HA5, a, cp, rfl, hcp⟩
      case round =>
        obtain ⟨M, acc, HAcc, hM, HMs, HO6, HL6, HB6, HBw6, HA6, a6, c6, rfl, hc6⟩ := hrel
        generalize hwr : wr = w6 at *
        clear hwr wr
        have hal : acc.length ≤ 2304 := by
          have h1 := congrArg List.length HAcc.out
          have h2 := HRL.out
          rw [List.length_append] at h1
          omega
        by_cases hMe : M = []
        · subst hMe
          have e2 : setPr S = 91 :: (acc ++ [93]) := by rw [HE.out, ← HAcc.out]; simp [runs]
          have HE2 := Lib.hid e2
          clear e2
          have hle : (D ++ 91 :: acc).length + [93].length ≤ 140737488355328 := by simp only [List.length_append, List.length_cons, List.length_nil]; omega
          have HLe := Lib.hid hle
          clear hle
          go_wp2_with (refine wpList_out rfl _ _ rfl B u0 (D ++ 91 :: acc) [93] _ rfl rfl HO6.out rfl HLe.out HBw6.out ?_; intro v7 w7 hO7 hB7 hA7; have HO7 := Lib.hid hO7; have HB7 := Lib.hid (HB6.out.trans hB7); have HA7 := Lib.hid (HA6.out.trans hA7); clear hO7 hB7 hA7)
          go_ret
          refine ⟨_, rfl, ?_, HB7.out, HA7.out⟩
          rw [HE2.out]
          have := HO7.out
          rw [List.append_assoc] at this
          exact this
        · have hM1 : 1 ≤ M.length := by cases M with | nil => exact absurd rfl hMe | cons x y => simp
          obtain ⟨b, o, rfl, hc0, hb0⟩ := bytes_cell HL6.out.at_ (i := 0) (by omega)
          have hrp : 1 ≤ runLen M := by cases M with | nil => exact absurd rfl hMe | cons x y => exact runLen_pos x y
          have hrl := runLen_le M
          have HStep := Lib.hid (runs_step M hMe hM)
          have HRun := Lib.hid (run_any _ M w6 HL6.out.at_ hMe HMs.out hM)
          have HTake := Lib.hid (fun k (hk : k ≤ M.length) => bytes_take HL6.out.at_ hk)
          have HMe := Lib.hid hMe
          have hd : decide ((0 : Int) < (M.length : Int)) = true := decide_eq_true (by omega)
          clear hc0 hb0 hMe
          obtain ⟨n, hn⟩ : ∃ n, n = runLen M := ⟨_, rfl⟩
          rw [← hn] at hrp hrl HStep HRun
          have HN := Lib.hid hn
          clear hn
          have hd2 : decide ((n : Int) ≤ (c6 : Int)) = true := decide_eq_true (by omega)
          go_wp2_with fail
          refine HRun.out.mono ?_
          rintro e w7 ⟨rfl, hB7⟩
          have HO7 := Lib.hid (HO6.out.below hB7)
          have HL7 := Lib.hid (HL6.out.below hB7)
          have HB7 := Lib.hid (HB6.out.trans (hB7.mono HBw6.out))
          have HA7 := Lib.hid (HA6.out.trans (Ap.of_below u0 hB7))
          have HBw7 : Hid (B ≤ w7.heap.size) := Lib.hid (Nat.le_trans HBw6.out hB7.size)
          clear hB7
          go_wp2_with fail
          have hle : D.length + (acc.length + 1) ≤ 500000000 := by omega
          refine (addRun_any B _ (.slice (some ⟨b, o, none⟩) n c6) (D ++ 91 :: acc) (M.take n) w7 HO7.out (bytes_take HL7.out.at_ hrl) (fun g hg => HL7.out.sep g hg) (by have h2 : (M.take n).length = n := (by rw [List.length_take]; omega); intro h; rw [h] at h2; simp at h2; omega) (by rw [List.length_take]; omega) (by simpa using hle) HBw7.out).mono ?_
          rintro e w8 ⟨v8, rfl, hO8, hB8, hA8⟩
          have HO8 := Lib.hid hO8
          have HL8 := Lib.hid (HL7.out.ap hA8)
          have HB8 := Lib.hid (HB7.out.trans hB8)
          have HA8 := Lib.hid (HA7.out.trans hA8)
          have HBw8 : Hid (B ≤ w8.heap.size) := Lib.hid (Nat.le_trans HBw7.out hB8.size)
          have HAcc8 : Hid ((acc ++ oneRun (M.take n)) ++ runs 256 (M.drop n) = runs 256 L) := Lib.hid (by rw [List.append_assoc, ← HStep.out]; exact HAcc.out)
          have HO9 : Hid (Out B w8 v8 (D ++ 91 :: (acc ++ oneRun (M.take n)))) := Lib.hid (by
            have e : D ++ 91 :: (acc ++ oneRun (M.take n)) = D ++ 91 :: acc ++ oneRun (M.take n) := by simp
            rw [e]; exact HO8.out)
          clear hO8 hB8 hA8 hle
          by_cases hcn : c6 = n
          · subst hcn
            have hMn : c6 = M.length := by omega
            have HL9 : Hid (Lst w8 (.slice (some ⟨b, o, none⟩) 0 0) (M.drop c6) v8) := Lib.hid (by
              rw [hMn, List.drop_length]
              exact ⟨bytes_none _ _, ⟨_, _, rfl, Nat.le_refl _⟩, fun g hg => HL8.out.sep g hg, fun g hg => HL8.out.own g hg⟩)
            go_wp2_with fail
            exact ⟨⟨M.drop c6, acc ++ oneRun (M.take c6), HAcc8, by rw [List.length_drop]; omega, Lib.hid (HMs.out.sublist (List.drop_sublist _ _)), HO9, HL9, HB8, HBw8, HA8, _, 0, by rw [hMn, List.drop_length]; rfl, by rw [hMn, List.drop_length]; exact Nat.le_refl _⟩, by show 0 < M.length; omega⟩
          · have HL9 : Hid (Lst w8 (.slice (some ⟨b, o + n, none⟩) (M.length - n) (c6 - n)) (M.drop n) v8) := Lib.hid
              ⟨bytes_drop HL8.out.at_ hrl rfl, ⟨_, _, by rw [List.length_drop], by rw [List.length_drop]; omega⟩, fun g hg => HL8.out.sep g hg, fun g hg => HL8.out.own g hg⟩
            have hdl : (M.drop n).length = M.length - n := List.length_drop
            have HDl := Lib.hid hdl
            clear hdl
            have hq1 : (M.length : Int) - n = ((M.length - n : Nat) : Int) := by omega
            have hq2 : (c6 : Int) - n = ((c6 - n : Nat) : Int) := by omega
            go_wp2_with fail
            exact ⟨⟨M.drop n, acc ++ oneRun (M.take n), HAcc8, by rw [HDl.out]; omega, Lib.hid (HMs.out.sublist (List.drop_sublist _ _)), HO9, HL9, HB8, HBw8, HA8, _, _, by rw [HDl.out], by rw [HDl.out]; omega⟩, by show M.length - n < M.length; omega⟩
end Go.Proofs.YtpchahlnnbgpkaaDoor
