/- Several texts in one. -/
import Derived.Test.YtcgllipcnmlkbaaDoorPkL
namespace Go.Proofs.YtcgllipcnmlkbaaDoor
open Go.RowKit Sets Tr Rx
/-- one part, just laid, is appended -/
theorem wpList_append_part {ops : Array Oper} {rest : List Oper} {o : Oper} {a : Act} {w : World} {Q : Exit → Act → World → Prop} (hgd : o.guard = none) (s y : Operand)
    (ho : o.op = .call { callee := .builtin .append, args := #[s, y], argTypes := #[37, 37] }) (B : Nat) (v : Value) (N : List (Int × Bool)) (x : Int × Bool) (hs : a.eval s = v)
    (g : Nat) (hc : w.rangeAt g 0 (pt2 x)) (hown : OwnP B w v N) (hx : a.eval y = .slice (some ⟨g, 0, none⟩) 1 1) (hN : N.length ≤ 1000) (hbase : B + 1 ≤ w.heap.size)
    (h : ∀ v' w', OwnP B w' v' (N ++ [x]) → w.grownBy w' v.ownBlock → wpList Tryd.prog ops Q rest (a.put o.dst v') w') :
    wpList Tryd.prog ops Q (o :: rest) a w := by
  obtain ⟨i0, hi, hz0, hz1, hz2⟩ := info_parts infoPart
  refine wpList_append_own_at _ hgd s y 37 ho (B + 1) 78 i0 _ 2 16 Tryd.underlying37 hi hz0 hz1 hz2 rfl (by decide) v _ _ hs hown ⟨g, 0, none⟩ 1 1 (pt2 x) hx rfl ?_ ?_ ?_ ?_ hbase ?_
  · intro j u hj
    rw [Addr.add_lit]
    exact hc j u hj
  · have := pts_ones [x]
    simpa [pts] using this
  · unfold maxLen; omega
  · omega
  · intro v' w' h1 h2 _ h4
    refine h v' w' ?_ h2
    unfold OwnP
    rw [pts_append, List.length_append]
    simpa [pts] using h1
def PP (B : Nat) (s : ByteArray) (w : World) (r : P) (e : Ending) (w' : World) : Prop :=
  match r with
  | .ok p ns ps => e = .returned (.tuple #[]) ∧ (∃ nv pv, RdAt w' B s p 0 ns ps nv pv) ∧ Below B w w'
  | .bad lg p => e = .panicked [{ v := pnc lg p, recovered := false }] ∧ Below B w w'
theorem PP.cast {B : Nat} {s : ByteArray} {w : World} {r r' : P} {e : Ending} {w' : World} (h : r' = r) (k : PP B s w r' e w') : PP B s w r e w' := h ▸ k
theorem part_range (w : World) (n : Int) (b : Bool) (t : TypeId) : (w.alloc (.cells #[.int .i64 n, .bool b] t)).rangeAt w.heap.size 0 (pt2 (n, b)) := by
  intro j v hv
  rw [Nat.zero_add, World.cell?_alloc_new, List.getElem?_toArray]
  exact hv
set_option maxHeartbeats 1600000 in
theorem part_any (B : Nat) (s : ByteArray) (p c : Nat) (ns : List Nd) (ps : List (Int × Bool)) (nv pv : Value) (w : World) (h : RdAt w B s p 0 ns ps nv pv) (hin : In2 (by' s) p ns ps (3 + c)) (hs : s.size ≤ 200) :
    Calls Tryd.prog 50 #[.pointer (some ⟨B, 0, none⟩)] w (PP B s w (prt (by' s) p ns ps)) := by
  have hle := hin.inn.sz
  have hB := h.row.lt
  have hfew := hin.few
  have Ty := Lib.hid (fun w' p nv pv (c : Nat) (hR : Row w' B s p 0 nv pv) => take_yes B s p 0 nv pv c w' hR hs)
  have Tn := Lib.hid (fun w' p nv pv (c : Nat) (hR : Row w' B s p 0 nv pv) => take_no B s p 0 nv pv c w' hR)
  have hno := nots_ok (l := by' s) ((by' s).length + 1) false p hin.inn.le (by omega)
  have HPat := Lib.hid (fun w' q nv (hR : RdAt w' B s q 0 ns ps nv pv) hq => (all_con (fl (by' s))).1 B s 0 q c ns ps nv pv w' hR hq hs (by omega) (by unfold fl; rw [by_len]; simp only [Md.c]; omega))
  unfold prt
  obtain ⟨R, hRR⟩ : ∃ R, R = nots (by' s) ((by' s).length + 1) false p := ⟨_, rfl⟩
  rw [← hRR] at hno ⊢
  have HIS := Lib.hid hRR.symm
  have HIn := Lib.hid hin
  have hF : s.size < p + (s.size + 1) := by omega
  have HF := Lib.hid hF
  rw [by_len] at HIS
  clear hRR hF hin
  have H := Lib.hid h
  clear h
  go_enter Tryd.func50, Tryd.ntmps50
  go_wp2_with fail
  go_loopw [2] (fun v wr => ∃ f b q, v = .bool b ∧ Hid (RdAt wr B s q 0 ns ps nv pv ∧ Below B w wr ∧ q ≤ s.size ∧ s.size < q + f ∧ nots (by' s) f b q = R)) (fun _ wr => s.size + 1 - posOf wr B)
  case atStart => exact ⟨_, _, _, rfl, Lib.hid ⟨H.out, Below.refl _ _, hle, HF.out, HIS.out⟩⟩
  case round =>
    obtain ⟨f, b, q, rfl, HI⟩ := hrel
    have hleq := HI.out.2.2.1
    have hfu := HI.out.2.2.2.1
    obtain ⟨f, rfl⟩ : ∃ g, f = g + 1 := ⟨f - 1, by omega⟩
    by_cases h33 : pk (by' s) q = 33
    · have hlt := pk_lt (l := by' s) (p := q) (by omega)
      rw [by_len] at hlt
      have hE : nots (by' s) f (!b) (q + 1) = R := by
        have := HI.out.2.2.2.2
        rw [nots, if_pos h33] at this
        exact this
      have HE := Lib.hid hE
      clear hE
      go_wp2_with fail
      refine (Ty.out _ q nv pv 33 HI.out.1.row (by decide) h33).mono ?_
      rintro e w1 ⟨rfl, hR1, hb1⟩
      have HI2 : Hid (RdAt w1 B s (q + 1) 0 ns ps nv pv ∧ Below B w w1 ∧ q + 1 ≤ s.size ∧ s.size < q + 1 + f ∧ nots (by' s) f (!b) (q + 1) = R) :=
        Lib.hid ⟨HI.out.1.but hR1 hb1, HI.out.2.1.trans (hb1.belowW HI.out.1.row), by omega, by omega, HE.out⟩
      clear hR1 hb1
      go_wp2_with fail
      go_round
      case rel => exact ⟨_, _, _, rfl, HI2⟩
      case measure =>
        rw [posOf_row HI2.out.1.row, posOf_row HI.out.1.row]
        omega
    · have hE : (b, q) = R := by
        have := HI.out.2.2.2.2
        rw [nots, if_neg h33] at this
        exact this
      have HE := Lib.hid hE
      have hq2 : q = R.2 := by rw [← hE]
      have hb2 : b = R.1 := by rw [← hE]
      clear hE
      have hin1 : In (by' s) q ns (Md.pat.g + c) := HIn.out.inn.more (by omega) (by rw [by_len]; omega) (by simp only [Md.g]; omega)
      have HP1 := Lib.hid (fun w' hR => HPat.out w' q nv hR hin1)
      have hg := go_good (by_lt s) (fl (by' s)) .pat 0 q ns c hin1 trivial
      clear hq2 hb2
      cases hr : go (by' s) (fl (by' s)) .pat 0 q ns with
      | bad lg q1 =>
        rw [hr] at HP1
        have HX : Hid (P.bad lg q1 = prtE (by' s) ns ps R.1 R.2) := Lib.hid (by rw [← HE.out]; simp only [prtE]; rw [hr])
        clear hr hg
        go_wp2_with fail
        refine (Tn.out _ q nv pv 33 HI.out.1.row hleq h33).mono ?_
        rintro e w1 ⟨rfl, hR1, hb1⟩
        have HR1 := Lib.hid (HI.out.1.but hR1 hb1)
        have HB1 := Lib.hid (HI.out.2.1.trans (hb1.belowW HI.out.1.row))
        clear hR1 hb1
        go_wp2_with fail
        refine (HP1.out _ HR1.out).mono ?_
        rintro e w2 ⟨rfl, hb2⟩
        exact ⟨rfl, PP.cast HX.out ⟨rfl, HB1.out.trans hb2⟩⟩
      | ok n q1 ns1 =>
        rw [hr] at HP1
        have HX : Hid (P.ok q1 ns1 (ps ++ [((n : Int), b)]) = prtE (by' s) ns ps R.1 R.2) := Lib.hid (by rw [← HE.out]; simp only [prtE]; rw [hr])
        clear hr hg
        go_wp2_with fail
        refine (Tn.out _ q nv pv 33 HI.out.1.row hleq h33).mono ?_
        rintro e w1 ⟨rfl, hR1, hb1⟩
        have HR1 := Lib.hid (HI.out.1.but hR1 hb1)
        have HB1 := Lib.hid (HI.out.2.1.trans (hb1.belowW HI.out.1.row))
        clear hR1 hb1
        go_wp2_with fail
        refine (HP1.out _ HR1.out).mono ?_
        rintro e w2 ⟨rfl, ⟨nv2, hR2⟩, hb2⟩
        have HR2 := Lib.hid hR2
        have HB2 := Lib.hid (HB1.out.trans hb2)
        obtain ⟨c0, c1, c2, c3, c4⟩ := HR2.out.row.cells
        obtain ⟨pa, pc, hpv⟩ := own_slice HR2.out.op
        have HOP := Lib.hid HR2.out.op
        have hal := (Below.refl w2.heap.size w2).alloc (Nat.le_refl _) (.cells #[.int .i64 (n : Int), .bool b] 78)
        have HR3 := Lib.hid (HR2.out.below hal)
        have HB3 := Lib.hid (HB2.out.trans (hal.mono (by have := HR2.out.row.lt; omega)))
        have HC3 := Lib.hid (part_range w2 (n : Int) b 78)
        have hsz3 : Hid ((w2.alloc (.cells #[.int .i64 (n : Int), .bool b] 78)).heap.size = w2.heap.size + 1) := Lib.hid (by simp)
        clear hR2 hb2 hal
        subst hpv
        go_wp2_with (refine wpList_append_part rfl _ _ rfl B _ ps ((n : Int), b) rfl w2.heap.size HC3.out HR3.out.op rfl (by omega) HR3.out.row.lt ?_; intro v4 w4 hO4 hG4; obtain ⟨a4, k4, rfl⟩ := own_slice hO4; have HO4 := Lib.hid hO4; have HG4 : Hid (World.grownBy _ w4 (Value.slice pa ps.length pc).ownBlock) := Lib.hid hG4; have HRow4 := Lib.hid (HR3.out.row.kept (HG4.out.block B HR3.out.row.lt (fun e => by have := (HR3.out.op.lt B e.symm).1; omega))); obtain ⟨d0, d1, d2, d3, d4⟩ := HRow4.out.cells; have f4 := HRow4.out.frozen 4; clear hO4 hG4)
        refine bodyPost_ret (results_none rfl _ _ _) rfl (PP.cast HX.out ⟨rfl, ⟨nv2, Value.slice a4 (ps ++ [((n : Int), b)]).length k4, ?_, ?_, ?_⟩, ?_⟩)
        · have := HRow4.out
          unfold Row at *
          simp [World.setCell, Array.getElem?_modify, this]
        · refine own_kept HR3.out.on (fun g hg => ?_)
          rw [Below.heap_setCell _ _ _ _ (by have := (HR3.out.on.lt g hg).1; simp only; omega)]
          exact HG4.out.block g (HR3.out.on.lt g hg).2 (fun e => HR3.out.apart g hg e.symm)
        · exact own_kept HO4.out (fun g hg => Below.heap_setCell _ _ _ _ (by have := (HO4.out.lt g hg).1; simp only; omega))
        · refine ⟨HG4.out.os.trans HB3.out.os, HG4.out.tape.trans HB3.out.tape, HG4.out.output.trans HB3.out.output, by simpa using Nat.le_trans HB3.out.size HG4.out.size, fun k hk => ?_⟩
          rw [Below.heap_setCell _ _ _ _ (by simp only; omega)]
          rw [HG4.out.block k (by have := HR3.out.row.lt; omega) (fun e => by have := (HR3.out.op.lt k e.symm).1; omega)]
          exact HB3.out.block k hk
end Go.Proofs.YtcgllipcnmlkbaaDoor
namespace Go.Proofs.YtcgllipcnmlkbaaDoor
open Go.RowKit Sets Tr Rx
theorem NK.nd {x : Nd} (h : NK x) : NdOk x := ⟨h.k, h.s, ⟨by have := h.a; omega, by have := h.a; omega⟩, ⟨by have := h.b; omega, by have := h.b; omega⟩, ⟨by have := h.mn; omega, by have := h.mn; omega⟩, ⟨by have := h.mx; omega, by have := h.mx; omega⟩⟩
theorem pts_get (N : List (Int × Bool)) (i q : Nat) (hi : i < N.length) (v : Value) (hq : (pt2 (N.getD i default))[q]? = some v) : (pts N)[i * 2 + q]? = some v := by
  induction N generalizing i with
  | nil => simp at hi
  | cons x N ih =>
    have hl : (pt2 x).length = 2 := by simp [pt2]
    cases i with
    | zero =>
      simp only [List.getD_cons_zero] at hq
      unfold pts
      rw [List.flatMap_cons, Nat.zero_mul, Nat.zero_add, List.getElem?_append_left (List.getElem?_eq_some_iff.1 hq).1]
      exact hq
    | succ i =>
      simp only [List.getD_cons_succ] at hq
      unfold pts
      rw [List.flatMap_cons, List.getElem?_append_right (by rw [hl]; omega), hl, show (i + 1) * 2 + q - 2 = i * 2 + q from by omega]
      exact ih i (by simpa using hi) hq
theorem own_nodes {B : Nat} {w : World} {v : Value} {N : List Nd} (h : OwnN B w v N) (hN : N.length ≤ 700) (hk : ∀ x ∈ N, NK x) : NodesAt w v N := by
  refine ⟨fun x hx => NK.nd (hk x hx), hN, ?_⟩
  obtain ⟨-, h2⟩ := h
  rcases h2 with ⟨h1, h3⟩ | ⟨g, cap, cur, h1, -, h3, -, -, -, h4⟩
  · exact ⟨none, 0, by rw [h1, h3], fun i hi => by omega⟩
  · refine ⟨_, cap, h1, fun i hi => ⟨g, 0, rfl, fun q u hq => ?_⟩⟩
    rw [Nat.zero_add, cell_of_row w g _ _ _ _ h3, ← Array.getElem?_toList]
    have := nds_get N i q hi u hq
    rw [← h4, List.getElem?_take_of_lt (by have := (List.getElem?_eq_some_iff.1 this).1; rw [h4, nds_length] at this; omega)] at this
    exact this
theorem own_parts {B : Nat} {w : World} {v : Value} {N : List (Int × Bool)} (h : OwnP B w v N) (hN : N.length ≤ 30) (hk : ∀ x ∈ N, 0 ≤ x.1 ∧ x.1 ≤ 1000) : PartsAt w v N := by
  refine ⟨fun x hx => ⟨by have := hk x hx; omega, by have := hk x hx; omega⟩, hN, ?_⟩
  obtain ⟨-, h2⟩ := h
  rcases h2 with ⟨h1, h3⟩ | ⟨g, cap, cur, h1, -, h3, -, -, -, h4⟩
  · exact ⟨none, 0, by rw [h1, h3], fun i hi => by omega⟩
  · refine ⟨_, cap, h1, fun i hi => ⟨g, 0, rfl, fun q u hq => ?_⟩⟩
    rw [Nat.zero_add, cell_of_row w g _ _ _ _ h3, ← Array.getElem?_toList]
    have := pts_get N i q hi u hq
    rw [← h4, List.getElem?_take_of_lt (by have := (List.getElem?_eq_some_iff.1 this).1; rw [h4, pts_length] at this; omega)] at this
    exact this
theorem prtsL0 {l : List Nat} {f p : Nat} {ns : List Nd} {ps : List (Int × Bool)} (h : pk l p ≠ 38) : prtsL l (f + 1) p ns ps = .ok p ns ps := by rw [prtsL, if_neg h]
theorem prtsL20 {l : List Nat} {f p : Nat} {ns : List Nd} {ps : List (Int × Bool)} (h : pk l p = 38) (h20 : ps.length = 20) : prtsL l (f + 1) p ns ps = .bad true p := by rw [prtsL, if_pos h, if_pos h20]
theorem prtsLb {l : List Nat} {f p q : Nat} {lg : Bool} {ns : List Nd} {ps : List (Int × Bool)} (h : pk l p = 38) (h20 : ps.length ≠ 20) (hp : prt l (p + 1) ns ps = .bad lg q) : prtsL l (f + 1) p ns ps = .bad lg q := by rw [prtsL, if_pos h, if_neg h20, hp]
theorem prtsL1 {l : List Nat} {f p q : Nat} {ns ns' : List Nd} {ps ps' : List (Int × Bool)} (h : pk l p = 38) (h20 : ps.length ≠ 20) (hp : prt l (p + 1) ns ps = .ok q ns' ps') : prtsL l (f + 1) p ns ps = prtsL l f q ns' ps' := by rw [prtsL, if_pos h, if_neg h20, hp]
/-- behind the last part -/
noncomputable def fin (l : List Nat) (r : P) : P :=
  match r with
  | .bad lg p => .bad lg p
  | .ok p ns ps => if p < l.length then .bad false p else if 63 < plOf ns ps then .bad true p else .ok p ns ps
theorem sizeTree' : (Tryd.prog.info? 39).map (·.size) = some 2 := by kernel_rfl
theorem wpList_load_tree {ops : Array Oper} {rest : List Oper} {o : Oper} {a : Act} {w : World} {Q : Exit → Act → World → Prop} (hgd : o.guard = none) (x : Operand) (ho : o.op = .load 39 x)
    (b q : Nat) (nv pv : Value) (hx : a.eval x = .pointer (some ⟨b, q, none⟩)) (h0 : w.cell? ⟨b, q, none⟩ = some nv) (h1 : w.cell? ⟨b, q + 1, none⟩ = some pv) (h : wpList Tryd.prog ops Q rest (a.put o.dst (.agg #[nv, pv])) w) : wpList Tryd.prog ops Q (o :: rest) a w :=
  wpList_load_mid hgd 39 x ho b q hx [nv, pv] _ (fun j v hv => by
    rcases j with _ | _ | j
    · simp at hv; subst hv; exact h0
    · simp at hv; subst hv; exact h1
    · simp at hv) Tryd.underlying39 rfl sizeTree' h
set_option maxHeartbeats 3200000 in
theorem constraint_any (B : Nat) (s : ByteArray) (nv pv : Value) (w : World) (h : RdAt w B s 0 0 [] [] nv pv) :
    Calls Tryd.prog 36 #[.pointer (some ⟨B, 0, none⟩)] w (PP B s w (cons (by' s))) := by
  have hB := h.row.lt
  obtain ⟨c0, c1, c2, c3, c4⟩ := h.row.cells
  by_cases h200 : 200 < s.size
  · have hc : cons (by' s) = .bad true 200 := if_pos (by rw [by_len]; exact h200)
    rw [hc]
    have d1 : decide ((200 : Int) < (s.size : Int)) = true := decide_eq_true (by omega)
    clear hc h h200
    go_enter Tryd.func36, Tryd.ntmps36
    go_wp2_with fail
    exact ⟨rfl, rfl, Below.refl _ _⟩
  have d1 : decide ((200 : Int) < (s.size : Int)) = false := decide_eq_false (by omega)
  have hs : s.size ≤ 200 := by omega
  have hc : cons (by' s) = match prt (by' s) 0 [] [] with | .bad lg p => .bad lg p | .ok p ns ps => fin (by' s) (prtsL (by' s) ((by' s).length + 1) p ns ps) := by
    unfold cons
    rw [if_neg (by rw [by_len]; exact h200)]
    rfl
  rw [hc]
  clear hc h200
  have hin : In2 (by' s) 0 [] [] (3 + 0) := ⟨⟨Nat.zero_le _, by rw [by_len]; simp; omega, by simp⟩, by simp, by simp⟩
  have hg := prt_good (by_lt s) hin (by simp)
  have HP := Lib.hid (part_any B s 0 0 [] [] nv pv w h hin hs)
  clear h hin
  cases hp : prt (by' s) 0 [] [] with
  | bad lg q =>
    rw [hp] at HP
    clear hp hg
    go_enter Tryd.func36, Tryd.ntmps36
    go_wp2_with fail
    refine HP.out.mono ?_
    rintro e w' ⟨rfl, hb⟩
    exact ⟨rfl, rfl, hb⟩
  | ok p1 ns1 ps1 =>
    rw [hp] at HP hg
    have HG := Lib.hid hg
    clear hp hg
    simp only
    obtain ⟨R, hRR⟩ : ∃ R, R = prtsL (by' s) ((by' s).length + 1) p1 ns1 ps1 := ⟨_, rfl⟩
    rw [← hRR]
    rw [by_len] at hRR
    have HIS := Lib.hid hRR.symm
    clear hRR
    have Ty := Lib.hid (fun w' p nv pv (c : Nat) (hR : Row w' B s p 0 nv pv) => take_yes B s p 0 nv pv c w' hR hs)
    have Tn := Lib.hid (fun w' p nv pv (c : Nat) (hR : Row w' B s p 0 nv pv) => take_no B s p 0 nv pv c w' hR)
    go_enter Tryd.func36, Tryd.ntmps36
    go_wp2_with fail
    refine HP.out.mono ?_
    rintro e w1 ⟨rfl, ⟨nv1, pv1, hR1⟩, hb1⟩
    have HR1 := Lib.hid hR1
    have HB1 := Lib.hid hb1
    clear hR1 hb1 HP c0 c1 c2 c3 c4
    go_wp2_with fail
    go_loopw [] (fun wr => ∃ f p ns ps nv pv, Hid (RdAt wr B s p 0 ns ps nv pv ∧ Below B w wr ∧ In2 (by' s) p ns ps (2 + 0) ∧ s.size < p + f ∧ prtsL (by' s) f p ns ps = R)) (fun wr => s.size + 1 - posOf wr B)
    case atStart => exact ⟨_, _, _, _, _, _, Lib.hid ⟨HR1.out, HB1.out, HG.out.2.1, by omega, HIS.out⟩⟩
    case round =>
      obtain ⟨f, p, ns, ps, nv, pv, HI⟩ := hrel
      have hle := HI.out.2.2.1.inn.sz
      have hfu := HI.out.2.2.2.1
      have hfew := HI.out.2.2.1.few
      obtain ⟨f, rfl⟩ : ∃ g, f = g + 1 := ⟨f - 1, by omega⟩
      by_cases h38 : pk (by' s) p = 38
      · have hlt := pk_lt (l := by' s) (p := p) (by omega)
        rw [by_len] at hlt
        by_cases h20 : ps.length = 20
        · have HX := Lib.hid (congrArg (fin (by' s)) ((prtsL20 (f := f) h38 h20).symm.trans HI.out.2.2.2.2))
          have g20 : ((ps.length : Int) == 20) = true := by rw [h20]; rfl
          have hwn : wrap64 (p : Int) = (p : Int) := wrap_nat p (by omega)
          go_wp2_with fail
          refine (Ty.out _ p nv pv 38 HI.out.1.row (by decide) h38).mono ?_
          rintro e w2 ⟨rfl, hR2, hb2⟩
          have HR2 := Lib.hid (HI.out.1.but hR2 hb2)
          have HB2 := Lib.hid (HI.out.2.1.trans (hb2.belowW HI.out.1.row))
          obtain ⟨pa, pc, hpv⟩ := own_slice HR2.out.op
          obtain ⟨d0, d1', d2, d3, d4⟩ := hR2.cells
          rw [hpv] at d4
          clear hR2 hb2 h20
          go_wp2_with fail
          refine ⟨rfl, PP.cast HX.out ⟨?_, HB2.out⟩⟩
          first | rfl | (rw [hwn]; rfl)
        · have g20 : ((ps.length : Int) == 20) = false := by rw [beq_eq_false_iff_ne]; omega
          have hin1 : In2 (by' s) (p + 1) ns ps (3 + 1) := ⟨HI.out.2.2.1.inn.more (by omega) (by rw [by_len]; omega) (by omega), hfew, HI.out.2.2.1.ok⟩
          have HP1 := Lib.hid (fun w' nv pv hR => part_any B s (p + 1) 1 ns ps nv pv w' hR hin1 hs)
          have hg := prt_good (by_lt s) hin1 (by omega)
          cases hp : prt (by' s) (p + 1) ns ps with
          | bad lg q =>
            rw [hp] at HP1
            have HX := Lib.hid (congrArg (fin (by' s)) ((prtsLb (f := f) h38 h20 hp).symm.trans HI.out.2.2.2.2))
            clear hp hg
            go_wp2_with fail
            refine (Ty.out _ p nv pv 38 HI.out.1.row (by decide) h38).mono ?_
            rintro e w2 ⟨rfl, hR2, hb2⟩
            have HR2 := Lib.hid (HI.out.1.but hR2 hb2)
            have HB2 := Lib.hid (HI.out.2.1.trans (hb2.belowW HI.out.1.row))
            obtain ⟨pa, pc, hpv⟩ := own_slice HR2.out.op
            obtain ⟨d0, d1', d2, d3, d4⟩ := hR2.cells
            rw [hpv] at d4
            have HPv := Lib.hid hpv
            clear hR2 hb2 h20 hpv
            go_wp2_with fail
            refine (HP1.out _ nv pv HR2.out).mono ?_
            rintro e w3 ⟨rfl, hb3⟩
            exact ⟨rfl, PP.cast HX.out ⟨rfl, HB2.out.trans hb3⟩⟩
          | ok q ns' ps' =>
            rw [hp] at HP1 hg
            have HG := Lib.hid hg
            have HE := Lib.hid ((prtsL1 (f := f) h38 h20 hp).symm.trans HI.out.2.2.2.2)
            clear hp hg
            go_wp2_with fail
            refine (Ty.out _ p nv pv 38 HI.out.1.row (by decide) h38).mono ?_
            rintro e w2 ⟨rfl, hR2, hb2⟩
            have HR2 := Lib.hid (HI.out.1.but hR2 hb2)
            have HB2 := Lib.hid (HI.out.2.1.trans (hb2.belowW HI.out.1.row))
            obtain ⟨pa, pc, hpv⟩ := own_slice HR2.out.op
            obtain ⟨d0, d1', d2, d3, d4⟩ := hR2.cells
            rw [hpv] at d4
            have HPv := Lib.hid hpv
            clear hR2 hb2 h20 hpv
            go_wp2_with fail
            refine (HP1.out _ nv pv HR2.out).mono ?_
            rintro e w3 ⟨rfl, ⟨nv3, pv3, hR3⟩, hb3⟩
            have HI3 : Hid (RdAt w3 B s q 0 ns' ps' nv3 pv3 ∧ Below B w w3 ∧ In2 (by' s) q ns' ps' (2 + 0) ∧ s.size < q + f ∧ prtsL (by' s) f q ns' ps' = R) :=
              Lib.hid ⟨hR3, HB2.out.trans hb3, ⟨HG.out.2.1.inn.more (Nat.le_refl _) HG.out.2.1.inn.le (by omega), HG.out.2.1.few, HG.out.2.1.ok⟩, by have := HG.out.1; omega, HE.out⟩
            clear hR3 hb3
            go_wp2_with fail
            go_round
            case rel => exact ⟨_, _, _, _, _, _, HI3⟩
            case measure =>
              rw [posOf_row HI3.out.1.row, posOf_row HI.out.1.row]
              have := HG.out.1
              have := HI3.out.2.2.1.inn.sz
              omega
      · have HX := Lib.hid (congrArg (fin (by' s)) ((prtsL0 (f := f) (ns := ns) (ps := ps) h38).symm.trans HI.out.2.2.2.2))
        by_cases hlt : p < s.size
        · have d2 : decide ((p : Int) < (s.size : Int)) = true := decide_eq_true (by omega)
          have d2' : decide (p < s.size) = true := decide_eq_true hlt
          have hF : fin (by' s) (.ok p ns ps) = .bad false p := if_pos (by rw [by_len]; exact hlt)
          have HX := Lib.hid (hF.symm.trans HX.out)
          clear hF
          go_wp2_with fail
          refine (Tn.out _ p nv pv 38 HI.out.1.row hle h38).mono ?_
          rintro e w2 ⟨rfl, hR2, hb2⟩
          have HB2 := Lib.hid (HI.out.2.1.trans (hb2.belowW HI.out.1.row))
          obtain ⟨e0, e1, e2, e3, e4⟩ := hR2.cells
          have HR2 := Lib.hid hR2
          clear hb2 hR2
          go_wp2_with fail
          go_quiet (fail)
          go_wp2_with fail
          exact ⟨rfl, PP.cast HX.out ⟨rfl, below_drewN HB2.out _⟩⟩
        · have d2 : decide ((p : Int) < (s.size : Int)) = false := decide_eq_false (by omega)
          have d2' : decide (p < s.size) = false := decide_eq_false hlt
          have hF : fin (by' s) (.ok p ns ps) = if 63 < plOf ns ps then .bad true p else .ok p ns ps := if_neg (by rw [by_len]; exact hlt)
          have HPl := Lib.hid (fun w' nv pv (hR : RdAt w' B s p 0 ns ps nv pv) => places_any nv pv ns ps w' (own_nodes hR.on (by have := HI.out.2.2.1.inn.fit; omega) HI.out.2.2.1.inn.ok) (own_parts hR.op (by omega) HI.out.2.2.1.ok))
          by_cases h63 : 63 < plOf ns ps
          · rw [if_pos h63] at hF
            have HX := Lib.hid (hF.symm.trans HX.out)
            have d3 : decide ((63 : Int) < (plOf ns ps : Int)) = true := decide_eq_true (by omega)
            clear hF h63
            generalize plOf ns ps = pl at *
            go_wp2_with fail
            refine (Tn.out _ p nv pv 38 HI.out.1.row hle h38).mono ?_
            rintro e w2 ⟨rfl, hR2, hb2⟩
            have HB2 := Lib.hid (HI.out.2.1.trans (hb2.belowW HI.out.1.row))
            obtain ⟨e0, e1, e2, e3, e4⟩ := hR2.cells
            have HR2 := Lib.hid (HI.out.1.but hR2 hb2)
            clear hb2 hR2
            go_wp2_with fail
            go_quiet (fail)
            go_wp2_with (refine wpList_load_tree rfl _ rfl B 3 nv pv rfl e3 e4 ?_)
            refine (HPl.out _ nv pv (HR2.out.below (below_drewN (Below.refl _ _) _))).mono ?_
            rintro e w3 ⟨rfl, hb3⟩
            have HR3 := Lib.hid ((HR2.out.below (below_drewN (Below.refl _ _) _)).below hb3)
            obtain ⟨g0, g1, g2, g3, g4⟩ := HR3.out.row.cells
            have HB3 := Lib.hid ((below_drewN HB2.out _).trans (hb3.mono (by have := HR2.out.row.lt; show B ≤ w2.heap.size; omega)))
            clear hb3
            go_wp2_with fail
            exact ⟨rfl, PP.cast HX.out ⟨rfl, HB3.out⟩⟩
          · rw [if_neg h63] at hF
            have HX := Lib.hid (hF.symm.trans HX.out)
            have d3 : decide ((63 : Int) < (plOf ns ps : Int)) = false := decide_eq_false (by omega)
            clear hF h63
            generalize plOf ns ps = pl at *
            go_wp2_with fail
            refine (Tn.out _ p nv pv 38 HI.out.1.row hle h38).mono ?_
            rintro e w2 ⟨rfl, hR2, hb2⟩
            have HB2 := Lib.hid (HI.out.2.1.trans (hb2.belowW HI.out.1.row))
            obtain ⟨e0, e1, e2, e3, e4⟩ := hR2.cells
            have HR2 := Lib.hid (HI.out.1.but hR2 hb2)
            clear hb2 hR2
            go_wp2_with fail
            go_quiet (fail)
            go_wp2_with (refine wpList_load_tree rfl _ rfl B 3 nv pv rfl e3 e4 ?_)
            refine (HPl.out _ nv pv (HR2.out.below (below_drewN (Below.refl _ _) _))).mono ?_
            rintro e w3 ⟨rfl, hb3⟩
            have HR3 := Lib.hid ((HR2.out.below (below_drewN (Below.refl _ _) _)).below hb3)
            have HB3 := Lib.hid ((below_drewN HB2.out _).trans (hb3.mono (by have := HR2.out.row.lt; show B ≤ w2.heap.size; omega)))
            clear hb3
            go_wp2_with fail
            go_end0
            exact PP.cast HX.out ⟨rfl, ⟨_, _, HR3.out⟩, HB3.out⟩
end Go.Proofs.YtcgllipcnmlkbaaDoor
