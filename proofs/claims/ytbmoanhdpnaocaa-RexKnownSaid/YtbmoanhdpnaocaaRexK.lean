/- part. -/
import Derived.Test.YtbmoanhdpnaocaaRexJ
import Derived.Test.YtbmoanhdpnaocaaRexN
namespace Go.Proofs.Ytbmoanhdpnaocaa
open Go.RowKit Sets Tr Rx
/-- one part, just laid, is appended -/
theorem wpList_append_part {ops : Array Oper} {rest : List Oper} {o : Oper} {a : Act} {w : World} {Q : Exit → Act → World → Prop} (hgd : o.guard = none) (s y : Operand)
    (ho : o.op = .call { callee := .builtin .append, args := #[s, y], argTypes := #[25, 25] }) (B : Nat) (v : Value) (N : List (Int × Bool)) (x : Int × Bool) (hs : a.eval s = v)
    (g : Nat) (hc : w.rangeAt g 0 (pt2 x)) (hown : OwnP B w v N) (hx : a.eval y = .slice (some ⟨g, 0, none⟩) 1 1) (hN : N.length ≤ 1000) (hbase : B + 1 ≤ w.heap.size)
    (h : ∀ v' w', OwnP B w' v' (N ++ [x]) → w.grownBy w' v.ownBlock → wpList Try.prog ops Q rest (a.put o.dst v') w') :
    wpList Try.prog ops Q (o :: rest) a w := by
  obtain ⟨i0, hi, hz0, hz1, hz2⟩ := info_parts infoPart
  refine wpList_append_own_at _ hgd s y 25 ho (B + 1) 47 i0 _ 2 16 Try.underlying25 hi hz0 hz1 hz2 rfl (by decide) v _ _ hs hown ⟨g, 0, none⟩ 1 1 (pt2 x) hx rfl ?_ ?_ ?_ ?_ hbase ?_
  · intro j u hj
    rw [Addr.add_lit]
    exact hc j u hj
  · have := pts_ones [x]
    simpa [pts] using this
  · unfold maxLen; omega
  · omega
  · intro v' w' h1 h2 _ h4
    refine h v' w' ?_ h2
    unfold OwnP
    rw [pts_append, List.length_append]
    simpa [pts] using h1
def PP (B : Nat) (s : ByteArray) (w : World) (r : P) (e : Ending) (w' : World) : Prop :=
  match r with
  | .ok p ns ps => e = .returned (.tuple #[]) ∧ (∃ nv pv, RdAt w' B s p 0 ns ps nv pv) ∧ Below B w w'
  | .bad lg p => e = .panicked [{ v := pnc lg p, recovered := false }] ∧ Below B w w'
theorem PP.cast {B : Nat} {s : ByteArray} {w : World} {r r' : P} {e : Ending} {w' : World} (h : r' = r) (k : PP B s w r' e w') : PP B s w r e w' := h ▸ k
theorem part_range (w : World) (n : Int) (b : Bool) (t : TypeId) : (w.alloc (.cells #[.int .i64 n, .bool b] t)).rangeAt w.heap.size 0 (pt2 (n, b)) := by
  intro j v hv
  rw [Nat.zero_add, World.cell?_alloc_new, List.getElem?_toArray]
  exact hv
set_option maxHeartbeats 1600000 in
theorem part_any (B : Nat) (s : ByteArray) (p c : Nat) (ns : List Nd) (ps : List (Int × Bool)) (nv pv : Value) (w : World) (h : RdAt w B s p 0 ns ps nv pv) (hin : In2 (by' s) p ns ps (3 + c)) (hs : s.size ≤ 200) :
    Calls Try.prog 15 #[.pointer (some ⟨B, 0, none⟩)] w (PP B s w (prt (by' s) p ns ps)) := by
  have hle := hin.inn.sz
  have hB := h.row.lt
  have hfew := hin.few
  have Ty := Lib.hid (fun w' p nv pv (c : Nat) (hR : Row w' B s p 0 nv pv) => take_yes B s p 0 nv pv c w' hR hs)
  have Tn := Lib.hid (fun w' p nv pv (c : Nat) (hR : Row w' B s p 0 nv pv) => take_no B s p 0 nv pv c w' hR)
  have hno := nots_ok (l := by' s) ((by' s).length + 1) false p hin.inn.le (by omega)
  have HPat := Lib.hid (fun w' q nv (hR : RdAt w' B s q 0 ns ps nv pv) hq => (all_con (fl (by' s))).1 B s 0 q c ns ps nv pv w' hR hq hs (by omega) (by unfold fl; rw [by_len]; simp only [Md.c]; omega))
  unfold prt
  obtain ⟨R, hRR⟩ : ∃ R, R = nots (by' s) ((by' s).length + 1) false p := ⟨_, rfl⟩
  rw [← hRR] at hno ⊢
  have HIS := Lib.hid hRR.symm
  have HIn := Lib.hid hin
  have hF : s.size < p + (s.size + 1) := by omega
  have HF := Lib.hid hF
  rw [by_len] at HIS
  clear hRR hF hin
  have H := Lib.hid h
  clear h
  go_enter Try.func15, Try.ntmps15
  go_wp2_with fail
  go_loopw [2] (fun v wr => ∃ f b q, v = .bool b ∧ Hid (RdAt wr B s q 0 ns ps nv pv ∧ Below B w wr ∧ q ≤ s.size ∧ s.size < q + f ∧ nots (by' s) f b q = R)) (fun _ wr => s.size + 1 - posOf wr B)
  case atStart => exact ⟨_, _, _, rfl, Lib.hid ⟨H.out, Below.refl _ _, hle, HF.out, HIS.out⟩⟩
  case round =>
    obtain ⟨f, b, q, rfl, HI⟩ := hrel
    have hleq := HI.out.2.2.1
    have hfu := HI.out.2.2.2.1
    obtain ⟨f, rfl⟩ : ∃ g, f = g + 1 := ⟨f - 1, by omega⟩
    by_cases h33 : pk (by' s) q = 33
    · have hlt := pk_lt (l := by' s) (p := q) (by omega)
      rw [by_len] at hlt
      have hE : nots (by' s) f (!b) (q + 1) = R := by
        have := HI.out.2.2.2.2
        rw [nots, if_pos h33] at this
        exact this
      have HE := Lib.hid hE
      clear hE
      go_wp2_with fail
      refine (Ty.out _ q nv pv 33 HI.out.1.row (by decide) h33).mono ?_
      rintro e w1 ⟨rfl, hR1, hb1⟩
      have HI2 : Hid (RdAt w1 B s (q + 1) 0 ns ps nv pv ∧ Below B w w1 ∧ q + 1 ≤ s.size ∧ s.size < q + 1 + f ∧ nots (by' s) f (!b) (q + 1) = R) :=
        Lib.hid ⟨HI.out.1.but hR1 hb1, HI.out.2.1.trans (hb1.belowW HI.out.1.row), by omega, by omega, HE.out⟩
      clear hR1 hb1
      go_wp2_with fail
      go_round
      case rel => exact ⟨_, _, _, rfl, HI2⟩
      case measure =>
        rw [posOf_row HI2.out.1.row, posOf_row HI.out.1.row]
        omega
    · have hE : (b, q) = R := by
        have := HI.out.2.2.2.2
        rw [nots, if_neg h33] at this
        exact this
      have HE := Lib.hid hE
      have hq2 : q = R.2 := by rw [← hE]
      have hb2 : b = R.1 := by rw [← hE]
      clear hE
      have hin1 : In (by' s) q ns (Md.pat.g + c) := HIn.out.inn.more (by omega) (by rw [by_len]; omega) (by simp only [Md.g]; omega)
      have HP1 := Lib.hid (fun w' hR => HPat.out w' q nv hR hin1)
      have hg := go_good (by_lt s) (fl (by' s)) .pat 0 q ns c hin1 trivial
      clear hq2 hb2
      cases hr : go (by' s) (fl (by' s)) .pat 0 q ns with
      | bad lg q1 =>
        rw [hr] at HP1
        have HX : Hid (P.bad lg q1 = prtE (by' s) ns ps R.1 R.2) := Lib.hid (by rw [← HE.out]; simp only [prtE]; rw [hr])
        clear hr hg
        go_wp2_with fail
        refine (Tn.out _ q nv pv 33 HI.out.1.row hleq h33).mono ?_
        rintro e w1 ⟨rfl, hR1, hb1⟩
        have HR1 := Lib.hid (HI.out.1.but hR1 hb1)
        have HB1 := Lib.hid (HI.out.2.1.trans (hb1.belowW HI.out.1.row))
        clear hR1 hb1
        go_wp2_with fail
        refine (HP1.out _ HR1.out).mono ?_
        rintro e w2 ⟨rfl, hb2⟩
        exact ⟨rfl, PP.cast HX.out ⟨rfl, HB1.out.trans hb2⟩⟩
      | ok n q1 ns1 =>
        rw [hr] at HP1
        have HX : Hid (P.ok q1 ns1 (ps ++ [((n : Int), b)]) = prtE (by' s) ns ps R.1 R.2) := Lib.hid (by rw [← HE.out]; simp only [prtE]; rw [hr])
        clear hr hg
        go_wp2_with fail
        refine (Tn.out _ q nv pv 33 HI.out.1.row hleq h33).mono ?_
        rintro e w1 ⟨rfl, hR1, hb1⟩
        have HR1 := Lib.hid (HI.out.1.but hR1 hb1)
        have HB1 := Lib.hid (HI.out.2.1.trans (hb1.belowW HI.out.1.row))
        clear hR1 hb1
        go_wp2_with fail
        refine (HP1.out _ HR1.out).mono ?_
        rintro e w2 ⟨rfl, ⟨nv2, hR2⟩, hb2⟩
        have HR2 := Lib.hid hR2
        have HB2 := Lib.hid (HB1.out.trans hb2)
        obtain ⟨c0, c1, c2, c3, c4⟩ := HR2.out.row.cells
        obtain ⟨pa, pc, hpv⟩ := own_slice HR2.out.op
        have HOP := Lib.hid HR2.out.op
        have hal := (Below.refl w2.heap.size w2).alloc (Nat.le_refl _) (.cells #[.int .i64 (n : Int), .bool b] 47)
        have HR3 := Lib.hid (HR2.out.below hal)
        have HB3 := Lib.hid (HB2.out.trans (hal.mono (by have := HR2.out.row.lt; omega)))
        have HC3 := Lib.hid (part_range w2 (n : Int) b 47)
        have hsz3 : Hid ((w2.alloc (.cells #[.int .i64 (n : Int), .bool b] 47)).heap.size = w2.heap.size + 1) := Lib.hid (by simp)
        clear hR2 hb2 hal
        subst hpv
        go_wp2_with (refine wpList_append_part rfl _ _ rfl B _ ps ((n : Int), b) rfl w2.heap.size HC3.out HR3.out.op rfl (by omega) HR3.out.row.lt ?_; intro v4 w4 hO4 hG4; obtain ⟨a4, k4, rfl⟩ := own_slice hO4; have HO4 := Lib.hid hO4; have HG4 : Hid (World.grownBy _ w4 (Value.slice pa ps.length pc).ownBlock) := Lib.hid hG4; have HRow4 := Lib.hid (HR3.out.row.kept (HG4.out.block B HR3.out.row.lt (fun e => by have := (HR3.out.op.lt B e.symm).1; omega))); obtain ⟨d0, d1, d2, d3, d4⟩ := HRow4.out.cells; have f4 := HRow4.out.frozen 4; clear hO4 hG4)
        refine bodyPost_ret (results_none rfl _ _ _) rfl (PP.cast HX.out ⟨rfl, ⟨nv2, Value.slice a4 (ps ++ [((n : Int), b)]).length k4, ?_, ?_, ?_⟩, ?_⟩)
        · have := HRow4.out
          unfold Row at *
          simp [World.setCell, Array.getElem?_modify, this]
        · refine own_kept HR3.out.on (fun g hg => ?_)
          rw [Below.heap_setCell _ _ _ _ (by have := (HR3.out.on.lt g hg).1; simp only; omega)]
          exact HG4.out.block g (HR3.out.on.lt g hg).2 (fun e => HR3.out.apart g hg e.symm)
        · exact own_kept HO4.out (fun g hg => Below.heap_setCell _ _ _ _ (by have := (HO4.out.lt g hg).1; simp only; omega))
        · refine ⟨HG4.out.os.trans HB3.out.os, HG4.out.tape.trans HB3.out.tape, HG4.out.output.trans HB3.out.output, by simpa using Nat.le_trans HB3.out.size HG4.out.size, fun k hk => ?_⟩
          rw [Below.heap_setCell _ _ _ _ (by simp only; omega)]
          rw [HG4.out.block k (by have := HR3.out.row.lt; omega) (fun e => by have := (HR3.out.op.lt k e.symm).1; omega)]
          exact HB3.out.block k hk
end Go.Proofs.Ytbmoanhdpnaocaa
