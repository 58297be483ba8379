/- The document's Word, walked. -/
import Derived.Test.YtmjjkamndlefmaaDoorPqS8
namespace Go.Proofs.YtmjjkamndlefmaaDoor
open Go.RowKit Sets Nf Df Cls
namespace Sk
/-- Of each state a text, and whether it is reached. -/
structure DpO (w1 : World) (ga gi n : Nat) (A : Nat → ByteArray) (I : Nat → Bool) (W : World) : Prop where
  at' : W.rowIs ga 9 n (fun k => .string (A k))
  is : W.rowIs gi 4 n (fun k => .bool (I k))
  la : w1.heap.size ≤ ga
  li : w1.heap.size ≤ gi
  bel : Below w1.heap.size w1 W
section
variable {w1 W W' : World} {ga gi gn gt n : Nat} {A N : Nat → ByteArray} {I Th : Nat → Bool}
theorem DpO.sz (h : DpO w1 ga gi n A I W) : w1.heap.size ≤ W.heap.size := h.bel.size
theorem DpO.stay (h : DpO w1 ga gi n A I W) (hb : Below W.heap.size W W') : DpO w1 ga gi n A I W' :=
  ⟨World.rowIs.of_block h.at' (hb.block _ (World.rowIs.lt h.at')), World.rowIs.of_block h.is (hb.block _ (World.rowIs.lt h.is)), h.la, h.li, h.bel.trans (hb.mono h.sz)⟩
/-- The next ones beside them. -/
structure DpI (w1 : World) (ga gi gn gt n : Nat) (A : Nat → ByteArray) (I : Nat → Bool) (N : Nat → ByteArray) (Th : Nat → Bool) (W : World) : Prop where
  o : DpO w1 ga gi n A I W
  nx : W.rowIs gn 9 n (fun k => .string (N k))
  th : W.rowIs gt 4 n (fun k => .bool (Th k))
  na : gn ≠ ga
  ti : gt ≠ gi
  ln : w1.heap.size ≤ gn
  lt : w1.heap.size ≤ gt
theorem DpI.stay (h : DpI w1 ga gi gn gt n A I N Th W) (hb : Below W.heap.size W W') : DpI w1 ga gi gn gt n A I N Th W' :=
  ⟨h.o.stay hb, World.rowIs.of_block h.nx (hb.block _ (World.rowIs.lt h.nx)), World.rowIs.of_block h.th (hb.block _ (World.rowIs.lt h.th)), h.na, h.ti, h.ln, h.lt⟩
theorem DpI.next (h : DpI w1 ga gi gn gt n A I N Th W) : DpO w1 gn gt n N Th W := ⟨h.nx, h.th, h.ln, h.lt, h.o.bel⟩
theorem DpI.setN (h : DpI w1 ga gi gn gt n A I N Th W) (k : Nat) (t : ByteArray) : DpI w1 ga gi gn gt n A I (fun j => if j = k then t else N j) Th (W.setCell ⟨gn, k, none⟩ (.string t)) := by
  obtain ⟨c1, h1⟩ := row_type h.nx
  obtain ⟨c2, h2⟩ := row_type h.o.is
  obtain ⟨c3, h3⟩ := row_type h.th
  have hset : ∀ q, q ≠ gn → (W.setCell ⟨gn, k, none⟩ (.string t)).heap[q]? = W.heap[q]? := fun q hq => Below.heap_setCell W ⟨gn, k, none⟩ _ q hq
  exact ⟨⟨World.rowIs.of_block h.o.at' (hset _ h.na.symm), World.rowIs.of_block h.o.is (hset _ (type_ne h2 h1 (by decide))), h.o.la, h.o.li, h.o.bel.setCell h.ln _⟩,
    (World.rowIs.set h.nx k (.string t)).congr (fun i _ => by by_cases e : i = k <;> simp [e]), World.rowIs.of_block h.th (hset _ (type_ne h3 h1 (by decide))), h.na, h.ti, h.ln, h.lt⟩
theorem DpI.setT (h : DpI w1 ga gi gn gt n A I N Th W) (k : Nat) (t : Bool) : DpI w1 ga gi gn gt n A I N (fun j => if j = k then t else Th j) (W.setCell ⟨gt, k, none⟩ (.bool t)) := by
  obtain ⟨c1, h1⟩ := row_type h.th
  obtain ⟨c2, h2⟩ := row_type h.o.at'
  obtain ⟨c3, h3⟩ := row_type h.nx
  have hset : ∀ q, q ≠ gt → (W.setCell ⟨gt, k, none⟩ (.bool t)).heap[q]? = W.heap[q]? := fun q hq => Below.heap_setCell W ⟨gt, k, none⟩ _ q hq
  exact ⟨⟨World.rowIs.of_block h.o.at' (hset _ (type_ne h2 h1 (by decide))), World.rowIs.of_block h.o.is (hset _ h.ti.symm), h.o.la, h.o.li, h.o.bel.setCell h.lt _⟩,
    World.rowIs.of_block h.nx (hset _ (type_ne h3 h1 (by decide))), (World.rowIs.set h.th k (.bool t)).congr (fun i _ => by by_cases e : i = k <;> simp [e]), h.na, h.ti, h.ln, h.lt⟩
theorem DpO.setI (h : DpO w1 ga gi n A I W) (k : Nat) (t : Bool) : DpO w1 ga gi n A (fun j => if j = k then t else I j) (W.setCell ⟨gi, k, none⟩ (.bool t)) := by
  obtain ⟨c1, h1⟩ := row_type h.is
  obtain ⟨c2, h2⟩ := row_type h.at'
  have hset : ∀ q, q ≠ gi → (W.setCell ⟨gi, k, none⟩ (.bool t)).heap[q]? = W.heap[q]? := fun q hq => Below.heap_setCell W ⟨gi, k, none⟩ _ q hq
  exact ⟨World.rowIs.of_block h.at' (hset _ (type_ne h2 h1 (by decide))), (World.rowIs.set h.is k (.bool t)).congr (fun i _ => by by_cases e : i = k <;> simp [e]), h.la, h.li, h.bel.setCell h.li _⟩
theorem DpO.start (w1 : World) (n : Nat) : DpO w1 w1.heap.size (w1.heap.size + 1) n (fun _ => ⟨#[]⟩) (fun _ => false) ((w1.alloc (.cells (madeCells #[.string ⟨#[]⟩] n) 9)).alloc (.cells (madeCells #[.bool false] n) 4)) := by
  have h1 := (Below.refl w1.heap.size w1).alloc (Nat.le_refl _) (.cells (madeCells #[.string ⟨#[]⟩] n) 9)
  have hs : (w1.alloc (.cells (madeCells #[.string ⟨#[]⟩] n) 9)).heap.size = w1.heap.size + 1 := by simp
  have h2 := h1.alloc (by rw [hs]; omega) (.cells (madeCells #[.bool false] n) 4)
  have hr1 := World.rowIs_made w1 (.string ⟨#[]⟩) n 9
  have hr2 := World.rowIs_made (w1.alloc (.cells (madeCells #[.string ⟨#[]⟩] n) 9)) (.bool false) n 4
  rw [hs] at hr2
  exact ⟨World.rowIs.alloc hr1 _, hr2, Nat.le_refl _, by omega, h2⟩
theorem DpO.made (h : DpO w1 ga gi n A I W) : DpI w1 ga gi W.heap.size (W.heap.size + 1) n A I (fun _ => ⟨#[]⟩) (fun _ => false) ((W.alloc (.cells (madeCells #[.string ⟨#[]⟩] n) 9)).alloc (.cells (madeCells #[.bool false] n) 4)) := by
  have h1 := (Below.refl W.heap.size W).alloc (Nat.le_refl _) (.cells (madeCells #[.string ⟨#[]⟩] n) 9)
  have hs : (W.alloc (.cells (madeCells #[.string ⟨#[]⟩] n) 9)).heap.size = W.heap.size + 1 := by simp
  have h2 := h1.alloc (by rw [hs]; omega) (.cells (madeCells #[.bool false] n) 4)
  have hr1 := World.rowIs_made W (.string ⟨#[]⟩) n 9
  have hr2 := World.rowIs_made (W.alloc (.cells (madeCells #[.string ⟨#[]⟩] n) 9)) (.bool false) n 4
  rw [hs] at hr2
  have la := World.rowIs.lt h.at'
  have li := World.rowIs.lt h.is
  exact ⟨h.stay h2, World.rowIs.alloc hr1 _, hr2, by omega, by omega, h.sz, by have := h.sz; omega⟩
end
set_option maxHeartbeats 25600000 in
set_option maxRecDepth 100000 in
theorem rword_any (x : Dx) (d : Dm) (nc : Nat) (va : Option Addr) (vc : Nat) (w : World) (h : DAt w x d) (hr : DRt d) (hn : d.n = (nc : Int)) (hL : BytesAt w (.slice va nc vc) (leads d.of nc)) (hR : d.R.length ≤ 1000) :
    Calls Tryd.prog 16 #[.agg (rvS va nc vc x d)] w fun e w' => (∃ s ok, e = .returned (.tuple #[.string s, .bool ok]) ∧ RWordIs d s ok) ∧ Below w.heap.size w w' := by
  have HM0 := Lib.hid h
  have HR := Lib.hid hr
  have HRN := Lib.hid hR
  have HL0 := Lib.hid hL
  have HDN := Lib.hid hn
  have HPR : Hid (prightB d.of (nc : Nat) = true) := Lib.hid (by rw [← hn]; exact hr.pr)
  have HLD := Lib.hid (pright_lead HPR.out)
  obtain ⟨i0, hi0, hz0⟩ := Option.map_eq_some_iff.1 infoStr
  obtain ⟨i1, hi1, hz1⟩ := Option.map_eq_some_iff.1 infoBool
  simp only [Prod.mk.injEq] at hz0 hz1
  have HI0 := Lib.hid hi0
  have HZ0 := Lib.hid hz0
  have HI1 := Lib.hid hi1
  have HZ1 := Lib.hid hz1
  clear h hr hn hL hR hi0 hz0 hi1 hz1
  go_enter Tryd.func16, Tryd.ntmps16
  go_upto_region 1 with fail
  have hal := (Below.refl w.heap.size w).alloc (Nat.le_refl _) (.cells (rvS va nc vc x d) 37)
  have HX0 := Lib.hid (heap_alloc_new w (.cells (rvS va nc vc x d) 37))
  have HB0 := Lib.hid hal
  obtain ⟨s, hs⟩ : ∃ s, Hid (w.heap.size = s) := ⟨_, Lib.hid rfl⟩
  have HML := Lib.hid (And.intro (HM0.out.kept hal) (HL0.out.kept hal))
  rw [hs.out] at HX0 HB0 ⊢
  clear hal HM0 HL0
  generalize w.alloc (.cells (rvS va nc vc x d) 37) = w1 at *
  have HSL : Hid (s ≤ w1.heap.size) := Lib.hid (Nat.le_of_lt (Array.getElem?_eq_some_iff.1 HX0.out).1)
  have HQ : Hid (∀ W, Below w1.heap.size w1 W → W.cell? ⟨s, 0, none⟩ = some (.slice va nc vc) ∧ W.cell? ⟨s, 1, none⟩ = some (.slice x.a d.R.length x.ac) ∧ W.cell? ⟨s, 2, none⟩ = some (.slice x.b d.F.length x.bc) ∧ DAt W x d ∧ BytesAt W (.slice va nc vc) (leads d.of nc) ∧ Below s w W) := Lib.hid (fun W hW => by
    have hrow := (hW.block s (Array.getElem?_eq_some_iff.1 HX0.out).1).trans HX0.out
    exact ⟨by rw [cell_of_row W s 0 _ _ _ hrow]; rfl, by rw [cell_of_row W s 1 _ _ _ hrow]; rfl, by rw [cell_of_row W s 2 _ _ _ hrow]; rfl, HML.out.1.kept hW, HML.out.2.kept hW, HB0.out.trans (hW.mono HSL.out)⟩)
  have c1 := (HQ.out _ (Below.refl _ _)).2.1
  go_upto_region 4 with (first
    | (refine wpList_make_row _ rfl (.tmp 19) (.tmp 19) 71 rfl 9 i0 (.string ⟨#[]⟩) Tryd.underlying71 HI0.out HZ0.out.1 HZ0.out.2.1 rfl .i64 .i64 d.R.length rfl rfl (by rw [HZ0.out.2.2]; have := HRN.out; omega) (by have := HRN.out; omega) ?_)
    | (refine wpList_make_row _ rfl (.tmp 21) (.tmp 21) 26 rfl 4 i1 (.bool false) Tryd.underlying26 HI1.out HZ1.out.1 HZ1.out.2.1 rfl .i64 .i64 d.R.length rfl rfl (by rw [HZ1.out.2.2]; have := HRN.out; omega) (by have := HRN.out; omega) ?_))
  have HO0 := Lib.hid (DpO.start w1 d.R.length)
  obtain ⟨g0, hg0⟩ : ∃ g0, Hid (w1.heap.size = g0) := ⟨_, Lib.hid rfl⟩
  have HO1 : Hid (DpO w1 g0 (g0 + 1) d.R.length (fun _ => ⟨#[]⟩) (fun _ => false) ((w1.alloc (.cells (madeCells #[.string ⟨#[]⟩] d.R.length) 9)).alloc (.cells (madeCells #[.bool false] d.R.length) 4))) := Lib.hid (by rw [← hg0.out]; exact HO0.out)
  rw [hg0.out]
  clear HO0 c1
  generalize (w1.alloc (.cells (madeCells #[.string ⟨#[]⟩] d.R.length) 9)).alloc (.cells (madeCells #[.bool false] d.R.length) 4) = w2 at *
  have hp0 : (0 : Int) < (d.R.length : Int) := by have := HR.out.pos; omega
  have hc0 := World.rowIs.cell HO1.out.is HR.out.pos
  have hf0 := World.rowIs.frozen HO1.out.is 0
  have HO2 := Lib.hid (HO1.out.setI 0 true)
  go_upto_region 6 with fail
  clear hp0 hc0 hf0 HO1
  generalize w2.setCell ⟨g0 + 1, 0, none⟩ (.bool true) = w3 at *
  clear w2
  go_loopw [5, 6, 7] (fun u v i wr => ∃ (sz ga gi : Nat) (A : Nat → ByteArray) (I : Nat → Bool), u = .slice (some ⟨ga, 0, none⟩) d.R.length d.R.length ∧ v = .slice (some ⟨gi, 0, none⟩) d.R.length d.R.length ∧ i = .int .i64 sz ∧ Hid (sz ≤ d.R.length + 1) ∧ Hid (DpO w1 ga gi d.R.length A I wr) ∧ Hid (DPs d sz A I) ∧ Hid (∀ u, byt u → u.length < sz → takesR d u = false) ∧ Hid (∀ q, I q = true → q < d.R.length)) (fun u v i _ => ((d.R.length : Int) + 1 - intOf i).toNat)
  case atStart => exact ⟨0, g0, g0 + 1, _, _, rfl, rfl, rfl, Lib.hid (Nat.zero_le _), HO2, Lib.hid (DPs.start d), Lib.hid (fun u _ hu => absurd hu (Nat.not_lt_zero _)), Lib.hid (fun q hq => by
    by_cases e : q = 0
    · rw [e]; exact HR.out.pos
    · simp [e] at hq)⟩
  case round =>
    clear HO2
    obtain ⟨sz, ga, gi, A, I, rfl, rfl, rfl, HSN, HO, HDP, HNO, HIN⟩ := hrel
    generalize hwr : wr = w4 at *
    clear hwr wr w3
    by_cases hlt : sz ≤ d.R.length
    · have hdd : decide ((sz : Int) ≤ (d.R.length : Int)) = true := decide_eq_true (by omega)
      have hd2 : decide (sz ≤ d.R.length) = true := decide_eq_true hlt
      have HSL2 := Lib.hid hlt
      clear hlt
      go_upto_region 10 with fail
      clear hdd hd2
      go_loopw [8, 9] (fun b i wr => ∃ (q : Nat) (bi : Int), b = .int .i64 bi ∧ i = .int .i64 q ∧ Hid (q ≤ d.R.length) ∧ Hid (DpO w1 ga gi d.R.length A I wr) ∧ Hid (BstI d A I q bi)) (fun b i _ => ((d.R.length : Int) - intOf i).toNat)
      case atStart => exact ⟨0, -1, rfl, rfl, Lib.hid (Nat.zero_le _), HO, Lib.hid (BstI.start d A I)⟩
      case round =>
        clear HO
        obtain ⟨q, bi, rfl, rfl, HQN, HO, HBI⟩ := hrel
        generalize hwr : wr = w5 at *
        clear hwr wr w4
        by_cases hlt : q < d.R.length
        · have hdd : decide ((q : Int) < (d.R.length : Int)) = true := decide_eq_true (by omega)
          have hd2 : decide (q < d.R.length) = true := decide_eq_true hlt
          have hqn : (q : Int) < (d.R.length : Int) := by omega
          have hqf : (q : Int) < (d.F.length : Int) := by rw [HR.out.fl]; omega
          have HJ := Lib.hid hlt
          have HW1 : Hid (wrap64 ((q : Int) + 1) = ((q + 1 : Nat) : Int)) := Lib.hid (nat_wrap (by have := HRN.out; omega))
          have HS1 := Lib.hid (meas9 hlt)
          obtain ⟨-, -, c2, hd5, -, -⟩ := HQ.out _ HO.out.bel
          obtain ⟨bb, oo, hxb, hcf⟩ := hd5.fl q (by rw [HR.out.fl]; exact hlt)
          rw [hxb] at c2
          have hci := World.rowIs.cell HO.out.is hlt
          have hca := World.rowIs.cell HO.out.at' hlt
          clear hlt hd5 hxb
          cases hI : I q with
          | false =>
            have HB2 := Lib.hid (HBI.out.skip (fun h => by have := h.1; rw [hI] at this; cases this))
            rw [hI] at hci
            clear hI
            go_wp2_with fail
            go_quiet (fail)
            go_wp2_with fail
            go_roundw
            case rel => exact ⟨q + 1, bi, rfl, by rw [HW1.out], Lib.hid HJ.out, Lib.hid (HO.out.stay (below_drewN (Below.refl _ _) _)), HB2⟩
            case measure => rw [HW1.out]; exact HS1.out
          | true =>
            have HIQ := Lib.hid hI
            rw [hI] at hci
            clear hI
            cases hF : d.F.getD q false with
            | false =>
              have HB2 := Lib.hid (HBI.out.skip (fun h => by have := h.2; rw [hF] at this; cases this))
              rw [hF] at hcf
              clear hF
              go_wp2_with fail
              go_quiet (fail)
              go_wp2_with fail
              go_roundw
              case rel => exact ⟨q + 1, bi, rfl, by rw [HW1.out], Lib.hid HJ.out, Lib.hid (HO.out.stay (below_drewN (Below.refl _ _) _)), HB2⟩
              case measure => rw [HW1.out]; exact HS1.out
            | true =>
              have HFQ := Lib.hid hF
              rw [hF] at hcf
              clear hF
              have hbi : bi = -1 ∨ ∃ p : Nat, bi = (p : Int) ∧ p < q := by
                rcases HBI.out with ⟨h1, -⟩ | ⟨p, h1, h2, -⟩
                · exact .inl h1
                · exact .inr ⟨p, h1, h2⟩
              rcases hbi with rfl | ⟨p, rfl, hpq⟩
              · have HB2 := Lib.hid (HBI.out.first HIQ.out HFQ.out)
                go_wp2_with fail
                go_quiet (fail)
                go_wp2_with fail
                go_roundw
                case rel => exact ⟨q + 1, q, rfl, by rw [HW1.out], Lib.hid HJ.out, Lib.hid (HO.out.stay (below_drewN (Below.refl _ _) _)), HB2⟩
                case measure => rw [HW1.out]; exact HS1.out
              · have hpn : (p : Int) < (d.R.length : Int) := by omega
                have hneg : decide ((p : Int) < 0) = false := decide_eq_false (by omega)
                have hcp := World.rowIs.cell HO.out.at' (show p < d.R.length by have := HJ.out; omega)
                have HSTR := Lib.hid (strLess (A q) (A p))
                cases hl : lx (Nf.bs (A q)) (Nf.bs (A p)) with
                | false =>
                  have HB2 := Lib.hid (HBI.out.stay hl)
                  have hst : Op.bytesLess (A q).toList (A p).toList = false := by rw [HSTR.out, hl]
                  clear hl hpq HSTR
                  go_wp2_with fail
                  go_quiet (fail)
                  go_wp2_with fail
                  go_roundw
                  case rel => exact ⟨q + 1, p, rfl, by rw [HW1.out], Lib.hid HJ.out, Lib.hid (HO.out.stay (below_drewN (Below.refl _ _) _)), HB2⟩
                  case measure => rw [HW1.out]; exact HS1.out
                | true =>
                  have HB2 := Lib.hid (HBI.out.take HIQ.out HFQ.out hl)
                  have hst : Op.bytesLess (A q).toList (A p).toList = true := by rw [HSTR.out, hl]
                  clear hl hpq HSTR
                  go_wp2_with fail
                  go_quiet (fail)
                  go_wp2_with fail
                  go_roundw
                  case rel => exact ⟨q + 1, q, rfl, by rw [HW1.out], Lib.hid HJ.out, Lib.hid (HO.out.stay (below_drewN (Below.refl _ _) _)), HB2⟩
                  case measure => rw [HW1.out]; exact HS1.out
        · have hdd : decide ((q : Int) < (d.R.length : Int)) = false := decide_eq_false (by omega)
          have hd2 : decide (q < d.R.length) = false := decide_eq_false hlt
          obtain rfl : q = d.R.length := by have := HQN.out; omega
          clear hlt
          have hbi : bi = -1 ∨ ∃ p : Nat, bi = (p : Int) ∧ p < d.R.length := by
            rcases HBI.out with ⟨h1, -⟩ | ⟨p, h1, h2, -⟩
            · exact .inl h1
            · exact .inr ⟨p, h1, h2⟩
          rcases hbi with rfl | ⟨p, rfl, hpq⟩
          · have HPS := Lib.hid (HDP.out.pass HR.out HBI.out HNO.out)
            clear HNO HBI
            go_upto_region 18 with (first
              | (refine wpList_make_row _ rfl (.tmp 68) (.tmp 68) 71 rfl 9 i0 (.string ⟨#[]⟩) Tryd.underlying71 HI0.out HZ0.out.1 HZ0.out.2.1 rfl .i64 .i64 d.R.length rfl rfl (by rw [HZ0.out.2.2]; have := HRN.out; omega) (by have := HRN.out; omega) ?_)
              | (refine wpList_make_row _ rfl (.tmp 70) (.tmp 70) 26 rfl 4 i1 (.bool false) Tryd.underlying26 HI1.out HZ1.out.1 HZ1.out.2.1 rfl .i64 .i64 d.R.length rfl rfl (by rw [HZ1.out.2.2]; have := HRN.out; omega) (by have := HRN.out; omega) ?_))
            have HI0' := Lib.hid HO.out.made
            obtain ⟨gn, hgn⟩ : ∃ gn, Hid (w5.heap.size = gn) := ⟨_, Lib.hid rfl⟩
            rw [hgn.out] at HI0' ⊢
            clear hgn HO
            generalize (w5.alloc (.cells (madeCells #[.string ⟨#[]⟩] d.R.length) 9)).alloc (.cells (madeCells #[.bool false] d.R.length) 4) = w6 at *
            clear w5
            go_upto_region 19 with fail
            clear hdd hd2 HQN
            go_loopw [12] (fun i wr => ∃ (q : Nat) (N : Nat → ByteArray) (Th : Nat → Bool), i = .int .i64 q ∧ Hid (q ≤ d.R.length) ∧ Hid (DpI w1 ga gi gn (gn + 1) d.R.length A I N Th wr) ∧ Hid (DPn d nc A I q 0 N Th) ∧ Hid (∀ t, Th t = true → t < d.R.length)) (fun i _ => ((d.R.length : Int) - intOf i).toNat)
            case atStart => exact ⟨0, _, _, rfl, Lib.hid (Nat.zero_le _), HI0', Lib.hid (DPn.start d nc A I _), Lib.hid (fun t h => by cases h)⟩
            case round =>
              clear HI0'
              obtain ⟨q, N, Th, rfl, HQN, HI, HDN2, HTN⟩ := hrel
              generalize hwr : wr = w7 at *
              clear hwr wr w6
              by_cases hlt : q < d.R.length
              · have hdd : decide ((q : Int) < (d.R.length : Int)) = true := decide_eq_true (by omega)
                have hd2 : decide (q < d.R.length) = true := decide_eq_true hlt
                have HJ := Lib.hid hlt
                have HW1 : Hid (wrap64 ((q : Int) + 1) = ((q + 1 : Nat) : Int)) := Lib.hid (nat_wrap (by have := HRN.out; omega))
                have HS1 := Lib.hid (meas9 hlt)
                clear hlt
                go_upto_region 22 with fail
                clear hdd hd2
                go_loopw [13] (fun i wr => ∃ (k : Nat) (N : Nat → ByteArray) (Th : Nat → Bool), i = .int .i64 k ∧ Hid (k ≤ nc) ∧ Hid (DpI w1 ga gi gn (gn + 1) d.R.length A I N Th wr) ∧ Hid (DPn d nc A I q k N Th) ∧ Hid (∀ t, Th t = true → t < d.R.length) ∧ Hid (I q = false → k = 0)) (fun i _ => ((nc : Int) - intOf i).toNat)
                case atStart => exact ⟨0, N, Th, rfl, Lib.hid (Nat.zero_le _), HI, HDN2, HTN, Lib.hid (fun _ => rfl)⟩
                case round =>
                  clear HI HDN2 HTN
                  obtain ⟨k, N, Th, rfl, HKN, HI, HDN2, HTN, HK0⟩ := hrel
                  generalize hwr : wr = w8 at *
                  clear hwr wr w7
                  obtain ⟨c0, c1, -, hd8, hl8, -⟩ := HQ.out _ HI.out.o.bel
                  have hln : (leads d.of nc).length = nc := leads_len _ _
                  have HLN : Hid (nc ≤ 256) := Lib.hid (by
                    obtain ⟨k', e1, e2, -⟩ := pright_is HPR.out
                    omega)
                  have hqn : (q : Int) < (d.R.length : Int) := by have := HJ.out; omega
                  have hci := World.rowIs.cell HI.out.o.is HJ.out
                  by_cases hlt : k < nc
                  · have hdd : decide ((k : Int) < (nc : Int)) = true := decide_eq_true (by omega)
                    have hd2 : decide (k < nc) = true := decide_eq_true hlt
                    have hkn : (k : Int) < (nc : Int) := by omega
                    have HK := Lib.hid hlt
                    cases hI : I q with
                    | false =>
                      have hk0 := HK0.out hI
                      subst hk0
                      have HD2 := Lib.hid (HDN2.out.skip hI)
                      rw [hI] at hci
                      clear hI hlt hd8 hl8
                      go_wp2_with fail
                      go_roundw
                      case rel => exact ⟨q + 1, N, Th, by rw [HW1.out], Lib.hid HJ.out, HI, HD2, HTN⟩
                      case measure => rw [HW1.out]; exact HS1.out
                    | true =>
                      have HIQ := Lib.hid hI
                      rw [hI] at hci
                      have hmem := getD_mem (l := d.R) (d := []) HJ.out
                      have hrow : (d.R.getD q []).length = nc := by have h9 := (HR.out.row _ hmem).1; rw [HDN.out] at h9; omega
                      obtain ⟨b2, o2, y, cy, hxa, hcr, hnr⟩ := hd8.nx q HJ.out
                      rw [hrow] at hcr
                      obtain ⟨b3, o3, hy, hcy⟩ := hnr k (by rw [hrow]; exact hlt)
                      obtain ⟨hb1, hb2⟩ := HLD.out.lt k hlt
                      obtain ⟨-, hgo, hgl⟩ := HR.out.of HJ.out hb1
                      rw [hb2] at hgo
                      rw [hgo] at hcy
                      rw [hxa] at c1
                      rw [hy] at hcr
                      obtain ⟨-, -, va', vc', hve, hvl⟩ := hl8
                      obtain ⟨b4, o4, hva, hcv⟩ := hvl k (by rw [hln]; exact hlt)
                      rw [leads_get _ _ _ hlt] at hcv
                      have hva2 : va = va' := by injection hve
                      rw [← hva2] at hva
                      rw [hva] at c0
                      obtain ⟨t, ht⟩ : ∃ t, Hid (goD d q (lead d.of k) = t) := ⟨_, Lib.hid rfl⟩
                      rw [ht.out] at hcy hgl
                      have HTT := Lib.hid hgl
                      have HLB := Lib.hid hb1
                      have HW2 : Hid (wrap64 ((k : Int) + 1) = ((k + 1 : Nat) : Int)) := Lib.hid (nat_wrap (by have := HLN.out; omega))
                      have HS2 := Lib.hid (meas9 hlt)
                      have hca := World.rowIs.cell HI.out.o.at' HJ.out
                      clear hI hlt hd8 hvl hve hva2 hmem hrow hxa hnr hy hb1 hb2 hgo hgl hva
                      go_upto_region 25 with fail
                      have HC0 := Lib.hid c0
                      have HCA := Lib.hid hca
                      have HCV := Lib.hid hcv
                      clear c0 c1 hci hcr hcy hca hcv hdd hd2
                      have HLX := Lib.hid (World.block_lt_of_cell? _ _ HC0.out)
                      have HLA := Lib.hid (World.block_lt_of_cell? _ _ HCA.out)
                      have HLV := Lib.hid (World.block_lt_of_cell? _ _ HCV.out)
                      refine region_mix [(false, 0), (false, 1), (false, 2), (false, 3), (false, 4), (false, 5), (false, 6), (false, 7), (false, 8), (true, 9), (true, 10), (true, 11)] (fun w' => Below w8.heap.size w8 w') (by kernel_rfl) (by kernel_rfl) ((Below.refl _ _).drew) ?_
                      simp only [planOps, List.map_cons, List.map_nil, List.getD_cons_zero, List.getD_cons_succ, List.length_cons, List.length_nil, List.drop_succ_cons, List.drop_zero]
                      refine mix_seg (seg := [_, _, _, _, _, _, _, _, _]) rfl ((Below.refl _ _).drew) ?_
                      intro ι hι FF hF
                      have f1 := fun n => ((hF n).cell (p := ⟨s, 0, none⟩) HLX.out).trans HC0.out
                      have f2 := fun n => ((hF n).cell (p := ⟨ga, q, none⟩) HLA.out).trans HCA.out
                      have f3 := fun n => ((hF n).cell (p := ⟨b4, o4 + k, none⟩) HLV.out).trans HCV.out
                      iterate 9 (go_big_quiet_step (fail))
                      refine wpQuiet_nil ?_
                      clear f1 f2 f3 hF hι FF
                      refine mix_eff (fun K hK => ?_)
                      go_wp2_with fail
                      have HB9 := Lib.hid (((Below.refl w8.heap.size w8).alloc (Nat.le_refl _) (.cells #[.int .u8 (lead d.of k)] 5)).drew)
                      have hcell : (w8.alloc (.cells #[.int .u8 (lead d.of k)] 5)).drew.cell? ⟨w8.heap.size, 0, none⟩ = some (.int .u8 (lead d.of k)) := by
                        show (w8.alloc (.cells #[.int .u8 (lead d.of k)] 5)).cell? _ = _
                        rw [World.cell?_alloc_new]; rfl
                      refine mix_on hK HB9.out ?_
                      clear hK K
                      have hcv := convert_b1 _ _ (lead d.of k) HLB.out hcell
                      have HAQ := Lib.hid ((HDP.out q HJ.out).2 HIQ.out)
                      have HSZ : Hid (¬ (9223372036854775807 < (A q).size + (b1 (lead d.of k)).size)) := Lib.hid (by
                        have h1 := HAQ.out.2.1
                        have h2 := HSL2.out
                        have h3 := HRN.out
                        show ¬ (9223372036854775807 < (A q).size + 1)
                        omega)
                      have hsz := HSZ.out
                      generalize (w8.alloc (.cells #[.int .u8 (lead d.of k)] 5)).drew = w9 at *
                      refine mix_eff (fun K hK => ?_)
                      go_wp2_with fail
                      refine mix_on hK HB9.out ?_
                      clear hK K
                      refine mix_eff (fun K hK => ?_)
                      go_wp2_with fail
                      refine mix_on hK HB9.out ?_
                      clear hK K
                      show wpList _ _ _ _ _ _
                      have HI9 := Lib.hid (HI.out.stay HB9.out)
                      have HSS : Hid (Nf.bs (A q ++ b1 (lead d.of k)) = Nf.bs (A q) ++ [lead d.of k]) := Lib.hid (by rw [bs_app, bs_b1 HLB.out])
                      clear hcell hcv hsz HSZ HC0 HCA HCV HLX HLA HLV HB9 HI
                      generalize A q ++ b1 (lead d.of k) = ss at *
                      go_wp2_with fail
                      refine NoPanic.normal ?_
                      have htn : (t : Int) < (d.R.length : Int) := by have := HTT.out; omega
                      have hct := World.rowIs.cell HI9.out.th HTT.out
                      have hft := World.rowIs.frozen HI9.out.th t
                      have hcn := World.rowIs.cell HI9.out.nx HTT.out
                      have hfn := World.rowIs.frozen HI9.out.nx t
                      have HSTR := Lib.hid (strLess ss (N t))
                      have HIA := Lib.hid (HI9.out.setN t ss)
                      have HIB := Lib.hid (HIA.out.setT t true)
                      have hctA := World.rowIs.cell HIA.out.th HTT.out
                      have HTN2 : Hid (∀ j, (if j = t then true else Th j) = true → j < d.R.length) := Lib.hid (fun j hj => by
                        by_cases e : j = t
                        · rw [e]; exact HTT.out
                        · rw [if_neg e] at hj; exact HTN.out j hj)
                      have HK1 : Hid (true = false → k + 1 = 0) := Lib.hid (fun h => by cases h)
                      cases hT : Th t with
                      | false =>
                        have HD2 := Lib.hid (HDN2.out.take HK.out HIQ.out ss HSS.out (fun h => by rw [ht.out, hT] at h; cases h))
                        rw [ht.out] at HD2
                        rw [hT] at hct
                        rw [hT] at hctA
                        clear hT
                        go_wp2_with fail
                        go_roundw
                        case rel => exact ⟨k + 1, _, _, by rw [HW2.out], Lib.hid HK.out, HIB, HD2, HTN2, HK1⟩
                        case measure => rw [HW2.out]; exact HS2.out
                      | true =>
                        rw [hT] at hct
                        rw [hT] at hctA
                        cases hl : lx (Nf.bs ss) (Nf.bs (N t)) with
                        | false =>
                          have hst : Op.bytesLess ss.toList (N t).toList = false := by rw [HSTR.out, hl]
                          have HD2 := Lib.hid (HDN2.out.keep HK.out (by rw [ht.out]; exact hT) (by
                            rw [ht.out, ← HSS.out]
                            have hlen := HDN2.out.size HDP.out HTT.out hT HIN.out
                            have hl2 : (Nf.bs ss).length = sz + 1 := by rw [HSS.out, List.length_append, Nf.bs_len, HAQ.out.2.1]; rfl
                            unfold Le ls
                            rw [hlen, hl2, if_pos rfl]
                            exact hl))
                          clear hT hl HSTR
                          go_wp2_with fail
                          go_roundw
                          case rel => exact ⟨k + 1, N, Th, by rw [HW2.out], Lib.hid HK.out, HI9, HD2, HTN, HK1⟩
                          case measure => rw [HW2.out]; exact HS2.out
                        | true =>
                          have hst : Op.bytesLess ss.toList (N t).toList = true := by rw [HSTR.out, hl]
                          have HD2 := Lib.hid (HDN2.out.take HK.out HIQ.out ss HSS.out (fun _ => by
                            rw [ht.out]
                            have hlen := HDN2.out.size HDP.out HTT.out hT HIN.out
                            have hl2 : (Nf.bs ss).length = sz + 1 := by rw [HSS.out, List.length_append, Nf.bs_len, HAQ.out.2.1]; rfl
                            refine .of ?_
                            unfold ls
                            rw [hlen, hl2, if_pos rfl]
                            exact hl))
                          rw [ht.out] at HD2
                          clear hT hl HSTR
                          go_wp2_with fail
                          go_roundw
                          case rel => exact ⟨k + 1, _, _, by rw [HW2.out], Lib.hid HK.out, HIB, HD2, HTN2, HK1⟩
                          case measure => rw [HW2.out]; exact HS2.out
                  · have hdd : decide ((k : Int) < (nc : Int)) = false := decide_eq_false (by omega)
                    have hd2 : decide (k < nc) = false := decide_eq_false hlt
                    obtain rfl : k = nc := by have := HKN.out; omega
                    have HD2 := Lib.hid HDN2.out.row
                    clear hlt hd8 hl8
                    go_wp2_with fail
                    go_roundw
                    case rel => exact ⟨q + 1, N, Th, by rw [HW1.out], Lib.hid HJ.out, HI, HD2, HTN⟩
                    case measure => rw [HW1.out]; exact HS1.out
              · have hdd : decide ((q : Int) < (d.R.length : Int)) = false := decide_eq_false (by omega)
                have hd2 : decide (q < d.R.length) = false := decide_eq_false hlt
                obtain rfl : q = d.R.length := by have := HQN.out; omega
                have HD2 := Lib.hid (HDN2.out.done HDP.out HR.out HLD.out HIN.out)
                have HO2 := Lib.hid HI.out.next
                have HW3 : Hid (wrap64 ((sz : Int) + 1) = ((sz + 1 : Nat) : Int)) := Lib.hid (nat_wrap (by have := HRN.out; have := HSL2.out; omega))
                have HS3 : Hid (((d.R.length : Int) + 1 - ((sz + 1 : Nat) : Int)).toNat < ((d.R.length : Int) + 1 - (sz : Int)).toNat) := Lib.hid (by have := HSL2.out; omega)
                clear hlt
                go_wp2_with fail
                go_roundw
                case rel => exact ⟨sz + 1, gn, gn + 1, N, Th, rfl, rfl, by rw [HW3.out], Lib.hid (by have := HSL2.out; omega), HO2, HD2, HPS, HTN⟩
                case measure => rw [HW3.out]; exact HS3.out
          · have hpn : (p : Int) < (d.R.length : Int) := by omega
            have hge : decide ((0 : Int) ≤ (p : Int)) = true := decide_eq_true (by omega)
            have hcp := World.rowIs.cell HO.out.at' hpq
            have HBS := Lib.hid (HDP.out.best HR.out HBI.out HNO.out)
            have HBE := Lib.hid ((HQ.out _ HO.out.bel).2.2.2.2.2)
            clear hpq
            go_wp2_with fail
            go_ret2
            exact ⟨⟨_, _, rfl, .inl ⟨rfl, HBS.out⟩⟩, by rw [hs.out]; exact HBE.out⟩
    · have hdd : decide ((sz : Int) ≤ (d.R.length : Int)) = false := decide_eq_false (by omega)
      have hd2 : decide (sz ≤ d.R.length) = false := decide_eq_false hlt
      have HRI : Hid (RWordIs d ⟨#[]⟩ false) := Lib.hid (.inr ⟨rfl, rfl, fun u hu hl => HNO.out u hu (by omega)⟩)
      have HBE := Lib.hid ((HQ.out _ HO.out.bel).2.2.2.2.2)
      clear hlt
      go_wp2_with fail
      go_ret2
      exact ⟨⟨_, _, rfl, HRI.out⟩, by rw [hs.out]; exact HBE.out⟩
end Sk
end Go.Proofs.YtmjjkamndlefmaaDoor
