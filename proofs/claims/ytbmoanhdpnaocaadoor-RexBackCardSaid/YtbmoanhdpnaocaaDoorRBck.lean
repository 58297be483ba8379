/- RexBack, walked. -/
import Derived.Test.YtbmoanhdpnaocaaDoorPkP
import Derived.Deep.Cut
namespace Go.Proofs.YtbmoanhdpnaocaaDoor
open Go.RowKit Sets Tr Rx
namespace Bk
theorem size_cut (s : ByteArray) (n : Nat) : (s.extract 0 n).size ≤ n := by rw [size_tx, tx_extract]; simp; omega
end Bk
open Bk
set_option maxHeartbeats 12800000 in
set_option maxRecDepth 100000 in
theorem rback_any (na pa : Option Addr) (nc pc : Nat) (N : List Nd) (R : List (Int × Bool)) (s : ByteArray) (w : World) (hU : Uns w na pa nc pc N R) (hT : Tab w) :
    Calls Tryd.prog 3 #[.agg #[.slice na N.length nc, .slice pa R.length pc], .string s] w fun e w' => e = .returned (.bool true) ∧ Below w.heap.size w w' := by
  have HT := Lib.hid hT
  have HAw := Lib.hid rawake_any
  have hg := fun w => great_any na pa N.length nc R.length pc w
  have hb0 := (Below.refl w.heap.size w).alloc (Nat.le_refl _) (.cells #[.slice na N.length nc, .slice pa R.length pc] 25)
  have HB0 := Lib.hid hb0
  have HS0 : Hid (w.heap.size < (w.alloc (.cells #[.slice na N.length nc, .slice pa R.length pc] 25)).heap.size) := Lib.hid (by simp)
  have HC0 : Hid ((w.alloc (.cells #[.slice na N.length nc, .slice pa R.length pc] 25)).cell? ⟨w.heap.size, 0, none⟩ = some (.slice na N.length nc)) := Lib.hid (by simp)
  have HC1 : Hid ((w.alloc (.cells #[.slice na N.length nc, .slice pa R.length pc] 25)).cell? ⟨w.heap.size, 1, none⟩ = some (.slice pa R.length pc)) := Lib.hid (by simp)
  clear hT hb0
  go_enter Tryd.func3, Tryd.ntmps3
  cases hgr : greatB N.length R.length
  case true =>
    rw [hgr] at hg
    have HG := Lib.hid hg
    clear hg hgr
    go_wp2_with fail
    refine (HG.out _).mono ?_
    rintro e w2 ⟨rfl, hB2⟩
    have HB2 := Lib.hid (HB0.out.trans (hB2.mono HB0.out.size))
    clear hB2
    go_wp2_with fail
    refine (HAw.out _).mono ?_
    rintro e w3 ⟨rfl, hB3⟩
    have HB3 := Lib.hid (HB2.out.trans (hB3.mono HB2.out.size))
    clear hB3
    go_wp2_with fail
    go_ret
    exact ⟨rfl, HB3.out⟩
  case false =>
    obtain ⟨hN, hP⟩ := hU hgr
    rw [hgr] at hg
    have HG := Lib.hid hg
    have HN := Lib.hid hN
    have HP := Lib.hid hP
    clear hg hgr hN hP hU
    go_wp2_with fail
    refine (HG.out _).mono ?_
    rintro e w2 ⟨rfl, hB2⟩
    have HB2 := Lib.hid (HB0.out.trans (hB2.mono HB0.out.size))
    have HX2 := Lib.hid (And.intro ((hB2.cell HS0.out).trans HC0.out) (And.intro ((hB2.cell HS0.out).trans HC1.out) (Nat.lt_of_lt_of_le HS0.out hB2.size)))
    clear hB2 HB0 HS0 HC0 HC1
    go_upto_if 22 with fail
    go_cut [1] from 17 (fun v wr => wr = w2 ∧ ∃ q : ByteArray, v = .string q ∧ q.size ≤ 300)
    case first =>
      by_cases hl : 300 < s.size
      · have hx := size_cut s 300
        have hd : decide ((300 : Int) < (s.size : Int)) = true := decide_eq_true (by omega)
        have hd' : decide (300 < s.size) = true := decide_eq_true (by omega)
        go_wp2_with fail
        go_meet
        case rel => exact ⟨rfl, _, rfl, hx⟩
      · have hd : decide ((300 : Int) < (s.size : Int)) = false := decide_eq_false (by omega)
        have hd' : decide (300 < s.size) = false := decide_eq_false (by omega)
        go_wp2_with fail
        go_meet
        case rel => exact ⟨rfl, _, rfl, by omega⟩
    case rest =>
      obtain ⟨rfl, s', rfl, hs⟩ := hcut
      clear s
      obtain ⟨x0, x1, -⟩ := HX2.out
      have HRt := Lib.hid (right_any _ _ N R wc (HN.out.kept HB2.out) (HP.out.kept HB2.out))
      go_upto_if 26 with (go_at_call 6; refine HRt.out.mono ?_; rintro e w3 ⟨rfl, hB3⟩; have HB3 := Lib.hid hB3; clear hB3)
      have HB3' := Lib.hid (HB2.out.trans (HB3.out.mono HB2.out.size))
      have HX3 := Lib.hid (And.intro ((HB3.out.cell HX2.out.2.2).trans HX2.out.1) (And.intro ((HB3.out.cell HX2.out.2.2).trans HX2.out.2.1) (Nat.lt_of_lt_of_le HX2.out.2.2 HB3.out.size)))
      clear x0 x1 HRt HX2 HB2 HB3
      go_cut [5, 6, 7, 8, 9] from 17 (fun _ _ _ _ _ wr => Hid (Below w.heap.size w wr))
      case first =>
        cases r1 : rightB N R
        case false =>
          clear r1
          go_wp2_with fail
          go_meet
          case rel => exact HB3'
        case true =>
          have hR := rightB_iff.1 r1
          have HR := Lib.hid hR
          have HF := Lib.hid (facts HN.out.1 hR)
          have HPr := Lib.hid (print_any _ _ N R w3 (HN.out.kept HB3'.out) (HP.out.kept HB3'.out) (HT.out.below HB3'.out (tab_lt HT.out)) (tab_lt (HT.out.below HB3'.out (tab_lt HT.out))))
          generalize strN (prOf N R) = z at *
          generalize dP (parts N R) = d at *
          obtain ⟨x0, x1, -⟩ := HX3.out
          clear r1 hR
          go_wp2_with fail
          refine HPr.out.mono ?_
          rintro e w4 ⟨rfl, hB4⟩
          have HB4 := Lib.hid (HB3'.out.trans (hB4.mono HB3'.out.size))
          have HX4 := Lib.hid (And.intro ((hB4.cell HX3.out.2.2).trans HX3.out.1) (And.intro ((hB4.cell HX3.out.2.2).trans HX3.out.2.1) (Nat.lt_of_lt_of_le HX3.out.2.2 hB4.size)))
          have HPa := Lib.hid (parse_any z w4)
          clear hB4 x0 x1 HPr HB3' HX3
          go_wp2_with fail
          refine HPa.out.mono ?_
          clear HPa
          intro e w5 hP
          unfold PO at hP
          by_cases hfit : z.size ≤ 200 ∧ plOf N R ≤ 63 ∧ d ≤ 16
          · obtain ⟨q, ns, ps, hc, hr, hp⟩ := HF.out.fit hfit.1 hfit.2.1 hfit.2.2
            obtain ⟨h1, h2, h3⟩ := hfit
            rw [hc] at hP
            obtain ⟨⟨nv, pv, rfl, hN5, hP5⟩, hB5⟩ := hP
            obtain ⟨na5, nc5, rfl⟩ : ∃ a c, nv = .slice a ns.length c := by obtain ⟨-, -, a, c, e, -⟩ := hN5; exact ⟨a, c, e⟩
            obtain ⟨pa5, pc5, rfl⟩ : ∃ a c, pv = .slice a ps.length c := by obtain ⟨-, -, a, c, e, -⟩ := hP5; exact ⟨a, c, e⟩
            have ha := (Below.refl w5.heap.size w5).alloc (Nat.le_refl _) (.cells #[.slice na5 ns.length nc5, .slice pa5 ps.length pc5] 25)
            have hC := hB5.trans (ha.mono hB5.size)
            have HB6 := Lib.hid (HB4.out.trans (hC.mono HB4.out.size))
            have HX6 := Lib.hid (And.intro ((hC.cell HX4.out.2.2).trans HX4.out.1) (And.intro ((hC.cell HX4.out.2.2).trans HX4.out.2.1) (Nat.lt_of_lt_of_le HX4.out.2.2 hC.size)))
            have HN6 := Lib.hid (hN5.kept ha)
            have HP6 := Lib.hid (hP5.kept ha)
            have HT6 := Lib.hid (heap_alloc_new w5 (.cells #[.slice na5 ns.length nc5, .slice pa5 ps.length pc5] 25))
            have HG6 : Hid (w5.heap.size < (w5.alloc (.cells #[.slice na5 ns.length nc5, .slice pa5 ps.length pc5] 25)).heap.size) := Lib.hid (by simp)
            have HSR := Lib.hid (World.setRow_alloc_new w5 #[.slice none 0 0, .slice none 0 0] #[.slice na5 ns.length nc5, .slice pa5 ps.length pc5] 25)
            have H0 := Lib.hid (heap_alloc_new w5 (.cells #[.slice none 0 0, .slice none 0 0] 25))
            have HPl := Lib.hid (fun w' (hB : Below w.heap.size w w') => places_any _ _ N R w' (HN.out.kept hB) (HP.out.kept hB))
            have HO := Lib.hid (fun w' => open_any z w' (by omega))
            have hop := HF.out.op
            rw [hop] at HO
            have HRr := Lib.hid hr
            have HPp := Lib.hid hp
            have d1 : decide ((z.size : Int) ≤ (200 : Int)) = true := decide_eq_true (by omega)
            have d1' : decide (z.size ≤ 200) = true := decide_eq_true h1
            have d2 : decide ((plOf N R : Int) ≤ (63 : Int)) = true := decide_eq_true (by omega)
            have d2' : decide (plOf N R ≤ 63) = true := decide_eq_true h2
            have d3 : decide ((d : Int) ≤ (16 : Int)) = true := decide_eq_true (by omega)
            have d3' : decide (d ≤ 16) = true := decide_eq_true h3
            clear hc hr hp hN5 hP5 hB5 ha hC HB4 HX4 hop
            generalize plOf N R = pl at *
            go_wp2_with (refine wpList_put_tree rfl _ _ rfl w5.heap.size _ _ _ _ _ _ rfl rfl (.slice none 0 0) (.slice none 0 0) H0.out ?_; rw [HSR.out]; generalize w5.alloc (.cells #[.slice na5 ns.length nc5, .slice pa5 ps.length pc5] 25) = w6 at *; obtain ⟨x0, x1, -⟩ := HX6.out)
            refine (HPl.out _ HB6.out).mono ?_
            rintro e w7 ⟨rfl, hB7⟩
            have HB7 := Lib.hid (HB6.out.trans (hB7.mono HB6.out.size))
            have HX7 := Lib.hid (And.intro ((hB7.cell HX6.out.2.2).trans HX6.out.1) (And.intro ((hB7.cell HX6.out.2.2).trans HX6.out.2.1) (Nat.lt_of_lt_of_le HX6.out.2.2 hB7.size)))
            have hrow := (hB7.block w5.heap.size HG6.out).trans HT6.out
            have y0 : w7.cell? ⟨w5.heap.size, 0, none⟩ = some (.slice na5 ns.length nc5) := by simp only [World.cell?, hrow]; rfl
            have y1 : w7.cell? ⟨w5.heap.size, 1, none⟩ = some (.slice pa5 ps.length pc5) := by simp only [World.cell?, hrow]; rfl
            have HAl := Lib.hid (ali_any na pa na5 pa5 nc pc nc5 pc5 N ns R ps w7 (HN.out.kept HB7.out) (HP.out.kept HB7.out) (HN6.out.kept hB7) (HP6.out.kept hB7) HR.out HRr.out HPp.out)
            clear x0 x1 hrow
            obtain ⟨x0, x1, -⟩ := HX7.out
            clear hB7 HB6 HX6 HN6 HP6 HT6 HG6
            go_wp2_with (first
              | (go_at_call 10; refine (HO.out _).mono ?_; rintro e w8 ⟨rfl, rfl⟩)
              | (go_at_call 11; refine HAl.out.mono ?_; rintro e w9 ⟨rfl, hB9⟩; have HB9 := Lib.hid (HB7.out.trans (hB9.mono HB7.out.size)); clear hB9))
            go_meet
            case rel => exact HB9
          · obtain ⟨q, hc⟩ := HF.out.not hfit
            rw [hc] at hP
            obtain ⟨rfl, hB5⟩ := hP
            have hC := hB5.trans (((Below.refl w5.heap.size w5).alloc (Nat.le_refl _) (.cells #[.slice none 0 0, .slice none 0 0] 25)).mono hB5.size)
            have HB6 := Lib.hid (HB4.out.trans (hC.mono HB4.out.size))
            have HX6 := Lib.hid (And.intro ((hC.cell HX4.out.2.2).trans HX4.out.1) (And.intro ((hC.cell HX4.out.2.2).trans HX4.out.2.1) (Nat.lt_of_lt_of_le HX4.out.2.2 hC.size)))
            obtain ⟨x0, x1, -⟩ := HX6.out
            have HPl := Lib.hid (fun w' (hB : Below w.heap.size w w') => places_any _ _ N R w' (HN.out.kept hB) (HP.out.kept hB))
            have HO := Lib.hid (fun w' (hz : z.size ≤ 200) => open_any z w' (by omega))
            have hop := HF.out.op
            have HOp := Lib.hid hop
            clear hc hB5 hC HB4 HX4 hop
            by_cases h1 : z.size ≤ 200
            · have d1 : decide ((z.size : Int) ≤ (200 : Int)) = true := decide_eq_true (by omega)
              have d1' : decide (z.size ≤ 200) = true := decide_eq_true h1
              by_cases h2 : plOf N R ≤ 63
              · have d2 : decide ((plOf N R : Int) ≤ (63 : Int)) = true := decide_eq_true (by omega)
                have d2' : decide (plOf N R ≤ 63) = true := decide_eq_true h2
                have d3 : decide ((d : Int) ≤ (16 : Int)) = false := decide_eq_false (by omega)
                have d3' : decide (d ≤ 16) = false := decide_eq_false (by omega)
                clear hfit
                have hO2 := HO.out
                rw [HOp.out] at hO2
                have HO2 := Lib.hid (fun w' => hO2 w' h1)
                clear hO2 h1 h2
                generalize plOf N R = pl at *
                go_wp2_with (first
                  | (go_at_call 9; refine (HPl.out _ HB6.out).mono ?_; rintro e w7 ⟨rfl, hB7⟩; have HB7 := Lib.hid (HB6.out.trans (hB7.mono HB6.out.size)); clear hB7)
                  | (go_at_call 10; refine (HO2.out _).mono ?_; rintro e w8 ⟨rfl, rfl⟩))
                go_meet
                case rel => exact HB7
              · have d2 : decide ((plOf N R : Int) ≤ (63 : Int)) = false := decide_eq_false (by omega)
                have d2' : decide (plOf N R ≤ 63) = false := decide_eq_false h2
                clear hfit h2
                generalize plOf N R = pl at *
                go_wp2_with (first
                  | (go_at_call 9; refine (HPl.out _ HB6.out).mono ?_; rintro e w7 ⟨rfl, hB7⟩; have HB7 := Lib.hid (HB6.out.trans (hB7.mono HB6.out.size)); clear hB7))
                go_meet
                case rel => exact HB7
            · have d1 : decide ((z.size : Int) ≤ (200 : Int)) = false := decide_eq_false (by omega)
              have d1' : decide (z.size ≤ 200) = false := decide_eq_false h1
              clear hfit h1
              go_wp2_with fail
              go_meet
              case rel => exact HB6
      case rest =>
        have HB := hcut
        clear hcut HX3 HB3' HN HP HG w3
        have HPa := Lib.hid (parse_any s' wc)
        go_wp2_with fail
        refine HPa.out.mono ?_
        clear HPa
        intro e w5 hP
        unfold PO at hP
        cases hc : cons (by' s') with
        | bad lg q =>
          rw [hc] at hP
          obtain ⟨rfl, hB5⟩ := hP
          have HB6 := Lib.hid (HB.out.trans ((hB5.trans (((Below.refl w5.heap.size w5).alloc (Nat.le_refl _) (.cells #[.slice none 0 0, .slice none 0 0] 25)).mono hB5.size)).mono HB.out.size))
          clear hc hB5 HB
          cases lg
          all_goals
            go_wp2_with (go_at_call 5; refine (HAw.out _).mono ?_; rintro e w8 ⟨rfl, hB8⟩; have HB8 := Lib.hid (HB6.out.trans (hB8.mono HB6.out.size)); clear hB8)
            go_ret
            exact ⟨rfl, HB8.out⟩
        | ok q ns ps =>
          rw [hc] at hP
          obtain ⟨⟨nv, pv, rfl, hN5, hP5⟩, hB5⟩ := hP
          have hgood := cons_good (by_lt s') hc
          have hr := cons_right (by_lt s') hc
          obtain ⟨na5, nc5, rfl⟩ : ∃ a c, nv = .slice a ns.length c := by obtain ⟨-, -, a, c, e, -⟩ := hN5; exact ⟨a, c, e⟩
          obtain ⟨pa5, pc5, rfl⟩ : ∃ a c, pv = .slice a ps.length c := by obtain ⟨-, -, a, c, e, -⟩ := hP5; exact ⟨a, c, e⟩
          have ha := (Below.refl w5.heap.size w5).alloc (Nat.le_refl _) (.cells #[.slice na5 ns.length nc5, .slice pa5 ps.length pc5] 25)
          have hC := hB5.trans (ha.mono hB5.size)
          have HB6 := Lib.hid (HB.out.trans (hC.mono HB.out.size))
          have HN6 := Lib.hid (hN5.kept ha)
          have HP6 := Lib.hid (hP5.kept ha)
          have hT6 := heap_alloc_new w5 (.cells #[.slice na5 ns.length nc5, .slice pa5 ps.length pc5] 25)
          have HX6 : Hid ((w5.alloc (.cells #[.slice na5 ns.length nc5, .slice pa5 ps.length pc5] 25)).cell? ⟨w5.heap.size, 0, none⟩ = some (.slice na5 ns.length nc5) ∧ (w5.alloc (.cells #[.slice na5 ns.length nc5, .slice pa5 ps.length pc5] 25)).cell? ⟨w5.heap.size, 1, none⟩ = some (.slice pa5 ps.length pc5) ∧ w5.heap.size < (w5.alloc (.cells #[.slice na5 ns.length nc5, .slice pa5 ps.length pc5] 25)).heap.size) :=
            Lib.hid ⟨by simp only [World.cell?, hT6]; rfl, by simp only [World.cell?, hT6]; rfl, by simp⟩
          have HSR := Lib.hid (World.setRow_alloc_new w5 #[.slice none 0 0, .slice none 0 0] #[.slice na5 ns.length nc5, .slice pa5 ps.length pc5] 25)
          have H0 := Lib.hid (heap_alloc_new w5 (.cells #[.slice none 0 0, .slice none 0 0] 25))
          have HF := Lib.hid (facts hN5.1 hr)
          have HR := Lib.hid hr
          have hpl := hgood.2.2.2.2.2
          have HPl6 := Lib.hid hpl
          clear hc hgood hr hN5 hP5 hB5 ha hC hT6 HB hpl
          have HPr := Lib.hid (fun w' (hB : Below w.heap.size w w') hN hP => print_any (.slice na5 ns.length nc5) (.slice pa5 ps.length pc5) ns ps w' hN hP (HT.out.below hB (tab_lt HT.out)) (tab_lt (HT.out.below hB (tab_lt HT.out))))
          have HRt := Lib.hid (fun w' hN hP => by have := right_any (.slice na5 ns.length nc5) (.slice pa5 ps.length pc5) ns ps w' hN hP; rw [rightB_true HR.out] at this; exact this)
          have HPl := Lib.hid (fun w' hN hP => places_any (.slice na5 ns.length nc5) (.slice pa5 ps.length pc5) ns ps w' hN hP)
          generalize strN (prOf ns ps) = z at *
          generalize dP (parts ns ps) = d at *
          have d2 : decide ((63 : Int) < (plOf ns ps : Int)) = false := decide_eq_false (by have := HPl6.out; omega)
          have d2' : decide (63 < plOf ns ps) = false := decide_eq_false (by have := HPl6.out; omega)
          have HF1 := Lib.hid (fun (h1 : z.size ≤ 200) (h3 : d ≤ 16) => HF.out.fit h1 HPl6.out h3)
          have HF2 := Lib.hid (fun (h : ¬ (z.size ≤ 200 ∧ d ≤ 16)) => HF.out.not (fun hh => h ⟨hh.1, hh.2.2⟩))
          have hop := HF.out.op
          have HO := Lib.hid (fun w' (hz : z.size ≤ 200) => by have := open_any z w' (by omega); rw [hop] at this; exact this)
          clear hop HF HPl6
          generalize plOf ns ps = pl at *
          go_wp2_with (refine wpList_put_tree rfl _ _ rfl w5.heap.size _ _ _ _ _ _ rfl rfl (.slice none 0 0) (.slice none 0 0) H0.out ?_; rw [HSR.out]; generalize w5.alloc (.cells #[.slice na5 ns.length nc5, .slice pa5 ps.length pc5] 25) = w6 at *; obtain ⟨y0, y1, -⟩ := HX6.out)
          refine (HPr.out _ HB6.out HN6.out HP6.out).mono ?_
          rintro e w7 ⟨rfl, hB7⟩
          have HB7 := Lib.hid (HB6.out.trans (hB7.mono HB6.out.size))
          have HN7 := Lib.hid (HN6.out.kept hB7)
          have HP7 := Lib.hid (HP6.out.kept hB7)
          have HX7 := Lib.hid (And.intro ((hB7.cell HX6.out.2.2).trans HX6.out.1) (And.intro ((hB7.cell HX6.out.2.2).trans HX6.out.2.1) (Nat.lt_of_lt_of_le HX6.out.2.2 hB7.size)))
          clear hB7 HB6 HN6 HP6 HX6 y0 y1 HSR H0
          obtain ⟨y0, y1, -⟩ := HX7.out
          go_wp2_with fail
          refine (HRt.out _ HN7.out HP7.out).mono ?_
          rintro e w8 ⟨rfl, hB8⟩
          have HB8 := Lib.hid (HB7.out.trans (hB8.mono HB7.out.size))
          have HN8 := Lib.hid (HN7.out.kept hB8)
          have HP8 := Lib.hid (HP7.out.kept hB8)
          have HX8 := Lib.hid (And.intro ((hB8.cell HX7.out.2.2).trans HX7.out.1) (And.intro ((hB8.cell HX7.out.2.2).trans HX7.out.2.1) (Nat.lt_of_lt_of_le HX7.out.2.2 hB8.size)))
          clear hB8 HB7 HN7 HP7 HX7 y0 y1
          obtain ⟨y0, y1, -⟩ := HX8.out
          go_wp2_with fail
          refine (HPl.out _ HN8.out HP8.out).mono ?_
          rintro e w9 ⟨rfl, hB9⟩
          have HB9 := Lib.hid (HB8.out.trans (hB9.mono HB8.out.size))
          have HN9 := Lib.hid (HN8.out.kept hB9)
          have HP9 := Lib.hid (HP8.out.kept hB9)
          have HX9 := Lib.hid (And.intro ((hB9.cell HX8.out.2.2).trans HX8.out.1) (And.intro ((hB9.cell HX8.out.2.2).trans HX8.out.2.1) (Nat.lt_of_lt_of_le HX8.out.2.2 hB9.size)))
          clear hB9 HB8 HN8 HP8 HX8 y0 y1
          go_wp2_with fail
          refine (parse_any z w9).mono ?_
          intro e wa hP
          unfold PO at hP
          by_cases hfit : z.size ≤ 200 ∧ d ≤ 16
          · obtain ⟨q2, ns2, ps2, hc, hr, hp⟩ := HF1.out hfit.1 hfit.2
            obtain ⟨h1, h3⟩ := hfit
            rw [hc] at hP
            obtain ⟨⟨nv, pv, rfl, hNa, hPa⟩, hBa⟩ := hP
            obtain ⟨naA, ncA, rfl⟩ : ∃ a c, nv = .slice a ns2.length c := by obtain ⟨-, -, a, c, e, -⟩ := hNa; exact ⟨a, c, e⟩
            obtain ⟨paA, pcA, rfl⟩ : ∃ a c, pv = .slice a ps2.length c := by obtain ⟨-, -, a, c, e, -⟩ := hPa; exact ⟨a, c, e⟩
            have ha := (Below.refl wa.heap.size wa).alloc (Nat.le_refl _) (.cells #[.slice naA ns2.length ncA, .slice paA ps2.length pcA] 25)
            have hC := hBa.trans (ha.mono hBa.size)
            have HBb := Lib.hid (HB9.out.trans (hC.mono HB9.out.size))
            have hTb := heap_alloc_new wa (.cells #[.slice naA ns2.length ncA, .slice paA ps2.length pcA] 25)
            have HXb := Lib.hid (And.intro ((hC.cell HX9.out.2.2).trans HX9.out.1) ((hC.cell HX9.out.2.2).trans HX9.out.2.1))
            have HXc : Hid ((wa.alloc (.cells #[.slice naA ns2.length ncA, .slice paA ps2.length pcA] 25)).cell? ⟨wa.heap.size, 0, none⟩ = some (.slice naA ns2.length ncA) ∧ (wa.alloc (.cells #[.slice naA ns2.length ncA, .slice paA ps2.length pcA] 25)).cell? ⟨wa.heap.size, 1, none⟩ = some (.slice paA ps2.length pcA)) :=
              Lib.hid ⟨by simp only [World.cell?, hTb]; rfl, by simp only [World.cell?, hTb]; rfl⟩
            have HAl := Lib.hid (ali_any na5 pa5 naA paA nc5 pc5 ncA pcA ns ns2 ps ps2 _ (HN9.out.kept hC) (HP9.out.kept hC) (hNa.kept ha) (hPa.kept ha) HR.out hr hp)
            have HSR := Lib.hid (World.setRow_alloc_new wa #[.slice none 0 0, .slice none 0 0] #[.slice naA ns2.length ncA, .slice paA ps2.length pcA] 25)
            have H0 := Lib.hid (heap_alloc_new wa (.cells #[.slice none 0 0, .slice none 0 0] 25))
            have d1 : decide ((200 : Int) < (z.size : Int)) = false := decide_eq_false (by omega)
            have d1' : decide (200 < z.size) = false := decide_eq_false (by omega)
            have d3 : decide ((16 : Int) < (d : Int)) = false := decide_eq_false (by omega)
            have d3' : decide (16 < d) = false := decide_eq_false (by omega)
            have HO2 := Lib.hid (fun w' => HO.out w' h1)
            clear hc hr hp hNa hPa hBa ha hC hTb HB9 HN9 HP9 HX9 h1 h3
            go_wp2_with (first
              | (refine wpList_put_tree rfl _ _ rfl wa.heap.size _ _ _ _ _ _ rfl rfl (.slice none 0 0) (.slice none 0 0) H0.out ?_; rw [HSR.out]; generalize wa.alloc (.cells #[.slice naA ns2.length ncA, .slice paA ps2.length pcA] 25) = wb at *; obtain ⟨y0, y1⟩ := HXb.out; obtain ⟨z0, z1⟩ := HXc.out)
              | (go_at_call 10; refine (HO2.out _).mono ?_; rintro e w8 ⟨rfl, rfl⟩)
              | (go_at_call 11; refine HAl.out.mono ?_; rintro e wc2 ⟨rfl, hBc⟩; have HBc := Lib.hid (HBb.out.trans (hBc.mono HBb.out.size)); clear hBc)
              | (go_at_call 5; refine (HAw.out _).mono ?_; rintro e wd ⟨rfl, hBd⟩; have HBd := Lib.hid (HBc.out.trans (hBd.mono HBc.out.size)); clear hBd))
            go_ret
            exact ⟨rfl, HBd.out⟩
          · obtain ⟨q2, hc⟩ := HF2.out hfit
            rw [hc] at hP
            obtain ⟨rfl, hBa⟩ := hP
            have HBb := Lib.hid (HB9.out.trans ((hBa.trans (((Below.refl wa.heap.size wa).alloc (Nat.le_refl _) (.cells #[.slice none 0 0, .slice none 0 0] 25)).mono hBa.size)).mono HB9.out.size))
            clear hc hBa HB9 HN9 HP9 HX9
            by_cases h1 : z.size ≤ 200
            · have d1 : decide ((200 : Int) < (z.size : Int)) = false := decide_eq_false (by omega)
              have d1' : decide (200 < z.size) = false := decide_eq_false (by omega)
              have d3 : decide ((16 : Int) < (d : Int)) = true := decide_eq_true (by omega)
              have d3' : decide (16 < d) = true := decide_eq_true (by omega)
              have HO2 := Lib.hid (fun w' => HO.out w' h1)
              clear h1 hfit
              go_wp2_with (first
                | (go_at_call 10; refine (HO2.out _).mono ?_; rintro e w8 ⟨rfl, rfl⟩)
                | (go_at_call 5; refine (HAw.out _).mono ?_; rintro e wd ⟨rfl, hBd⟩; have HBd := Lib.hid (HBb.out.trans (hBd.mono HBb.out.size)); clear hBd))
              go_ret
              exact ⟨rfl, HBd.out⟩
            · have d1 : decide ((200 : Int) < (z.size : Int)) = true := decide_eq_true (by omega)
              have d1' : decide (200 < z.size) = true := decide_eq_true (by omega)
              clear h1 hfit
              go_wp2_with (go_at_call 5; refine (HAw.out _).mono ?_; rintro e wd ⟨rfl, hBd⟩; have HBd := Lib.hid (HBb.out.trans (hBd.mono HBb.out.size)); clear hBd)
              go_ret
              exact ⟨rfl, HBd.out⟩
end Go.Proofs.YtbmoanhdpnaocaaDoor
