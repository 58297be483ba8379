/- Several texts in one. -/
import Derived.Test.YtcgllipcnmlkbaaDoorPkK
import Derived.Test.YtcgllipcnmlkbaaDoorPkE
import Derived.Test.YtcgllipcnmlkbaaDoorPkI
namespace Go.Proofs.YtcgllipcnmlkbaaDoor
open Go.RowKit Sets Tr Rx
set_option maxHeartbeats 1600000 in
theorem atom_any (f : Nat) (HP : Con f .pat 62) : Con (f + 1) .ato 70 := by
  intro B s o p c ns ps nv pv w h hin hs ho hf
  have hle := hin.sz
  have hlen := hin.len
  have H := Lib.hid h
  have Ty := Lib.hid (fun w' nv (c : Nat) (hR : Row w' B s p o nv pv) => take_yes B s p o nv pv c w' hR hs)
  have Tn := Lib.hid (fun w' nv (c : Nat) (hR : Row w' B s p o nv pv) => take_no B s p o nv pv c w' hR hle)
  have hB := h.row.lt
  clear h
  by_cases h40 : pk (by' s) p = 40
  · rw [go_ato40 h40]
    have hlt := pk_lt (l := by' s) (p := p) (by omega)
    rw [by_len] at hlt
    have HG := Lib.hid (fun w' nv (hR : RdAt w' B s (p + 1) o ns ps nv pv) => group_any f HP B s o p c ns ps nv pv w' hR (hin.more (by omega) (by rw [by_len]; omega) (by simp only [Md.g]; omega)) hs ho (by simp only [Md.c] at *; omega))
    change Calls _ _ _ _ (GP B s o ps pv w (grp (by' s) f o p ns))
    generalize grp (by' s) f o p ns = r at *
    clear HP
    go_enter Tryd.func70, Tryd.ntmps70
    go_wp2_with fail
    refine (Ty.out _ nv 40 H.out.row (by decide) h40).mono ?_
    rintro e w1 ⟨rfl, hR1, hb1⟩
    have HR1 := Lib.hid (H.out.but hR1 hb1)
    have HB1 := Lib.hid (hb1.belowW H.out.row)
    clear hR1 hb1
    go_wp2_with fail
    refine (HG.out _ nv HR1.out).mono ?_
    intro e w2 hL
    cases r with
    | bad lg q =>
      obtain ⟨rfl, hb⟩ := hL
      exact ⟨rfl, rfl, HB1.out.trans hb⟩
    | ok n q ns' =>
      obtain ⟨rfl, hR, hb⟩ := hL
      have HR := Lib.hid hR
      clear hR
      go_wp2_with fail
      go_ret
      exact ⟨rfl, HR.out, HB1.out.trans hb⟩
  clear HP
  by_cases h91 : pk (by' s) p = 91
  · rw [go_ato91 h40 h91]
    have hlt := pk_lt (l := by' s) (p := p) (by omega)
    rw [by_len] at hlt
    have HC := Lib.hid (fun w' nv (hR : Row w' B s (p + 1) o nv pv) => class_any B s (p + 1) o nv pv w' hR (by omega) hs)
    cases hc : cls (by' s) (p + 1) with
    | bad q =>
      rw [hc] at HC
      clear hc
      go_enter Tryd.func70, Tryd.ntmps70
      go_wp2_with fail
      refine (Tn.out _ nv 40 H.out.row h40).mono ?_
      rintro e w1 ⟨rfl, hR1, hb1⟩
      have HR1 := Lib.hid (H.out.but hR1 hb1)
      have HB1 := Lib.hid (hb1.belowW H.out.row)
      clear hR1 hb1
      go_wp2_with fail
      refine (Ty.out _ nv 91 HR1.out.row (by decide) h91).mono ?_
      rintro e w2 ⟨rfl, hR2, hb2⟩
      have HR2 := Lib.hid (HR1.out.but hR2 hb2)
      have HB2 := Lib.hid (HB1.out.trans (hb2.belowW HR1.out.row))
      clear hR2 hb2
      go_wp2_with fail
      refine (HC.out _ nv HR2.out.row).mono ?_
      rintro e w3 ⟨rfl, hb3⟩
      exact ⟨rfl, rfl, HB2.out.trans (hb3.belowW HR2.out.row)⟩
    | ok S q =>
      rw [hc] at HC
      clear hc
      go_enter Tryd.func70, Tryd.ntmps70
      go_wp2_with fail
      refine (Tn.out _ nv 40 H.out.row h40).mono ?_
      rintro e w1 ⟨rfl, hR1, hb1⟩
      have HR1 := Lib.hid (H.out.but hR1 hb1)
      have HB1 := Lib.hid (hb1.belowW H.out.row)
      clear hR1 hb1
      go_wp2_with fail
      refine (Ty.out _ nv 91 HR1.out.row (by decide) h91).mono ?_
      rintro e w2 ⟨rfl, hR2, hb2⟩
      have HR2 := Lib.hid (HR1.out.but hR2 hb2)
      have HB2 := Lib.hid (HB1.out.trans (hb2.belowW HR1.out.row))
      clear hR2 hb2
      go_wp2_with fail
      refine (HC.out _ nv HR2.out.row).mono ?_
      rintro e w3 ⟨rfl, hR3, hb3⟩
      have HR3 := Lib.hid (HR2.out.but hR3 hb3)
      have HB3 := Lib.hid (HB2.out.trans (hb3.belowW HR2.out.row))
      clear hR3 hb3
      unfold setV
      go_wp2_with fail
      refine (addSetR_any B s q o ns ps nv pv S _ HR3.out hlen).mono ?_
      rintro e w4 ⟨rfl, hR4, hb4⟩
      have HR4 := Lib.hid hR4
      clear hR4
      go_wp2_with fail
      go_ret
      exact ⟨rfl, HR4.out, HB3.out.trans hb4⟩
  by_cases h46 : pk (by' s) p = 46
  · rw [go_ato46 h40 h91 h46]
    go_enter Tryd.func70, Tryd.ntmps70
    go_wp2_with fail
    refine (Tn.out _ nv 40 H.out.row h40).mono ?_
    rintro e w1 ⟨rfl, hR1, hb1⟩
    have HR1 := Lib.hid (H.out.but hR1 hb1)
    have HB1 := Lib.hid (hb1.belowW H.out.row)
    clear hR1 hb1
    go_wp2_with fail
    refine (Tn.out _ nv 91 HR1.out.row h91).mono ?_
    rintro e w2 ⟨rfl, hR2, hb2⟩
    have HR2 := Lib.hid (HR1.out.but hR2 hb2)
    have HB2 := Lib.hid (HB1.out.trans (hb2.belowW HR1.out.row))
    clear hR2 hb2
    go_wp2_with fail
    refine (Ty.out _ nv 46 HR2.out.row (by decide) h46).mono ?_
    rintro e w3 ⟨rfl, hR3, hb3⟩
    have HR3 := Lib.hid (HR2.out.but hR3 hb3)
    have HB3 := Lib.hid (HB2.out.trans (hb3.belowW HR2.out.row))
    clear hR3 hb3
    go_wp2_with fail
    refine (all_any _).mono ?_
    rintro e w4 ⟨rfl, hb4⟩
    have HR4 := Lib.hid (HR3.out.below hb4)
    have HB4 := Lib.hid (HB3.out.trans (hb4.mono (by have := HR3.out.row.lt; omega)))
    clear hb4
    go_wp2_with fail
    refine (addSetR_any B s (p + 1) o ns ps nv pv full _ HR4.out hlen).mono ?_
    rintro e w5 ⟨rfl, hR5, hb5⟩
    have HR5 := Lib.hid hR5
    clear hR5
    go_wp2_with fail
    go_ret
    exact ⟨rfl, HR5.out, HB4.out.trans hb5⟩
  · rw [go_atoS h40 h91 h46]
    have HC := Lib.hid (fun w' nv (hR : Row w' B s p o nv pv) => single_any B s p o nv pv sMarks marks w' hR hle hs hasMarks (fun _ => marks_lt))
    cases hc : single (by' s) marks p with
    | bad q =>
      rw [hc] at HC
      clear hc
      unfold sMarks at HC
      go_enter Tryd.func70, Tryd.ntmps70
      go_wp2_with fail
      refine (Tn.out _ nv 40 H.out.row h40).mono ?_
      rintro e w1 ⟨rfl, hR1, hb1⟩
      have HR1 := Lib.hid (H.out.but hR1 hb1)
      have HB1 := Lib.hid (hb1.belowW H.out.row)
      clear hR1 hb1
      go_wp2_with fail
      refine (Tn.out _ nv 91 HR1.out.row h91).mono ?_
      rintro e w2 ⟨rfl, hR2, hb2⟩
      have HR2 := Lib.hid (HR1.out.but hR2 hb2)
      have HB2 := Lib.hid (HB1.out.trans (hb2.belowW HR1.out.row))
      clear hR2 hb2
      go_wp2_with fail
      refine (Tn.out _ nv 46 HR2.out.row h46).mono ?_
      rintro e w3 ⟨rfl, hR3, hb3⟩
      have HR3 := Lib.hid (HR2.out.but hR3 hb3)
      have HB3 := Lib.hid (HB2.out.trans (hb3.belowW HR2.out.row))
      clear hR3 hb3
      go_wp2_with fail
      refine (HC.out _ nv HR3.out.row).mono ?_
      rintro e w4 ⟨rfl, hb4⟩
      exact ⟨rfl, rfl, HB3.out.trans (hb4.belowW HR3.out.row)⟩
    | ok a q =>
      rw [hc] at HC
      have ha := (single_ok (fun _ => marks_lt) (by_lt s) hc).1
      clear hc
      unfold sMarks at HC
      go_enter Tryd.func70, Tryd.ntmps70
      go_wp2_with fail
      refine (Tn.out _ nv 40 H.out.row h40).mono ?_
      rintro e w1 ⟨rfl, hR1, hb1⟩
      have HR1 := Lib.hid (H.out.but hR1 hb1)
      have HB1 := Lib.hid (hb1.belowW H.out.row)
      clear hR1 hb1
      go_wp2_with fail
      refine (Tn.out _ nv 91 HR1.out.row h91).mono ?_
      rintro e w2 ⟨rfl, hR2, hb2⟩
      have HR2 := Lib.hid (HR1.out.but hR2 hb2)
      have HB2 := Lib.hid (HB1.out.trans (hb2.belowW HR1.out.row))
      clear hR2 hb2
      go_wp2_with fail
      refine (Tn.out _ nv 46 HR2.out.row h46).mono ?_
      rintro e w3 ⟨rfl, hR3, hb3⟩
      have HR3 := Lib.hid (HR2.out.but hR3 hb3)
      have HB3 := Lib.hid (HB2.out.trans (hb3.belowW HR2.out.row))
      clear hR3 hb3
      go_wp2_with fail
      refine (HC.out _ nv HR3.out.row).mono ?_
      rintro e w4 ⟨rfl, hR4, hb4⟩
      have hal := (Below.refl w4.heap.size w4).alloc (Nat.le_refl _) (.cells #[.int .u8 (a : Int)] 5)
      have HR4 := Lib.hid ((HR3.out.but hR4 hb4).below hal)
      have HB4 := Lib.hid ((HB3.out.trans (hb4.belowW HR3.out.row)).trans (hal.mono (by have := hR4.lt; omega)))
      clear hR4 hb4 hal
      unfold u8V
      go_wp2_with fail
      refine (of_one _ a ha).mono ?_
      rintro e w5 ⟨rfl, hb5⟩
      have hb5 : Below (w4.alloc (.cells #[.int .u8 a] 5)).heap.size (w4.alloc (.cells #[.int .u8 a] 5)) w5 := by simpa using hb5
      have HR5 := Lib.hid (HR4.out.below hb5)
      have HB5 := Lib.hid (HB4.out.trans (hb5.mono (by have := HR4.out.row.lt; omega)))
      clear hb5
      unfold setV
      go_wp2_with fail
      refine (addSetR_any B s q o ns ps nv pv (2 ^ a) _ HR5.out hlen).mono ?_
      rintro e w6 ⟨rfl, hR6, hb6⟩
      have HR6 := Lib.hid hR6
      clear hR6
      go_wp2_with fail
      go_ret
      exact ⟨rfl, HR6.out, HB5.out.trans hb6⟩
end Go.Proofs.YtcgllipcnmlkbaaDoor
namespace Go.Proofs.YtcgllipcnmlkbaaDoor
open Go.RowKit Sets Tr Rx
/-- what a loop keeps -/
structure LI (W : World) (B : Nat) (s : ByteArray) (o c : Nat) (ps : List (Int × Bool)) (pv : Value) (md : Nat → Md) (R : G) (F : Nat) (wr : World) (f n p : Nat) (ns : List Nd) (nv : Value) : Prop where
  at' : RdAt wr B s p o ns ps nv pv
  bel : Below B W wr
  inn : In (by' s) p ns (2 + c)
  lt : n < ns.length
  fuel : 5 * (s.size - p) + (md n).c < f
  few : f ≤ F
  is : go (by' s) f (md n) o p ns = R
theorem go_braE {l : List Nat} {f o p : Nat} {ns : List Nd} (h : ends l p = true) : go l (f + 1) .bra o p ns = .ok ns.length p (ns ++ [⟨1, 0, 0, 0, 0, 0⟩]) := by rw [go, if_pos h]; rfl
theorem go_braN {l : List Nat} {f o p : Nat} {ns : List Nd} (h : ends l p = false) : go l (f + 1) .bra o p ns = (go l f .pie o p ns).bind fun n p ns => go l f (.braL n) o p ns := by rw [go, if_neg (by rw [h]; exact Bool.false_ne_true)]
theorem go_brLE {l : List Nat} {f o p n : Nat} {ns : List Nd} (h : ends l p = true) : go l (f + 1) (.braL n) o p ns = .ok n p ns := by rw [go, if_pos h]
theorem go_brLN {l : List Nat} {f o p n : Nat} {ns : List Nd} (h : ends l p = false) : go l (f + 1) (.braL n) o p ns = (go l f .pie o p ns).bind fun m p ns => go l f (.braL ns.length) o p (ns ++ [⟨3, 0, n, m, 0, 0⟩]) := by rw [go, if_neg (by rw [h]; exact Bool.false_ne_true)]
theorem go_patL0 {l : List Nat} {f o p n : Nat} {ns : List Nd} (h : pk l p ≠ 124) : go l (f + 1) (.patL n) o p ns = .ok n p ns := by rw [go, if_neg h]
theorem go_patL1 {l : List Nat} {f o p n : Nat} {ns : List Nd} (h : pk l p = 124) : go l (f + 1) (.patL n) o p ns = (go l f .bra o (p + 1) ns).bind fun m p ns => go l f (.patL ns.length) o p (ns ++ [⟨4, 0, n, m, 0, 0⟩]) := by rw [go, if_pos h]
theorem go_pat {l : List Nat} {f o p : Nat} {ns : List Nd} : go l (f + 1) .pat o p ns = (go l f .bra o p ns).bind fun n p ns => go l f (.patL n) o p ns := by rw [go]
set_option maxHeartbeats 1600000 in
theorem branch_any (f : Nat) (HP : ∀ k, k ≤ f → Con k .pie 68) : Con (f + 1) .bra 65 := by
  intro B s o p c ns ps nv pv w h hin hs ho hf
  have hle := hin.sz
  have hlen := hin.len
  have H := Lib.hid h
  have hB := h.row.lt
  have En := Lib.hid (fun w' p nv (hR : Row w' B s p o nv pv) (hp : p ≤ s.size) => ends_any B s p o nv pv w' hR hp)
  clear h
  cases he : ends (by' s) p with
  | true =>
    rw [go_braE he]
    go_enter Tryd.func65, Tryd.ntmps65
    go_wp2_with fail
    refine (En.out _ p nv H.out.row hle).mono ?_
    rw [he]
    rintro e w1 ⟨rfl, hR1, hb1⟩
    have HR1 := Lib.hid (H.out.but hR1 hb1)
    have HB1 := Lib.hid (hb1.belowW H.out.row)
    clear hR1 hb1
    go_wp2_with fail
    refine (add_lit B s p o ns ps nv pv 1 0 0 0 0 _ HR1.out hlen).mono ?_
    rintro e w2 ⟨rfl, hR2, hb2⟩
    have HR2 := Lib.hid hR2
    clear hR2
    go_wp2_with fail
    go_ret
    exact ⟨rfl, HR2.out, HB1.out.trans hb2⟩
  | false =>
    rw [go_braN he]
    have hin1 : In (by' s) p ns (Md.pie.g + (c + 2)) := hin.more (Nat.le_refl _) hin.le (by simp only [Md.g]; omega)
    have HP1 := Lib.hid (fun w' nv (hR : RdAt w' B s p o ns ps nv pv) => HP f (Nat.le_refl _) B s o p (c + 2) ns ps nv pv w' hR hin1 hs ho (by simp only [Md.c] at *; omega))
    have hg := go_good (by_lt s) f .pie o p ns (c + 2) hin1 trivial
    cases hr : go (by' s) f .pie o p ns with
    | bad lg q =>
      rw [hr] at HP1
      clear hr hg HP
      go_enter Tryd.func65, Tryd.ntmps65
      go_wp2_with fail
      refine (En.out _ p nv H.out.row hle).mono ?_
      rw [he]
      rintro e w1 ⟨rfl, hR1, hb1⟩
      have HR1 := Lib.hid (H.out.but hR1 hb1)
      have HB1 := Lib.hid (hb1.belowW H.out.row)
      clear hR1 hb1
      go_wp2_with fail
      refine (HP1.out _ nv HR1.out).mono ?_
      rintro e w2 ⟨rfl, hb2⟩
      exact ⟨rfl, rfl, HB1.out.trans hb2⟩
    | ok n1 p1 ns1 =>
      rw [hr] at HP1 hg
      have HG := Lib.hid hg
      clear hr hg
      simp only [G.bind]
      obtain ⟨R, hRR⟩ : ∃ R, R = go (by' s) f (.braL n1) o p1 ns1 := ⟨_, rfl⟩
      rw [← hRR]
      have HIS := Lib.hid hRR.symm
      clear hRR
      have HPP := Lib.hid HP
      have HF : Hid (5 * (s.size - p) + 2 < f + 1) := Lib.hid hf
      clear HP hf hin hin1
      go_enter Tryd.func65, Tryd.ntmps65
      go_wp2_with fail
      refine (En.out _ p nv H.out.row hle).mono ?_
      rw [he]
      rintro e w1 ⟨rfl, hR1, hb1⟩
      have HR1 := Lib.hid (H.out.but hR1 hb1)
      have HB1 := Lib.hid (hb1.belowW H.out.row)
      clear hR1 hb1
      go_wp2_with fail
      refine (HP1.out _ nv HR1.out).mono ?_
      rintro e w2 ⟨rfl, ⟨nv2, hR2⟩, hb2⟩
      have HI : Hid (LI w B s o c ps pv .braL R f w2 f n1 p1 ns1 nv2) := Lib.hid ⟨hR2, HB1.out.trans hb2, HG.out.2.2.more (Nat.le_refl _) HG.out.2.2.le (by omega), HG.out.2.1, by
        have h1 := HG.out.1; have h2 := HF.out; have h3 := HG.out.2.2.sz; simp only [Md.t, Md.c] at *; omega, Nat.le_refl _, HIS.out⟩
      clear hR2 hb2 HIS HG HF HR1 HB1 HP1
      go_wp2_with fail
      go_loopw [3] (fun v wr => ∃ f' n p ns nv, v = .int .i64 (n : Nat) ∧ Hid (LI w B s o c ps pv .braL R f wr f' n p ns nv)) (fun _ wr => s.size + 1 - posOf wr B)
      case atStart => exact ⟨_, _, _, _, _, rfl, HI⟩
      case round =>
        obtain ⟨f', n, p, ns, nv, rfl, HI⟩ := hrel
        have hle := HI.out.inn.sz
        have hfu := HI.out.fuel
        obtain ⟨f', rfl⟩ : ∃ g, f' = g + 1 := ⟨f' - 1, by omega⟩
        cases he : ends (by' s) p with
        | true =>
          have HE := Lib.hid ((go_brLE he).symm.trans HI.out.is)
          go_wp2_with fail
          refine (En.out _ p nv HI.out.at'.row hle).mono ?_
          rw [he]
          rintro e w3 ⟨rfl, hR3, hb3⟩
          have HR3 := Lib.hid (HI.out.at'.but hR3 hb3)
          have HB3 := Lib.hid (HI.out.bel.trans (hb3.belowW HI.out.at'.row))
          clear hR3 hb3
          go_wp2_with fail
          go_ret
          exact GP.cast HE.out ⟨rfl, ⟨_, HR3.out⟩, HB3.out⟩
        | false =>
          have HE := Lib.hid ((go_brLN he).symm.trans HI.out.is)
          have hin1 : In (by' s) p ns (Md.pie.g + (c + 1)) := HI.out.inn.more (Nat.le_refl _) HI.out.inn.le (by simp only [Md.g]; omega)
          have HP1 := Lib.hid (fun w' nv (hR : RdAt w' B s p o ns ps nv pv) => HPP.out f' (by have := HI.out.few; omega) B s o p (c + 1) ns ps nv pv w' hR hin1 hs ho (by simp only [Md.c] at *; omega))
          have hg := go_good (by_lt s) f' .pie o p ns (c + 1) hin1 trivial
          cases hr : go (by' s) f' .pie o p ns with
          | bad lg q =>
            rw [hr] at HP1 HE
            clear hr hg
            go_wp2_with fail
            refine (En.out _ p nv HI.out.at'.row hle).mono ?_
            rw [he]
            rintro e w3 ⟨rfl, hR3, hb3⟩
            have HR3 := Lib.hid (HI.out.at'.but hR3 hb3)
            have HB3 := Lib.hid (HI.out.bel.trans (hb3.belowW HI.out.at'.row))
            clear hR3 hb3
            go_wp2_with fail
            refine (HP1.out _ nv HR3.out).mono ?_
            rintro e w4 ⟨rfl, hb4⟩
            exact ⟨rfl, GP.cast HE.out ⟨rfl, HB3.out.trans hb4⟩⟩
          | ok m p1 ns1 =>
            rw [hr] at HP1 HE hg
            have HG := Lib.hid hg
            clear hr hg
            go_wp2_with fail
            refine (En.out _ p nv HI.out.at'.row hle).mono ?_
            rw [he]
            rintro e w3 ⟨rfl, hR3, hb3⟩
            have HR3 := Lib.hid (HI.out.at'.but hR3 hb3)
            have HB3 := Lib.hid (HI.out.bel.trans (hb3.belowW HI.out.at'.row))
            clear hR3 hb3
            go_wp2_with fail
            refine (HP1.out _ nv HR3.out).mono ?_
            rintro e w4 ⟨rfl, ⟨nv4, hR4⟩, hb4⟩
            have HR4 := Lib.hid hR4
            have HB4 := Lib.hid (HB3.out.trans hb4)
            clear hR4 hb4
            go_wp2_with fail
            refine (add_lit B s p1 o ns1 ps nv4 pv 3 n m 0 0 _ HR4.out HG.out.2.2.len).mono ?_
            rintro e w5 ⟨rfl, ⟨nv5, hR5⟩, hb5⟩
            have HI2 : Hid (LI w B s o c ps pv .braL R f w5 f' ns1.length p1 (ns1 ++ [⟨3, 0, n, m, 0, 0⟩]) nv5) := Lib.hid ⟨hR5, HB4.out.trans hb5, HG.out.2.2.add (nk_two 3 n m (by decide) (HI.out.inn.lt HI.out.lt) (HG.out.2.2.lt HG.out.2.1)) (by omega), by simp, by
              have h1 := HG.out.1; have h3 := HG.out.2.2.sz; simp only [Md.t, Md.c] at *; omega, by have := HI.out.few; omega, HE.out⟩
            clear hR5 hb5
            go_wp2_with fail
            go_round
            case rel => exact ⟨_, _, _, _, _, rfl, HI2⟩
            case measure =>
              rw [posOf_row HI2.out.at'.row, posOf_row HI.out.at'.row]
              have h1 := HG.out.1
              have h3 := HG.out.2.2.sz
              simp only [Md.t] at h1
              omega
set_option maxHeartbeats 1600000 in
theorem pattern_any (f : Nat) (HP : ∀ k, k ≤ f → Con k .bra 65) : Con (f + 1) .pat 62 := by
  intro B s o p c ns ps nv pv w h hin hs ho hf
  have hle := hin.sz
  have H := Lib.hid h
  have hB := h.row.lt
  have Ty := Lib.hid (fun w' p nv (c : Nat) (hR : Row w' B s p o nv pv) => take_yes B s p o nv pv c w' hR hs)
  have Tn := Lib.hid (fun w' p nv (c : Nat) (hR : Row w' B s p o nv pv) => take_no B s p o nv pv c w' hR)
  clear h
  rw [go_pat]
  have hin1 : In (by' s) p ns (Md.bra.g + c) := hin
  have HP1 := Lib.hid (HP f (Nat.le_refl _) B s o p c ns ps nv pv w H.out hin1 hs ho (by simp only [Md.c] at *; omega))
  have hg := go_good (by_lt s) f .bra o p ns c hin1 trivial
  cases hr : go (by' s) f .bra o p ns with
  | bad lg q =>
    rw [hr] at HP1
    clear hr hg HP
    go_enter Tryd.func62, Tryd.ntmps62
    go_wp2_with fail
    refine HP1.out.mono ?_
    rintro e w2 ⟨rfl, hb2⟩
    exact ⟨rfl, rfl, hb2⟩
  | ok n1 p1 ns1 =>
    rw [hr] at HP1 hg
    have HG := Lib.hid hg
    clear hr hg
    simp only [G.bind]
    obtain ⟨R, hRR⟩ : ∃ R, R = go (by' s) f (.patL n1) o p1 ns1 := ⟨_, rfl⟩
    rw [← hRR]
    have HIS := Lib.hid hRR.symm
    clear hRR
    have HPP := Lib.hid HP
    have HF : Hid (5 * (s.size - p) + 3 < f + 1) := Lib.hid hf
    clear HP hf hin hin1
    go_enter Tryd.func62, Tryd.ntmps62
    go_wp2_with fail
    refine HP1.out.mono ?_
    rintro e w2 ⟨rfl, ⟨nv2, hR2⟩, hb2⟩
    have HI : Hid (LI w B s o c ps pv .patL R f w2 f n1 p1 ns1 nv2) := Lib.hid ⟨hR2, hb2, HG.out.2.2.more (Nat.le_refl _) HG.out.2.2.le (by omega), HG.out.2.1, by
      have h1 := HG.out.1; have h2 := HF.out; have h3 := HG.out.2.2.sz; simp only [Md.t, Md.c] at *; omega, Nat.le_refl _, HIS.out⟩
    clear hR2 hb2 HIS HG HF HP1
    go_wp2_with fail
    go_loopw [3] (fun v wr => ∃ f' n p ns nv, v = .int .i64 (n : Nat) ∧ Hid (LI w B s o c ps pv .patL R f wr f' n p ns nv)) (fun _ wr => s.size + 1 - posOf wr B)
    case atStart => exact ⟨_, _, _, _, _, rfl, HI⟩
    case round =>
      obtain ⟨f', n, p, ns, nv, rfl, HI⟩ := hrel
      have hle := HI.out.inn.sz
      have hfu := HI.out.fuel
      obtain ⟨f', rfl⟩ : ∃ g, f' = g + 1 := ⟨f' - 1, by omega⟩
      by_cases h124 : pk (by' s) p = 124
      · have HE := Lib.hid ((go_patL1 h124).symm.trans HI.out.is)
        have hlt := pk_lt (l := by' s) (p := p) (by omega)
        rw [by_len] at hlt
        have hin1 : In (by' s) (p + 1) ns (Md.bra.g + (c + 1)) := HI.out.inn.more (by omega) (by rw [by_len]; omega) (by simp only [Md.g]; omega)
        have HP1 := Lib.hid (fun w' nv (hR : RdAt w' B s (p + 1) o ns ps nv pv) => HPP.out f' (by have := HI.out.few; omega) B s o (p + 1) (c + 1) ns ps nv pv w' hR hin1 hs ho (by simp only [Md.c] at *; omega))
        have hg := go_good (by_lt s) f' .bra o (p + 1) ns (c + 1) hin1 trivial
        cases hr : go (by' s) f' .bra o (p + 1) ns with
        | bad lg q =>
          rw [hr] at HP1 HE
          clear hr hg
          go_wp2_with fail
          refine (Ty.out _ p nv 124 HI.out.at'.row (by decide) h124).mono ?_
          rintro e w3 ⟨rfl, hR3, hb3⟩
          have HR3 := Lib.hid (HI.out.at'.but hR3 hb3)
          have HB3 := Lib.hid (HI.out.bel.trans (hb3.belowW HI.out.at'.row))
          clear hR3 hb3
          go_wp2_with fail
          refine (HP1.out _ nv HR3.out).mono ?_
          rintro e w4 ⟨rfl, hb4⟩
          exact ⟨rfl, GP.cast HE.out ⟨rfl, HB3.out.trans hb4⟩⟩
        | ok m p1 ns1 =>
          rw [hr] at HP1 HE hg
          have HG := Lib.hid hg
          clear hr hg
          go_wp2_with fail
          refine (Ty.out _ p nv 124 HI.out.at'.row (by decide) h124).mono ?_
          rintro e w3 ⟨rfl, hR3, hb3⟩
          have HR3 := Lib.hid (HI.out.at'.but hR3 hb3)
          have HB3 := Lib.hid (HI.out.bel.trans (hb3.belowW HI.out.at'.row))
          clear hR3 hb3
          go_wp2_with fail
          refine (HP1.out _ nv HR3.out).mono ?_
          rintro e w4 ⟨rfl, ⟨nv4, hR4⟩, hb4⟩
          have HR4 := Lib.hid hR4
          have HB4 := Lib.hid (HB3.out.trans hb4)
          clear hR4 hb4
          go_wp2_with fail
          refine (add_lit B s p1 o ns1 ps nv4 pv 4 n m 0 0 _ HR4.out HG.out.2.2.len).mono ?_
          rintro e w5 ⟨rfl, ⟨nv5, hR5⟩, hb5⟩
          have HI2 : Hid (LI w B s o c ps pv .patL R f w5 f' ns1.length p1 (ns1 ++ [⟨4, 0, n, m, 0, 0⟩]) nv5) := Lib.hid ⟨hR5, HB4.out.trans hb5, HG.out.2.2.add (nk_two 4 n m (by decide) (HI.out.inn.lt HI.out.lt) (HG.out.2.2.lt HG.out.2.1)) (by omega), by simp, by
            have h1 := HG.out.1; have h3 := HG.out.2.2.sz; simp only [Md.t, Md.c] at *; omega, by have := HI.out.few; omega, HE.out⟩
          clear hR5 hb5
          go_wp2_with fail
          go_round
          case rel => exact ⟨_, _, _, _, _, rfl, HI2⟩
          case measure =>
            rw [posOf_row HI2.out.at'.row, posOf_row HI.out.at'.row]
            have h1 := HG.out.1
            have h3 := HG.out.2.2.sz
            simp only [Md.t] at h1
            omega
      · have HE := Lib.hid ((go_patL0 h124).symm.trans HI.out.is)
        go_wp2_with fail
        refine (Tn.out _ p nv 124 HI.out.at'.row hle h124).mono ?_
        rintro e w3 ⟨rfl, hR3, hb3⟩
        have HR3 := Lib.hid (HI.out.at'.but hR3 hb3)
        have HB3 := Lib.hid (HI.out.bel.trans (hb3.belowW HI.out.at'.row))
        clear hR3 hb3
        go_wp2_with fail
        go_ret
        exact GP.cast HE.out ⟨rfl, ⟨_, HR3.out⟩, HB3.out⟩
/-- whatever the fuel -/
theorem all_con : ∀ f, Con f .pat 62 ∧ Con f .bra 65 ∧ Con f .pie 68 ∧ Con f .ato 70 := by
  intro f
  induction f using Nat.strongRecOn with
  | _ f ih =>
    cases f with
    | zero =>
      refine ⟨?_, ?_, ?_, ?_⟩ <;> (intro B s o p c ns ps nv pv w h hin hs ho hf; exact absurd hf (Nat.not_lt_zero _))
    | succ f =>
      exact ⟨pattern_any f fun k hk => (ih k (by omega)).2.1, branch_any f fun k hk => (ih k (by omega)).2.2.1, piece_any f (ih f (by omega)).2.2.2, atom_any f (ih f (by omega)).1⟩
end Go.Proofs.YtcgllipcnmlkbaaDoor
namespace Go.Proofs.YtcgllipcnmlkbaaDoor
namespace Rx
open Sets Tr
inductive P where
  | ok (p : Nat) (ns : List Nd) (ps : List (Int × Bool))
  | bad (long : Bool) (p : Nat)
def nots (l : List Nat) : Nat → Bool → Nat → Bool × Nat
  | 0, b, p => (b, p)
  | f + 1, b, p => if pk l p = 33 then nots l f (!b) (p + 1) else (b, p)
/-- fuel that is enough for a text -/
def fl (l : List Nat) : Nat := 5 * l.length + 10
def prtE (l : List Nat) (ns : List Nd) (ps : List (Int × Bool)) (b : Bool) (q : Nat) : P :=
  match go l (fl l) .pat 0 q ns with
  | .ok n p ns => .ok p ns (ps ++ [((n : Int), b)])
  | .bad lg p => .bad lg p
def prt (l : List Nat) (p : Nat) (ns : List Nd) (ps : List (Int × Bool)) : P := prtE l ns ps (nots l (l.length + 1) false p).1 (nots l (l.length + 1) false p).2
def prtsL (l : List Nat) : Nat → Nat → List Nd → List (Int × Bool) → P
  | 0, p, _, _ => .bad false p
  | f + 1, p, ns, ps =>
    if pk l p = 38 then (if ps.length = 20 then .bad true p else match prt l (p + 1) ns ps with
      | .ok p ns ps => prtsL l f p ns ps
      | .bad lg p => .bad lg p)
    else .ok p ns ps
noncomputable def cons (l : List Nat) : P :=
  if 200 < l.length then .bad true 200 else match prt l 0 [] [] with
    | .bad lg p => .bad lg p
    | .ok p ns ps => match prtsL l (l.length + 1) p ns ps with
      | .bad lg p => .bad lg p
      | .ok p ns ps => if p < l.length then .bad false p else if 63 < plOf ns ps then .bad true p else .ok p ns ps
theorem nots_ok {l : List Nat} : ∀ (f : Nat) (b : Bool) (p : Nat), p ≤ l.length → l.length < p + f → p ≤ (nots l f b p).2 ∧ (nots l f b p).2 ≤ l.length ∧ pk l (nots l f b p).2 ≠ 33
  | 0, b, p, h, hf => by omega
  | f + 1, b, p, h, hf => by
    unfold nots
    split
    · rename_i h0
      have := pk_lt (l := l) (p := p) (by omega)
      have h1 := nots_ok (l := l) f (!b) (p + 1) (by omega) (by omega)
      exact ⟨by omega, h1.2.1, h1.2.2⟩
    · rename_i h0
      exact ⟨Nat.le_refl _, h, h0⟩
structure In2 (l : List Nat) (p : Nat) (ns : List Nd) (ps : List (Int × Bool)) (c : Nat) : Prop where
  inn : In l p ns c
  few : ps.length ≤ 20
  ok : ∀ x ∈ ps, 0 ≤ x.1 ∧ x.1 ≤ 1000
def GoodP (l : List Nat) (p t k d : Nat) : P → Prop
  | .ok p' ns' ps' => p + t ≤ p' ∧ In2 l p' ns' ps' d ∧ ps'.length = k
  | .bad _ _ => True
theorem prt_good {l : List Nat} (hl : ∀ x ∈ l, x < 256) {p c : Nat} {ns : List Nd} {ps : List (Int × Bool)} (h : In2 l p ns ps (3 + c)) (hk : ps.length < 20) : GoodP l p 0 (ps.length + 1) (c + 2) (prt l p ns ps) := by
  unfold prt
  have h1 := nots_ok (l := l) (l.length + 1) false p h.inn.le (by omega)
  generalize nots l (l.length + 1) false p = bq at *
  obtain ⟨b, q⟩ := bq
  simp only at h1 ⊢
  unfold prtE
  have h2 := go_good hl (fl l) .pat 0 q ns c (h.inn.more h1.1 h1.2.1 (by simp only [Md.g]; omega)) trivial
  cases hg : go l (fl l) .pat 0 q ns with
  | bad _ _ => trivial
  | ok n p1 ns1 =>
    rw [hg] at h2
    obtain ⟨h3, h4, h5⟩ := h2
    refine ⟨by omega, ⟨h5, by simp; omega, fun x hx => ?_⟩, by simp⟩
    rcases List.mem_append.1 hx with hx | hx
    · exact h.ok x hx
    · rw [List.mem_singleton.1 hx]
      have := h5.lt h4
      simp only
      omega
def GoodL (l : List Nat) (p c : Nat) : P → Prop
  | .ok p' ns' ps' => p ≤ p' ∧ In2 l p' ns' ps' c
  | .bad _ _ => True
theorem prtsL_good {l : List Nat} (hl : ∀ x ∈ l, x < 256) : ∀ (f : Nat) {p c : Nat} {ns : List Nd} {ps : List (Int × Bool)}, In2 l p ns ps (2 + c) → GoodL l p (2 + c) (prtsL l f p ns ps)
  | 0, p, c, ns, ps, h => by unfold prtsL; trivial
  | f + 1, p, c, ns, ps, h => by
    unfold prtsL
    split
    · rename_i h0
      have hlt := pk_lt (l := l) (p := p) (by omega)
      split
      · trivial
      · have h1 := prt_good hl (p := p + 1) (c := c + 1) (ns := ns) (ps := ps) ⟨h.inn.more (by omega) (by omega) (by omega), h.few, h.ok⟩ (by have := h.few; omega)
        cases hg : prt l (p + 1) ns ps with
        | bad _ _ => trivial
        | ok p1 ns1 ps1 =>
          rw [hg] at h1
          obtain ⟨h2, h3, -⟩ := h1
          have h4 := prtsL_good hl f (p := p1) (c := c) (ns := ns1) (ps := ps1) ⟨h3.inn.more (Nat.le_refl _) h3.inn.le (by omega), h3.few, h3.ok⟩
          simp only
          cases hg2 : prtsL l f p1 ns1 ps1 with
          | bad _ _ => trivial
          | ok p2 ns2 ps2 =>
            rw [hg2] at h4
            obtain ⟨h5, h6⟩ := h4
            exact ⟨by omega, h6⟩
    · exact ⟨Nat.le_refl _, h⟩
end Rx
end Go.Proofs.YtcgllipcnmlkbaaDoor
