/- branch, pattern: loops. -/
import Derived.Test.YtbmoanhdpnaocaaRexI
namespace Go.Proofs.Ytbmoanhdpnaocaa
open Go.RowKit Sets Tr Rx
/-- what a loop keeps -/
structure LI (W : World) (B : Nat) (s : ByteArray) (o c : Nat) (ps : List (Int × Bool)) (pv : Value) (md : Nat → Md) (R : G) (F : Nat) (wr : World) (f n p : Nat) (ns : List Nd) (nv : Value) : Prop where
  at' : RdAt wr B s p o ns ps nv pv
  bel : Below B W wr
  inn : In (by' s) p ns (2 + c)
  lt : n < ns.length
  fuel : 5 * (s.size - p) + (md n).c < f
  few : f ≤ F
  is : go (by' s) f (md n) o p ns = R
theorem go_braE {l : List Nat} {f o p : Nat} {ns : List Nd} (h : ends l p = true) : go l (f + 1) .bra o p ns = .ok ns.length p (ns ++ [⟨1, 0, 0, 0, 0, 0⟩]) := by rw [go, if_pos h]; rfl
theorem go_braN {l : List Nat} {f o p : Nat} {ns : List Nd} (h : ends l p = false) : go l (f + 1) .bra o p ns = (go l f .pie o p ns).bind fun n p ns => go l f (.braL n) o p ns := by rw [go, if_neg (by rw [h]; exact Bool.false_ne_true)]
theorem go_brLE {l : List Nat} {f o p n : Nat} {ns : List Nd} (h : ends l p = true) : go l (f + 1) (.braL n) o p ns = .ok n p ns := by rw [go, if_pos h]
theorem go_brLN {l : List Nat} {f o p n : Nat} {ns : List Nd} (h : ends l p = false) : go l (f + 1) (.braL n) o p ns = (go l f .pie o p ns).bind fun m p ns => go l f (.braL ns.length) o p (ns ++ [⟨3, 0, n, m, 0, 0⟩]) := by rw [go, if_neg (by rw [h]; exact Bool.false_ne_true)]
theorem go_patL0 {l : List Nat} {f o p n : Nat} {ns : List Nd} (h : pk l p ≠ 124) : go l (f + 1) (.patL n) o p ns = .ok n p ns := by rw [go, if_neg h]
theorem go_patL1 {l : List Nat} {f o p n : Nat} {ns : List Nd} (h : pk l p = 124) : go l (f + 1) (.patL n) o p ns = (go l f .bra o (p + 1) ns).bind fun m p ns => go l f (.patL ns.length) o p (ns ++ [⟨4, 0, n, m, 0, 0⟩]) := by rw [go, if_pos h]
theorem go_pat {l : List Nat} {f o p : Nat} {ns : List Nd} : go l (f + 1) .pat o p ns = (go l f .bra o p ns).bind fun n p ns => go l f (.patL n) o p ns := by rw [go]
set_option maxHeartbeats 1600000 in
theorem branch_any (f : Nat) (HP : ∀ k, k ≤ f → Con k .pie 28) : Con (f + 1) .bra 22 := by
  intro B s o p c ns ps nv pv w h hin hs ho hf
  have hle := hin.sz
  have hlen := hin.len
  have H := Lib.hid h
  have hB := h.row.lt
  have En := Lib.hid (fun w' p nv (hR : Row w' B s p o nv pv) (hp : p ≤ s.size) => ends_any B s p o nv pv w' hR hp)
  clear h
  cases he : ends (by' s) p with
  | true =>
    rw [go_braE he]
    go_enter Try.func22, Try.ntmps22
    go_wp2_with fail
    refine (En.out _ p nv H.out.row hle).mono ?_
    rw [he]
    rintro e w1 ⟨rfl, hR1, hb1⟩
    have HR1 := Lib.hid (H.out.but hR1 hb1)
    have HB1 := Lib.hid (hb1.belowW H.out.row)
    clear hR1 hb1
    go_wp2_with fail
    refine (add_lit B s p o ns ps nv pv 1 0 0 0 0 _ HR1.out hlen).mono ?_
    rintro e w2 ⟨rfl, hR2, hb2⟩
    have HR2 := Lib.hid hR2
    clear hR2
    go_wp2_with fail
    go_ret
    exact ⟨rfl, HR2.out, HB1.out.trans hb2⟩
  | false =>
    rw [go_braN he]
    have hin1 : In (by' s) p ns (Md.pie.g + (c + 2)) := hin.more (Nat.le_refl _) hin.le (by simp only [Md.g]; omega)
    have HP1 := Lib.hid (fun w' nv (hR : RdAt w' B s p o ns ps nv pv) => HP f (Nat.le_refl _) B s o p (c + 2) ns ps nv pv w' hR hin1 hs ho (by simp only [Md.c] at *; omega))
    have hg := go_good (by_lt s) f .pie o p ns (c + 2) hin1 trivial
    cases hr : go (by' s) f .pie o p ns with
    | bad lg q =>
      rw [hr] at HP1
      clear hr hg HP
      go_enter Try.func22, Try.ntmps22
      go_wp2_with fail
      refine (En.out _ p nv H.out.row hle).mono ?_
      rw [he]
      rintro e w1 ⟨rfl, hR1, hb1⟩
      have HR1 := Lib.hid (H.out.but hR1 hb1)
      have HB1 := Lib.hid (hb1.belowW H.out.row)
      clear hR1 hb1
      go_wp2_with fail
      refine (HP1.out _ nv HR1.out).mono ?_
      rintro e w2 ⟨rfl, hb2⟩
      exact ⟨rfl, rfl, HB1.out.trans hb2⟩
    | ok n1 p1 ns1 =>
      rw [hr] at HP1 hg
      have HG := Lib.hid hg
      clear hr hg
      simp only [G.bind]
      obtain ⟨R, hRR⟩ : ∃ R, R = go (by' s) f (.braL n1) o p1 ns1 := ⟨_, rfl⟩
      rw [← hRR]
      have HIS := Lib.hid hRR.symm
      clear hRR
      have HPP := Lib.hid HP
      have HF : Hid (5 * (s.size - p) + 2 < f + 1) := Lib.hid hf
      clear HP hf hin hin1
      go_enter Try.func22, Try.ntmps22
      go_wp2_with fail
      refine (En.out _ p nv H.out.row hle).mono ?_
      rw [he]
      rintro e w1 ⟨rfl, hR1, hb1⟩
      have HR1 := Lib.hid (H.out.but hR1 hb1)
      have HB1 := Lib.hid (hb1.belowW H.out.row)
      clear hR1 hb1
      go_wp2_with fail
      refine (HP1.out _ nv HR1.out).mono ?_
      rintro e w2 ⟨rfl, ⟨nv2, hR2⟩, hb2⟩
      have HI : Hid (LI w B s o c ps pv .braL R f w2 f n1 p1 ns1 nv2) := Lib.hid ⟨hR2, HB1.out.trans hb2, HG.out.2.2.more (Nat.le_refl _) HG.out.2.2.le (by omega), HG.out.2.1, by
        have h1 := HG.out.1; have h2 := HF.out; have h3 := HG.out.2.2.sz; simp only [Md.t, Md.c] at *; omega, Nat.le_refl _, HIS.out⟩
      clear hR2 hb2 HIS HG HF HR1 HB1 HP1
      go_wp2_with fail
      go_loopw [3] (fun v wr => ∃ f' n p ns nv, v = .int .i64 (n : Nat) ∧ Hid (LI w B s o c ps pv .braL R f wr f' n p ns nv)) (fun _ wr => s.size + 1 - posOf wr B)
      case atStart => exact ⟨_, _, _, _, _, rfl, HI⟩
      case round =>
        obtain ⟨f', n, p, ns, nv, rfl, HI⟩ := hrel
        have hle := HI.out.inn.sz
        have hfu := HI.out.fuel
        obtain ⟨f', rfl⟩ : ∃ g, f' = g + 1 := ⟨f' - 1, by omega⟩
        cases he : ends (by' s) p with
        | true =>
          have HE := Lib.hid ((go_brLE he).symm.trans HI.out.is)
          go_wp2_with fail
          refine (En.out _ p nv HI.out.at'.row hle).mono ?_
          rw [he]
          rintro e w3 ⟨rfl, hR3, hb3⟩
          have HR3 := Lib.hid (HI.out.at'.but hR3 hb3)
          have HB3 := Lib.hid (HI.out.bel.trans (hb3.belowW HI.out.at'.row))
          clear hR3 hb3
          go_wp2_with fail
          go_ret
          exact GP.cast HE.out ⟨rfl, ⟨_, HR3.out⟩, HB3.out⟩
        | false =>
          have HE := Lib.hid ((go_brLN he).symm.trans HI.out.is)
          have hin1 : In (by' s) p ns (Md.pie.g + (c + 1)) := HI.out.inn.more (Nat.le_refl _) HI.out.inn.le (by simp only [Md.g]; omega)
          have HP1 := Lib.hid (fun w' nv (hR : RdAt w' B s p o ns ps nv pv) => HPP.out f' (by have := HI.out.few; omega) B s o p (c + 1) ns ps nv pv w' hR hin1 hs ho (by simp only [Md.c] at *; omega))
          have hg := go_good (by_lt s) f' .pie o p ns (c + 1) hin1 trivial
          cases hr : go (by' s) f' .pie o p ns with
          | bad lg q =>
            rw [hr] at HP1 HE
            clear hr hg
            go_wp2_with fail
            refine (En.out _ p nv HI.out.at'.row hle).mono ?_
            rw [he]
            rintro e w3 ⟨rfl, hR3, hb3⟩
            have HR3 := Lib.hid (HI.out.at'.but hR3 hb3)
            have HB3 := Lib.hid (HI.out.bel.trans (hb3.belowW HI.out.at'.row))
            clear hR3 hb3
            go_wp2_with fail
            refine (HP1.out _ nv HR3.out).mono ?_
            rintro e w4 ⟨rfl, hb4⟩
            exact ⟨rfl, GP.cast HE.out ⟨rfl, HB3.out.trans hb4⟩⟩
          | ok m p1 ns1 =>
            rw [hr] at HP1 HE hg
            have HG := Lib.hid hg
            clear hr hg
            go_wp2_with fail
            refine (En.out _ p nv HI.out.at'.row hle).mono ?_
            rw [he]
            rintro e w3 ⟨rfl, hR3, hb3⟩
            have HR3 := Lib.hid (HI.out.at'.but hR3 hb3)
            have HB3 := Lib.hid (HI.out.bel.trans (hb3.belowW HI.out.at'.row))
            clear hR3 hb3
            go_wp2_with fail
            refine (HP1.out _ nv HR3.out).mono ?_
            rintro e w4 ⟨rfl, ⟨nv4, hR4⟩, hb4⟩
            have HR4 := Lib.hid hR4
            have HB4 := Lib.hid (HB3.out.trans hb4)
            clear hR4 hb4
            go_wp2_with fail
            refine (add_lit B s p1 o ns1 ps nv4 pv 3 n m 0 0 _ HR4.out HG.out.2.2.len).mono ?_
            rintro e w5 ⟨rfl, ⟨nv5, hR5⟩, hb5⟩
            have HI2 : Hid (LI w B s o c ps pv .braL R f w5 f' ns1.length p1 (ns1 ++ [⟨3, 0, n, m, 0, 0⟩]) nv5) := Lib.hid ⟨hR5, HB4.out.trans hb5, HG.out.2.2.add (nk_two 3 n m (by decide) (HI.out.inn.lt HI.out.lt) (HG.out.2.2.lt HG.out.2.1)) (by omega), by simp, by
              have h1 := HG.out.1; have h3 := HG.out.2.2.sz; simp only [Md.t, Md.c] at *; omega, by have := HI.out.few; omega, HE.out⟩
            clear hR5 hb5
            go_wp2_with fail
            go_round
            case rel => exact ⟨_, _, _, _, _, rfl, HI2⟩
            case measure =>
              rw [posOf_row HI2.out.at'.row, posOf_row HI.out.at'.row]
              have h1 := HG.out.1
              have h3 := HG.out.2.2.sz
              simp only [Md.t] at h1
              omega
set_option maxHeartbeats 1600000 in
theorem pattern_any (f : Nat) (HP : ∀ k, k ≤ f → Con k .bra 22) : Con (f + 1) .pat 18 := by
  intro B s o p c ns ps nv pv w h hin hs ho hf
  have hle := hin.sz
  have H := Lib.hid h
  have hB := h.row.lt
  have Ty := Lib.hid (fun w' p nv (c : Nat) (hR : Row w' B s p o nv pv) => take_yes B s p o nv pv c w' hR hs)
  have Tn := Lib.hid (fun w' p nv (c : Nat) (hR : Row w' B s p o nv pv) => take_no B s p o nv pv c w' hR)
  clear h
  rw [go_pat]
  have hin1 : In (by' s) p ns (Md.bra.g + c) := hin
  have HP1 := Lib.hid (HP f (Nat.le_refl _) B s o p c ns ps nv pv w H.out hin1 hs ho (by simp only [Md.c] at *; omega))
  have hg := go_good (by_lt s) f .bra o p ns c hin1 trivial
  cases hr : go (by' s) f .bra o p ns with
  | bad lg q =>
    rw [hr] at HP1
    clear hr hg HP
    go_enter Try.func18, Try.ntmps18
    go_wp2_with fail
    refine HP1.out.mono ?_
    rintro e w2 ⟨rfl, hb2⟩
    exact ⟨rfl, rfl, hb2⟩
  | ok n1 p1 ns1 =>
    rw [hr] at HP1 hg
    have HG := Lib.hid hg
    clear hr hg
    simp only [G.bind]
    obtain ⟨R, hRR⟩ : ∃ R, R = go (by' s) f (.patL n1) o p1 ns1 := ⟨_, rfl⟩
    rw [← hRR]
    have HIS := Lib.hid hRR.symm
    clear hRR
    have HPP := Lib.hid HP
    have HF : Hid (5 * (s.size - p) + 3 < f + 1) := Lib.hid hf
    clear HP hf hin hin1
    go_enter Try.func18, Try.ntmps18
    go_wp2_with fail
    refine HP1.out.mono ?_
    rintro e w2 ⟨rfl, ⟨nv2, hR2⟩, hb2⟩
    have HI : Hid (LI w B s o c ps pv .patL R f w2 f n1 p1 ns1 nv2) := Lib.hid ⟨hR2, hb2, HG.out.2.2.more (Nat.le_refl _) HG.out.2.2.le (by omega), HG.out.2.1, by
      have h1 := HG.out.1; have h2 := HF.out; have h3 := HG.out.2.2.sz; simp only [Md.t, Md.c] at *; omega, Nat.le_refl _, HIS.out⟩
    clear hR2 hb2 HIS HG HF HP1
    go_wp2_with fail
    go_loopw [3] (fun v wr => ∃ f' n p ns nv, v = .int .i64 (n : Nat) ∧ Hid (LI w B s o c ps pv .patL R f wr f' n p ns nv)) (fun _ wr => s.size + 1 - posOf wr B)
    case atStart => exact ⟨_, _, _, _, _, rfl, HI⟩
    case round =>
      obtain ⟨f', n, p, ns, nv, rfl, HI⟩ := hrel
      have hle := HI.out.inn.sz
      have hfu := HI.out.fuel
      obtain ⟨f', rfl⟩ : ∃ g, f' = g + 1 := ⟨f' - 1, by omega⟩
      by_cases h124 : pk (by' s) p = 124
      · have HE := Lib.hid ((go_patL1 h124).symm.trans HI.out.is)
        have hlt := pk_lt (l := by' s) (p := p) (by omega)
        rw [by_len] at hlt
        have hin1 : In (by' s) (p + 1) ns (Md.bra.g + (c + 1)) := HI.out.inn.more (by omega) (by rw [by_len]; omega) (by simp only [Md.g]; omega)
        have HP1 := Lib.hid (fun w' nv (hR : RdAt w' B s (p + 1) o ns ps nv pv) => HPP.out f' (by have := HI.out.few; omega) B s o (p + 1) (c + 1) ns ps nv pv w' hR hin1 hs ho (by simp only [Md.c] at *; omega))
        have hg := go_good (by_lt s) f' .bra o (p + 1) ns (c + 1) hin1 trivial
        cases hr : go (by' s) f' .bra o (p + 1) ns with
        | bad lg q =>
          rw [hr] at HP1 HE
          clear hr hg
          go_wp2_with fail
          refine (Ty.out _ p nv 124 HI.out.at'.row (by decide) h124).mono ?_
          rintro e w3 ⟨rfl, hR3, hb3⟩
          have HR3 := Lib.hid (HI.out.at'.but hR3 hb3)
          have HB3 := Lib.hid (HI.out.bel.trans (hb3.belowW HI.out.at'.row))
          clear hR3 hb3
          go_wp2_with fail
          refine (HP1.out _ nv HR3.out).mono ?_
          rintro e w4 ⟨rfl, hb4⟩
          exact ⟨rfl, GP.cast HE.out ⟨rfl, HB3.out.trans hb4⟩⟩
        | ok m p1 ns1 =>
          rw [hr] at HP1 HE hg
          have HG := Lib.hid hg
          clear hr hg
          go_wp2_with fail
          refine (Ty.out _ p nv 124 HI.out.at'.row (by decide) h124).mono ?_
          rintro e w3 ⟨rfl, hR3, hb3⟩
          have HR3 := Lib.hid (HI.out.at'.but hR3 hb3)
          have HB3 := Lib.hid (HI.out.bel.trans (hb3.belowW HI.out.at'.row))
          clear hR3 hb3
          go_wp2_with fail
          refine (HP1.out _ nv HR3.out).mono ?_
          rintro e w4 ⟨rfl, ⟨nv4, hR4⟩, hb4⟩
          have HR4 := Lib.hid hR4
          have HB4 := Lib.hid (HB3.out.trans hb4)
          clear hR4 hb4
          go_wp2_with fail
          refine (add_lit B s p1 o ns1 ps nv4 pv 4 n m 0 0 _ HR4.out HG.out.2.2.len).mono ?_
          rintro e w5 ⟨rfl, ⟨nv5, hR5⟩, hb5⟩
          have HI2 : Hid (LI w B s o c ps pv .patL R f w5 f' ns1.length p1 (ns1 ++ [⟨4, 0, n, m, 0, 0⟩]) nv5) := Lib.hid ⟨hR5, HB4.out.trans hb5, HG.out.2.2.add (nk_two 4 n m (by decide) (HI.out.inn.lt HI.out.lt) (HG.out.2.2.lt HG.out.2.1)) (by omega), by simp, by
            have h1 := HG.out.1; have h3 := HG.out.2.2.sz; simp only [Md.t, Md.c] at *; omega, by have := HI.out.few; omega, HE.out⟩
          clear hR5 hb5
          go_wp2_with fail
          go_round
          case rel => exact ⟨_, _, _, _, _, rfl, HI2⟩
          case measure =>
            rw [posOf_row HI2.out.at'.row, posOf_row HI.out.at'.row]
            have h1 := HG.out.1
            have h3 := HG.out.2.2.sz
            simp only [Md.t] at h1
            omega
      · have HE := Lib.hid ((go_patL0 h124).symm.trans HI.out.is)
        go_wp2_with fail
        refine (Tn.out _ p nv 124 HI.out.at'.row hle h124).mono ?_
        rintro e w3 ⟨rfl, hR3, hb3⟩
        have HR3 := Lib.hid (HI.out.at'.but hR3 hb3)
        have HB3 := Lib.hid (HI.out.bel.trans (hb3.belowW HI.out.at'.row))
        clear hR3 hb3
        go_wp2_with fail
        go_ret
        exact GP.cast HE.out ⟨rfl, ⟨_, HR3.out⟩, HB3.out⟩
/-- whatever the fuel -/
theorem all_con : ∀ f, Con f .pat 18 ∧ Con f .bra 22 ∧ Con f .pie 28 ∧ Con f .ato 32 := by
  intro f
  induction f using Nat.strongRecOn with
  | _ f ih =>
    cases f with
    | zero =>
      refine ⟨?_, ?_, ?_, ?_⟩ <;> (intro B s o p c ns ps nv pv w h hin hs ho hf; exact absurd hf (Nat.not_lt_zero _))
    | succ f =>
      exact ⟨pattern_any f fun k hk => (ih k (by omega)).2.1, branch_any f fun k hk => (ih k (by omega)).2.2.1, piece_any f (ih f (by omega)).2.2.2, atom_any f (ih f (by omega)).1⟩
end Go.Proofs.Ytbmoanhdpnaocaa
