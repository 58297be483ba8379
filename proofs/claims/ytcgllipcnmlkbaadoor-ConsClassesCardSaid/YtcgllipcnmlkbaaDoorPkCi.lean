/- ConsClasses. -/
import Derived.Test.YtcgllipcnmlkbaaDoorPkCc
import Derived.Test.YtcgllipcnmlkbaaDoorPkCd
import Derived.Test.YtcgllipcnmlkbaaDoorPkCh
namespace Go.Proofs.YtcgllipcnmlkbaaDoor
open Go.RowKit Sets Tr Rx Sp
open Cn Cls
theorem sts_setsL (L : List Nat) : sts L = setsL L := rfl
/-- what the sets do not tell apart lies in the same places -/
theorem same_wth {L : List Nat} {a b : Nat} (h : same L a b = true) : ∀ n, wth L a n = wth L b n
  | 0 => rfl
  | n + 1 => by
    unfold wth
    rw [same_wth h n]
    have h2 : (L.getD n 0).testBit a = (L.getD n 0).testBit b := by
      by_cases hn : n < L.length
      · unfold same at h
        rw [List.all_eq_true] at h
        rw [List.getD_eq_getElem?_getD, List.getElem?_eq_getElem hn]
        exact eq_of_beq (h _ (List.getElem_mem hn))
      · rw [List.getD_eq_getElem?_getD, List.getElem?_eq_none (by omega)]; simp
    rw [h2]
theorem zero_next {m : Sp.Md} (c : Nat) : nextM m 0 c = 0 := by
  have h : ∀ n, selOr 0 m.f n = 0 := by
    intro n
    induction n with
    | zero => rfl
    | succ n ih => unfold selOr; simp [ih]
  unfold nextM candM
  rw [if_neg (by decide), h]
  simp
set_option maxHeartbeats 12800000 in
set_option maxRecDepth 100000 in
theorem cclass_any (s : ByteArray) (k1 k2 k3 : Int) (w : World) (hT : Tab w) (h1 : 0 ≤ k1 ∧ k1 ≤ 18446744073709551615) (h2 : 0 ≤ k2 ∧ k2 ≤ 255) (h3 : 0 ≤ k3 ∧ k3 ≤ 255) :
    Calls Tryd.prog 8 #[.string s, .int .u64 k1, .int .u8 k2, .int .u8 k3] w fun e w' => e = .returned (.bool true) ∧ Below w.heap.size w w' := by
  obtain ⟨q, rfl⟩ := Int.eq_ofNat_of_zero_le h1.1
  obtain ⟨a, rfl⟩ := Int.eq_ofNat_of_zero_le h2.1
  obtain ⟨b, rfl⟩ := Int.eq_ofNat_of_zero_le h3.1
  have HQ : Hid (q < 2 ^ 64) := Lib.hid (by omega)
  have ha : a < 256 := by omega
  have hb : b < 256 := by omega
  have HA := Lib.hid ha
  have HBB := Lib.hid hb
  clear h1 h2 h3
  have HT := Lib.hid hT
  have HG := Lib.hid (tab_lt hT)
  have HR := Lib.hid (read_any s w hT)
  clear hT
  have hz := zeroP
  go_enter Tryd.func8, Tryd.ntmps8
  by_cases hs : 200 < s.size
  · have hd : decide ((200 : Int) < (s.size : Int)) = true := decide_eq_true (by omega)
    have hd' : decide (200 < s.size) = true := decide_eq_true (by omega)
    go_wp2_with fail
    refine (awake9_any w HT.out).mono ?_
    rintro e w1 ⟨rfl, hb⟩
    have HB := Lib.hid hb
    clear hb
    go_wp2_with fail
    go_ret
    exact ⟨rfl, HB.out⟩
  have hd : decide ((200 : Int) < (s.size : Int)) = false := decide_eq_false (by omega)
  have hd' : decide (200 < s.size) = false := decide_eq_false (by omega)
  clear hs
  go_wp2_with fail
  refine HR.out.mono ?_
  clear HR
  rintro e w1 ⟨hB, hE⟩
  have HB1 := Lib.hid hB
  clear hB
  cases hc : cons (by' s) with
  | bad lg p =>
    rw [hc] at hE
    subst hE
    have HT1 := Lib.hid (HT.out.below HB1.out HG.out)
    clear hc
    have h8 : (((if lg = true then 3 else 8 : Int)) != 0) = true := by cases lg <;> rfl
    generalize (if lg = true then 3 else 8 : Int) = er at *
    go_wp2_with fail
    refine (awake9_any w1 HT1.out).mono ?_
    rintro e w2 ⟨rfl, hb⟩
    have HB2 := Lib.hid (HB1.out.trans (hb.mono HB1.out.size))
    clear hb
    go_wp2_with fail
    go_ret
    exact ⟨rfl, HB2.out⟩
  | ok x N R =>
    rw [hc] at hE
    obtain ⟨C, rfl, hC⟩ := hE
    have HF := Lib.hid (fit_cons hc).1
    have HC := Lib.hid hC
    clear hc hC hd hd'
    generalize Sp.md (parts N R) = m at *
    go_wp2_with fail
    refine (csets_any C m w1 HC.out HF.out).mono ?_
    rintro e w2 ⟨v', rfl, ho, hb2⟩
    have HSI := Lib.hid (owns_setsIn (L := m.s) ho (by have := HF.out.s; unfold maxLen; omega))
    have HB2 := Lib.hid (HB1.out.trans (hb2.mono HB1.out.size))
    have HC2 := Lib.hid (HC.out.kept hb2)
    clear ho hb2 HB1 HC
    go_wp2_with fail
    refine (Refine_any _ m.s w2 HSI.out (by have := HF.out.s; omega)).mono ?_
    rintro e w3 ⟨rfl, hb3⟩
    have HB3 := Lib.hid (HB2.out.trans (hb3.mono HB2.out.size))
    have HC3 := Lib.hid (HC2.out.kept hb3)
    clear hb3 HB2 HC2 HSI
    have hP1 : PartAt (w3.alloc (.cells (partC (fun _ => 0) 0) 63)) w3.heap.size (fun _ => 0) 0 := PartAt.new w3 _ _
    have hP2 := PartAt.new w3 (cls (same m.s)) (nh (same m.s) 256 : Nat)
    have hsr := World.setRow_alloc_new w3 (partC (fun _ => 0) 0) (partC (cls (same m.s)) (nh (same m.s) 256 : Nat)) 63
    have hal := (Below.refl w3.heap.size w3).alloc (Nat.le_refl _) (.cells (partC (cls (same m.s)) (nh (same m.s) 256 : Nat)) 63)
    have HB4 := Lib.hid (HB3.out.trans (hal.mono HB3.out.size))
    have HC4 := Lib.hid (HC3.out.kept hal)
    have HP4 := Lib.hid hP2
    clear hal hP2 HB3 HC3
    go_wp2_with (refine wpList_store_row rfl 63 _ _ rfl w3.heap.size (partC (cls (same m.s)) (nh (same m.s) 256 : Nat)) rfl rfl 63 (partC (fun _ => 0) 0) hP1 (sizeP _ _) (by rw [partC_size, partC_size]) (partC_one _ _) ?_; rw [hsr])
    clear hP1 hsr
    generalize w3.alloc (.cells (partC (cls (same m.s)) (nh (same m.s) 256 : Nat)) 63) = w4 at *
    generalize w3.heap.size = D at *
    clear w3
    refine (next_any C q a m w4 HC4.out HF.out HQ.out HA.out).mono ?_
    rintro e w5 ⟨rfl, hb5⟩
    have HB5 := Lib.hid (HB4.out.trans (hb5.mono HB4.out.size))
    have HC5 := Lib.hid (HC4.out.kept hb5)
    have HP5 := Lib.hid (HP4.out.kept hb5 HP4.out.lt)
    clear hb5 HB4 HC4 HP4
    go_wp2_with fail
    refine (next_any C q b m w5 HC5.out HF.out HQ.out HBB.out).mono ?_
    rintro e w6 ⟨rfl, hb6⟩
    have HB6 := Lib.hid (HB5.out.trans (hb6.mono HB5.out.size))
    have HC6 := Lib.hid (HC5.out.kept hb6)
    have HP6 := Lib.hid (HP5.out.kept hb6 HP5.out.lt)
    clear hb6 HB5 HC5 HP5
    have HEQ : Hid ((cls (same m.s) a = cls (same m.s) b) → nextM m q a = nextM m q b) := Lib.hid (fun h => by
      unfold nextM
      rw [same_wth ((cls_eq (same m.s) (same_eqv m.s) a b).1 h)])
    have HLX := Lib.hid (nextM_lt m q a)
    have HX64 := Lib.hid (nextM_lt64 HF.out q a)
    have c1 := HP6.out.cell a HA.out
    have c2 := HP6.out.cell b HBB.out
    have hDl := HP6.out.lt
    generalize nextM m q a = x at *
    generalize nextM m q b = y at *
    generalize cls (same m.s) a = ca at *
    generalize cls (same m.s) b = cb at *
    have HCE : Hid (((ca : Int) == (cb : Int)) = false ∨ (((ca : Int) == (cb : Int)) = true ∧ ((x : Int) != (y : Int)) = false)) := Lib.hid (by
      by_cases h : ca = cb
      · right
        rw [HEQ.out h, h]
        simp
      · left
        rw [beq_eq_false_iff_ne]; omega)
    have HSH : Hid (x >>> m.s.length = 0) := Lib.hid (by rw [Nat.shiftRight_eq_div_pow]; exact Nat.div_eq_of_lt HLX.out)
    have HS63 := Lib.hid HF.out.s
    clear HEQ hz
    go_upto_region 9 with fail
    rcases HCE.out with hce | ⟨hce, hne⟩
    all_goals
      clear HCE
      go_quiet (fail)
      go_wp2_with fail
      refine (places_c C m _ (HC6.out.kept (below_drewN (Below.refl _ _) _))).mono ?_
      rintro e w7 ⟨rfl, rfl⟩
      clear c1 c2
      have HB7 := Lib.hid (below_drewN HB6.out nq)
      have HC7 := Lib.hid (HC6.out.kept (below_drewN (Below.refl _ _) nq))
      generalize w6.drewN nq = w7 at *
      generalize m.s.length = n at *
      have hn63 : decide ((n : Int) ≤ 63) = true := decide_eq_true (by have := HS63.out; omega)
      have hx0 : (x : Int) / 2 ^ min n 64 = 0 := by
        have h5 : x / 2 ^ n = 0 := by have := HSH.out; rw [Nat.shiftRight_eq_div_pow] at this; exact this
        rw [Nat.min_eq_left (by have := HS63.out; omega)]
        have h6 : ((x / 2 ^ n : Nat) : Int) = 0 := by rw [h5]; rfl
        rw [Int.natCast_ediv, Int.natCast_pow] at h6
        exact h6
      go_wp2_with fail
      refine (next_any C 0 a m w7 HC7.out HF.out (by decide) HA.out).mono ?_
      rintro e w8 ⟨rfl, hb8⟩
      rw [zero_next]
      have HB8 := Lib.hid (HB7.out.trans (hb8.mono HB7.out.size))
      have HT8 := Lib.hid (HT.out.below HB8.out HG.out)
      clear hb8
      go_wp2_with fail
      refine (awake9_any w8 HT8.out).mono ?_
      rintro e w9 ⟨rfl, hb9⟩
      have HB9 := Lib.hid (HB8.out.trans (hb9.mono HB8.out.size))
      clear hb9
      go_wp2_with fail
      go_ret
      exact ⟨rfl, HB9.out⟩
end Go.Proofs.YtcgllipcnmlkbaaDoor
