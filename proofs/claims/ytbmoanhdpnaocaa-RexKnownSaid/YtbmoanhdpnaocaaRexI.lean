/- atom. -/
import Derived.Test.YtbmoanhdpnaocaaRexH
namespace Go.Proofs.Ytbmoanhdpnaocaa
open Go.RowKit Sets Tr Rx
set_option maxHeartbeats 1600000 in
theorem atom_any (f : Nat) (HP : Con f .pat 18) : Con (f + 1) .ato 32 := by
  intro B s o p c ns ps nv pv w h hin hs ho hf
  have hle := hin.sz
  have hlen := hin.len
  have H := Lib.hid h
  have Ty := Lib.hid (fun w' nv (c : Nat) (hR : Row w' B s p o nv pv) => take_yes B s p o nv pv c w' hR hs)
  have Tn := Lib.hid (fun w' nv (c : Nat) (hR : Row w' B s p o nv pv) => take_no B s p o nv pv c w' hR hle)
  have hB := h.row.lt
  clear h
  by_cases h40 : pk (by' s) p = 40
  · rw [go_ato40 h40]
    have hlt := pk_lt (l := by' s) (p := p) (by omega)
    rw [by_len] at hlt
    have HG := Lib.hid (fun w' nv (hR : RdAt w' B s (p + 1) o ns ps nv pv) => group_any f HP B s o p c ns ps nv pv w' hR (hin.more (by omega) (by rw [by_len]; omega) (by simp only [Md.g]; omega)) hs ho (by simp only [Md.c] at *; omega))
    change Calls _ _ _ _ (GP B s o ps pv w (grp (by' s) f o p ns))
    generalize grp (by' s) f o p ns = r at *
    clear HP
    go_enter Try.func32, Try.ntmps32
    go_wp2_with fail
    refine (Ty.out _ nv 40 H.out.row (by decide) h40).mono ?_
    rintro e w1 ⟨rfl, hR1, hb1⟩
    have HR1 := Lib.hid (H.out.but hR1 hb1)
    have HB1 := Lib.hid (hb1.belowW H.out.row)
    clear hR1 hb1
    go_wp2_with fail
    refine (HG.out _ nv HR1.out).mono ?_
    intro e w2 hL
    cases r with
    | bad lg q =>
      obtain ⟨rfl, hb⟩ := hL
      exact ⟨rfl, rfl, HB1.out.trans hb⟩
    | ok n q ns' =>
      obtain ⟨rfl, hR, hb⟩ := hL
      have HR := Lib.hid hR
      clear hR
      go_wp2_with fail
      go_ret
      exact ⟨rfl, HR.out, HB1.out.trans hb⟩
  clear HP
  by_cases h91 : pk (by' s) p = 91
  · rw [go_ato91 h40 h91]
    have hlt := pk_lt (l := by' s) (p := p) (by omega)
    rw [by_len] at hlt
    have HC := Lib.hid (fun w' nv (hR : Row w' B s (p + 1) o nv pv) => class_any B s (p + 1) o nv pv w' hR (by omega) hs)
    cases hc : cls (by' s) (p + 1) with
    | bad q =>
      rw [hc] at HC
      clear hc
      go_enter Try.func32, Try.ntmps32
      go_wp2_with fail
      refine (Tn.out _ nv 40 H.out.row h40).mono ?_
      rintro e w1 ⟨rfl, hR1, hb1⟩
      have HR1 := Lib.hid (H.out.but hR1 hb1)
      have HB1 := Lib.hid (hb1.belowW H.out.row)
      clear hR1 hb1
      go_wp2_with fail
      refine (Ty.out _ nv 91 HR1.out.row (by decide) h91).mono ?_
      rintro e w2 ⟨rfl, hR2, hb2⟩
      have HR2 := Lib.hid (HR1.out.but hR2 hb2)
      have HB2 := Lib.hid (HB1.out.trans (hb2.belowW HR1.out.row))
      clear hR2 hb2
      go_wp2_with fail
      refine (HC.out _ nv HR2.out.row).mono ?_
      rintro e w3 ⟨rfl, hb3⟩
      exact ⟨rfl, rfl, HB2.out.trans (hb3.belowW HR2.out.row)⟩
    | ok S q =>
      rw [hc] at HC
      clear hc
      go_enter Try.func32, Try.ntmps32
      go_wp2_with fail
      refine (Tn.out _ nv 40 H.out.row h40).mono ?_
      rintro e w1 ⟨rfl, hR1, hb1⟩
      have HR1 := Lib.hid (H.out.but hR1 hb1)
      have HB1 := Lib.hid (hb1.belowW H.out.row)
      clear hR1 hb1
      go_wp2_with fail
      refine (Ty.out _ nv 91 HR1.out.row (by decide) h91).mono ?_
      rintro e w2 ⟨rfl, hR2, hb2⟩
      have HR2 := Lib.hid (HR1.out.but hR2 hb2)
      have HB2 := Lib.hid (HB1.out.trans (hb2.belowW HR1.out.row))
      clear hR2 hb2
      go_wp2_with fail
      refine (HC.out _ nv HR2.out.row).mono ?_
      rintro e w3 ⟨rfl, hR3, hb3⟩
      have HR3 := Lib.hid (HR2.out.but hR3 hb3)
      have HB3 := Lib.hid (HB2.out.trans (hb3.belowW HR2.out.row))
      clear hR3 hb3
      unfold setV
      go_wp2_with fail
      refine (addSet_any B s q o ns ps nv pv S _ HR3.out hlen).mono ?_
      rintro e w4 ⟨rfl, hR4, hb4⟩
      have HR4 := Lib.hid hR4
      clear hR4
      go_wp2_with fail
      go_ret
      exact ⟨rfl, HR4.out, HB3.out.trans hb4⟩
  by_cases h46 : pk (by' s) p = 46
  · rw [go_ato46 h40 h91 h46]
    go_enter Try.func32, Try.ntmps32
    go_wp2_with fail
    refine (Tn.out _ nv 40 H.out.row h40).mono ?_
    rintro e w1 ⟨rfl, hR1, hb1⟩
    have HR1 := Lib.hid (H.out.but hR1 hb1)
    have HB1 := Lib.hid (hb1.belowW H.out.row)
    clear hR1 hb1
    go_wp2_with fail
    refine (Tn.out _ nv 91 HR1.out.row h91).mono ?_
    rintro e w2 ⟨rfl, hR2, hb2⟩
    have HR2 := Lib.hid (HR1.out.but hR2 hb2)
    have HB2 := Lib.hid (HB1.out.trans (hb2.belowW HR1.out.row))
    clear hR2 hb2
    go_wp2_with fail
    refine (Ty.out _ nv 46 HR2.out.row (by decide) h46).mono ?_
    rintro e w3 ⟨rfl, hR3, hb3⟩
    have HR3 := Lib.hid (HR2.out.but hR3 hb3)
    have HB3 := Lib.hid (HB2.out.trans (hb3.belowW HR2.out.row))
    clear hR3 hb3
    go_wp2_with fail
    refine (all_any _).mono ?_
    rintro e w4 ⟨rfl, hb4⟩
    have HR4 := Lib.hid (HR3.out.below hb4)
    have HB4 := Lib.hid (HB3.out.trans (hb4.mono (by have := HR3.out.row.lt; omega)))
    clear hb4
    go_wp2_with fail
    refine (addSet_any B s (p + 1) o ns ps nv pv full _ HR4.out hlen).mono ?_
    rintro e w5 ⟨rfl, hR5, hb5⟩
    have HR5 := Lib.hid hR5
    clear hR5
    go_wp2_with fail
    go_ret
    exact ⟨rfl, HR5.out, HB4.out.trans hb5⟩
  · rw [go_atoS h40 h91 h46]
    have HC := Lib.hid (fun w' nv (hR : Row w' B s p o nv pv) => single_any B s p o nv pv sMarks marks w' hR hle hs hasMarks (fun _ => marks_lt))
    cases hc : single (by' s) marks p with
    | bad q =>
      rw [hc] at HC
      clear hc
      unfold sMarks at HC
      go_enter Try.func32, Try.ntmps32
      go_wp2_with fail
      refine (Tn.out _ nv 40 H.out.row h40).mono ?_
      rintro e w1 ⟨rfl, hR1, hb1⟩
      have HR1 := Lib.hid (H.out.but hR1 hb1)
      have HB1 := Lib.hid (hb1.belowW H.out.row)
      clear hR1 hb1
      go_wp2_with fail
      refine (Tn.out _ nv 91 HR1.out.row h91).mono ?_
      rintro e w2 ⟨rfl, hR2, hb2⟩
      have HR2 := Lib.hid (HR1.out.but hR2 hb2)
      have HB2 := Lib.hid (HB1.out.trans (hb2.belowW HR1.out.row))
      clear hR2 hb2
      go_wp2_with fail
      refine (Tn.out _ nv 46 HR2.out.row h46).mono ?_
      rintro e w3 ⟨rfl, hR3, hb3⟩
      have HR3 := Lib.hid (HR2.out.but hR3 hb3)
      have HB3 := Lib.hid (HB2.out.trans (hb3.belowW HR2.out.row))
      clear hR3 hb3
      go_wp2_with fail
      refine (HC.out _ nv HR3.out.row).mono ?_
      rintro e w4 ⟨rfl, hb4⟩
      exact ⟨rfl, rfl, HB3.out.trans (hb4.belowW HR3.out.row)⟩
    | ok a q =>
      rw [hc] at HC
      have ha := (single_ok (fun _ => marks_lt) (by_lt s) hc).1
      clear hc
      unfold sMarks at HC
      go_enter Try.func32, Try.ntmps32
      go_wp2_with fail
      refine (Tn.out _ nv 40 H.out.row h40).mono ?_
      rintro e w1 ⟨rfl, hR1, hb1⟩
      have HR1 := Lib.hid (H.out.but hR1 hb1)
      have HB1 := Lib.hid (hb1.belowW H.out.row)
      clear hR1 hb1
      go_wp2_with fail
      refine (Tn.out _ nv 91 HR1.out.row h91).mono ?_
      rintro e w2 ⟨rfl, hR2, hb2⟩
      have HR2 := Lib.hid (HR1.out.but hR2 hb2)
      have HB2 := Lib.hid (HB1.out.trans (hb2.belowW HR1.out.row))
      clear hR2 hb2
      go_wp2_with fail
      refine (Tn.out _ nv 46 HR2.out.row h46).mono ?_
      rintro e w3 ⟨rfl, hR3, hb3⟩
      have HR3 := Lib.hid (HR2.out.but hR3 hb3)
      have HB3 := Lib.hid (HB2.out.trans (hb3.belowW HR2.out.row))
      clear hR3 hb3
      go_wp2_with fail
      refine (HC.out _ nv HR3.out.row).mono ?_
      rintro e w4 ⟨rfl, hR4, hb4⟩
      have hal := (Below.refl w4.heap.size w4).alloc (Nat.le_refl _) (.cells #[.int .u8 (a : Int)] 5)
      have HR4 := Lib.hid ((HR3.out.but hR4 hb4).below hal)
      have HB4 := Lib.hid ((HB3.out.trans (hb4.belowW HR3.out.row)).trans (hal.mono (by have := hR4.lt; omega)))
      clear hR4 hb4 hal
      unfold u8V
      go_wp2_with fail
      refine (of_one _ a ha).mono ?_
      rintro e w5 ⟨rfl, hb5⟩
      have hb5 : Below (w4.alloc (.cells #[.int .u8 a] 5)).heap.size (w4.alloc (.cells #[.int .u8 a] 5)) w5 := by simpa using hb5
      have HR5 := Lib.hid (HR4.out.below hb5)
      have HB5 := Lib.hid (HB4.out.trans (hb5.mono (by have := HR4.out.row.lt; omega)))
      clear hb5
      unfold setV
      go_wp2_with fail
      refine (addSet_any B s q o ns ps nv pv (2 ^ a) _ HR5.out hlen).mono ?_
      rintro e w6 ⟨rfl, hR6, hb6⟩
      have HR6 := Lib.hid hR6
      clear hR6
      go_wp2_with fail
      go_ret
      exact ⟨rfl, HR6.out, HB5.out.trans hb6⟩
end Go.Proofs.Ytbmoanhdpnaocaa
