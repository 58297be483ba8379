/- Several texts in one. -/
import Derived.Test.YtghbgfkkdknmnaaDoorPqB6
import Derived.Test.YtghbgfkkdknmnaaDoorPqL3
import Derived.Test.YtghbgfkkdknmnaaDoorPqO1
namespace Go.Proofs.YtghbgfkkdknmnaaDoor
open Sets Nf Fs
namespace Ft
/-- Having read i bytes, behind p: what is behind is a run of the whole text. -/
def Wk (m : Mc) (ws : List Nat) (i : Nat) (p : Option Nat) : Prop := ∃ P : List Nat, P.length = i ∧ (∃ r, Rn m p (ws.drop i) r) ∧ ∀ r, Rn m p (ws.drop i) r → Rn m none ws (P ++ r)
theorem Wk.start {m : Mc} {ws l : List Nat} (h : Rn m none ws l) : Wk m ws 0 none := ⟨[], rfl, ⟨l, h⟩, fun _ h => h⟩
theorem Wk.some {m : Mc} {ws : List Nat} {i : Nat} {p : Option Nat} (h : Wk m ws i p) (hi : i < ws.length) : ∃ k, Nx m p k ∧ (stN m k).testBit (ws.getD i 0) = true ∧ Gs m k (ws.drop (i + 1)) := by
  obtain ⟨P, -, ⟨r, hr⟩, -⟩ := h
  rw [Fs.drop_cons hi] at hr
  cases hr with
  | read h1 h2 h3 => exact ⟨_, h1, h2, gs_iff.2 ⟨_, h3⟩⟩
theorem Wk.next {m : Mc} {ws : List Nat} {i : Nat} {p : Option Nat} (h : Wk m ws i p) (hi : i < ws.length) {k : Nat} (h1 : Nx m p k) (h2 : (stN m k).testBit (ws.getD i 0) = true) (h3 : Gs m k (ws.drop (i + 1))) :
    Wk m ws (i + 1) (Option.some k) ∧ (Sv m → ∀ R, Lr m none ws R → tgN m k = tgN m (R.getD i 0)) := by
  obtain ⟨P, hP, -, hc⟩ := h
  rw [Fs.drop_cons hi] at hc
  obtain ⟨r, hr⟩ := gs_iff.1 h3
  refine ⟨⟨P ++ [k], by rw [List.length_append, hP]; rfl, ⟨r, hr⟩, fun r' hr' => ?_⟩, fun hs R hR => ?_⟩
  · have := hc (k :: r') (.read h1 h2 hr')
    simpa using this
  · have h4 := hs.all hR (hc (k :: r) (.read h1 h2 hr))
    have hlen : i < R.length := by rw [hR.len]; exact hi
    have h5 := congrArg (fun l => l[i]?) h4
    unfold mkR at h5
    simp only [List.map_append, List.map_cons] at h5
    rw [List.getElem?_append_right (by rw [List.length_map, hP]; exact Nat.le_refl _), List.length_map, hP, Nat.sub_self, List.getElem?_cons_zero, List.getElem?_map, List.getElem?_eq_getElem hlen] at h5
    simp only [Option.map_some, Option.some.injEq] at h5
    rw [h5, List.getD_eq_getElem?_getD, List.getElem?_eq_getElem hlen]; rfl
/-- What the first n of Step's list leave. -/
structure Gd (m : Mc) (v : List Nat) (may G : List Int) (n : Nat) : Prop where
  len : G.length ≤ n
  sub : ∀ x ∈ G, x ∈ may ∧ Gs m x.toNat v
  all : ∀ i, i < n → Gs m (may.getD i 0).toNat v → may.getD i 0 ∈ G
theorem Gd.start (m : Mc) (v : List Nat) (may : List Int) : Gd m v may [] 0 := ⟨Nat.le_refl _, fun x hx => (by cases hx), fun i hi => absurd hi (Nat.not_lt_zero _)⟩
theorem Gd.yes {m : Mc} {v : List Nat} {may G : List Int} {n : Nat} (h : Gd m v may G n) (hn : n < may.length) (hg : Gs m (may.getD n 0).toNat v) : Gd m v may (G ++ [may.getD n 0]) (n + 1) := by
  refine ⟨by rw [List.length_append]; have := h.len; simp; omega, fun x hx => ?_, fun i hi hh => ?_⟩
  · rcases List.mem_append.1 hx with hx | hx
    · exact h.sub x hx
    · rw [List.mem_singleton] at hx
      rw [hx]
      exact ⟨getD_mem hn, hg⟩
  · rcases Nat.lt_or_ge i n with h2 | h2
    · exact List.mem_append_left _ (h.all i h2 hh)
    · obtain rfl : i = n := by omega
      simp
theorem Gd.no {m : Mc} {v : List Nat} {may G : List Int} {n : Nat} (h : Gd m v may G n) (hg : ¬ Gs m (may.getD n 0).toNat v) : Gd m v may G (n + 1) := by
  refine ⟨by have := h.len; omega, h.sub, fun i hi hh => ?_⟩
  rcases Nat.lt_or_ge i n with h2 | h2
  · exact h.all i h2 hh
  · obtain rfl : i = n := by omega
    exact absurd hh hg
/-- All of Step's list was gone through: something is left, and all that is left goes on. -/
theorem Gd.done {m : Mc} (hr : Rt m) {ws : List Nat} {i : Nat} {p : Option Nat} {start : Bool} (hs : start = true ↔ p = none) (hw : Wk m ws i p) (hi : i < ws.length) {may G : List Int} (hm : may = stepL m (atO p) start (ws.getD i 0) m.sp.length)
    (h : Gd m (ws.drop (i + 1)) may G may.length) : G ≠ [] ∧ ∀ x ∈ G, ∃ k : Nat, x = k ∧ k < m.sp.length ∧ Wk m ws (i + 1) (Option.some k) ∧ (Sv m → ∀ R, Lr m none ws R → tgN m k = tgN m (R.getD i 0)) := by
  refine ⟨?_, fun x hx => ?_⟩
  · obtain ⟨k, h1, h2, h3⟩ := hw.some hi
    have hin := next_in hr hs h1 h2
    rw [← hm] at hin
    obtain ⟨j, hj, he⟩ := List.mem_iff_getElem.1 hin
    have hg : may.getD j 0 = (k : Int) := by rw [List.getD_eq_getElem?_getD, List.getElem?_eq_getElem hj]; exact he
    have := h.all j hj (by rw [hg]; simpa using h3)
    intro e
    rw [e] at this; cases this
  · obtain ⟨h1, h2⟩ := h.sub x hx
    rw [hm] at h1
    obtain ⟨k, rfl, hk, hp⟩ := (stepL_mem m _ _ _ _ x).1 h1
    obtain ⟨g1, g2⟩ := (step_nx hr p start hs _ k).1 hp
    have h3 := hw.next hi g1 g2 (by simpa using h2)
    exact ⟨k, rfl, hk, h3.1, h3.2⟩
end Ft
end Go.Proofs.YtghbgfkkdknmnaaDoor
namespace Go.Proofs.YtghbgfkkdknmnaaDoor
open Go.RowKit Sets Nf Fs
namespace Ft
set_option maxHeartbeats 6400000 in
set_option maxRecDepth 100000 in
theorem fall_any (x : Ma) (m : Mc) (s : ByteArray) (vb : Value) (cl : List Nat) (w : World) (h : UnM w x m) (hq : BytesAt w vb cl) (hT : Tab w) :
    Calls Tryd.prog 6 #[.agg (mc x m), .string s, vb] w fun e w' => e = .returned (.bool true) ∧ Below w.heap.size w w' := by
  have HG : Hid (0 < w.heap.size) := Lib.hid (World.block_lt_of_cell? _ _ (hT 0 (by decide)))
  have HU := Lib.hid h
  have HT := Lib.hid hT
  obtain ⟨ca, cc, rfl, HCL, HCH⟩ : ∃ ca cc, vb = .slice ca cl.length cc ∧ Hid (∀ y ∈ cl, y < 256) ∧ Hid (∀ W, Below w.heap.size w W → ∀ i, i < cl.length → ∃ b o, ca = some ⟨b, o, none⟩ ∧ W.cell? ⟨b, o + i, none⟩ = some (.int .u8 (cl.getD i 0 : Nat))) := by
    obtain ⟨h1, -, ca, cc, hv, hc⟩ := hq
    exact ⟨ca, cc, hv, Lib.hid h1, Lib.hid (fun W hW i hi => by
      obtain ⟨b, o, e, h⟩ := hc i hi
      exact ⟨b, o, e, (hW.cell (World.block_lt_of_cell? _ _ h)).trans h⟩)⟩
  clear h hT
  go_enter Tryd.func6, Tryd.ntmps6
  go_upto_region 1 with fail
  have HX := Lib.hid (BoxM.new w x m)
  have HB := Lib.hid ((Below.refl w.heap.size w).alloc (Nat.le_refl _) (.cells (mc x m) 27))
  generalize w.alloc (.cells (mc x m) 27) = w1 at *
  have HM1 := Lib.hid (HU.out.1.kept HB.out)
  have HR := Lib.hid (small14_any x m w1 HM1.out.fo)
  have HAW := Lib.hid (fun w' (h : Below w.heap.size w w') => awake14_any w' (HT.out.below h HG.out))
  have HMW := Lib.hid (fun w' (h : Below w.heap.size w w') => HU.out.1.kept (w' := w') h)
  have HTW := Lib.hid (fun w' (h : Below w.heap.size w w') => HT.out.below (w' := w') h HG.out)
  generalize hBq : w.heap.size = B at *
  have HBq := Lib.hid hBq
  clear hBq
  have HBX := Lib.hid HX.out.lt
  have HSZ : Hid (∀ w', Below B w w' → B ≤ w'.heap.size) := Lib.hid (fun w' h => by rw [← HBq.out]; exact h.size)
  cases hgr : big20 m with
  | true =>
    rw [hgr] at HR
    clear hgr
    go_wp2_with (first
      | (refine wpList_load_mach rfl (.tmp 3) rfl B x m rfl HX.out ?_)
      | (go_at_call 16; refine HR.out.mono ?_; rintro e w2 ⟨rfl, hb2⟩; have HB2 := Lib.hid (HB.out.trans (hb2.mono (Nat.le_of_lt HBX.out))); clear hb2; have HA2 := Lib.hid (HAW.out w2 HB2.out))
      | (go_at_call 10; refine HA2.out.mono ?_; rintro e w3 ⟨rfl, hb3⟩; have HB3 := Lib.hid (HB2.out.trans (hb3.mono (HSZ.out _ HB2.out))); clear hb3))
    go_ret
    exact ⟨rfl, by rw [HBq.out]; exact HB3.out⟩
  | false =>
    rw [hgr] at HR
    have HF := Lib.hid (small14_fine HU.out hgr).1
    have HF20 : Hid (m.sp.length ≤ 100) := Lib.hid (Nat.le_trans (small14_fine HU.out hgr).2 (by decide))
    clear hgr
    by_cases hs : 40 < s.size
    · have hd : decide ((40 : Int) < (s.size : Int)) = true := decide_eq_true (by omega)
      have hd' : decide (40 < s.size) = true := decide_eq_true hs
      clear hs
      go_wp2_with (first
        | (refine wpList_load_mach rfl (.tmp 3) rfl B x m rfl HX.out ?_)
        | (go_at_call 16; refine HR.out.mono ?_; rintro e w2 ⟨rfl, hb2⟩; have HB2 := Lib.hid (HB.out.trans (hb2.mono (Nat.le_of_lt HBX.out))); clear hb2; have HA2 := Lib.hid (HAW.out w2 HB2.out))
        | (go_at_call 10; refine HA2.out.mono ?_; rintro e w3 ⟨rfl, hb3⟩; have HB3 := Lib.hid (HB2.out.trans (hb3.mono (HSZ.out _ HB2.out))); clear hb3))
      go_ret
      exact ⟨rfl, by rw [HBq.out]; exact HB3.out⟩
    · have hd : decide ((40 : Int) < (s.size : Int)) = false := decide_eq_false (by omega)
      have hd' : decide (40 < s.size) = false := decide_eq_false hs
      have HS : Hid (s.size ≤ 1000) := Lib.hid (by omega)
      clear hs
      go_upto_region 3 with (first
        | (refine wpList_load_mach rfl (.tmp 3) rfl B x m rfl HX.out ?_)
        | (go_at_call 16; refine HR.out.mono ?_; rintro e w2 ⟨rfl, hb2⟩; have HX2 := Lib.hid (HX.out.kept hb2 HBX.out); have HB2 := Lib.hid (HB.out.trans (hb2.mono (Nat.le_of_lt HBX.out))); clear hb2))
      by_cases hsv : Sv m
      · have HSV := Lib.hid hsv
        have HRT := Lib.hid hsv.right
        have HS2 : Hid (Calls Tryd.prog 17 #[.agg (mc x m)] w2 fun e w' => e = .returned (.bool true) ∧ Below w2.heap.size w2 w') := Lib.hid ((fsingle_any x m w2 (HMW.out _ HB2.out) HF.out HF20.out (HTW.out _ HB2.out)).mono (by
          rintro e w' ⟨b, rfl, hb, hbe⟩
          have : b = true := hb.2 HSV.out
          subst this
          exact ⟨rfl, hbe⟩))
        clear hsv
        go_upto_region 5 with (first
          | (refine wpList_load_mach rfl (.tmp 3) rfl B x m rfl HX2.out ?_)
          | (go_at_call 17; refine HS2.out.mono ?_; rintro e w3 ⟨rfl, hb⟩; have HB3 := Lib.hid (HB2.out.trans (hb.mono (HSZ.out _ HB2.out))); have HX3 := Lib.hid (bxStay HX2.out hb); clear hb))
        have HM3 := Lib.hid (fmarks_any x m s w3 (HMW.out _ HB3.out) HF.out HS.out (HTW.out _ HB3.out))
        unfold MEnd at HM3
        obtain ⟨tk, htk⟩ : ∃ tk, Hid (takesM m (Nf.bs s) = tk) := ⟨_, Lib.hid rfl⟩
        rw [htk.out] at HM3
        go_upto_region 6 with (first
          | (refine wpList_load_mach rfl (.tmp 3) rfl B x m rfl HX3.out ?_)
          | (go_at_call 11; refine HM3.out.mono ?_; rintro e w4 ⟨v, L, rfl, hy, h1, h2, hb⟩; have HY := Lib.hid hy; have H1 := Lib.hid h1; have H2 := Lib.hid h2; have HB4 := Lib.hid (HB3.out.trans (hb.mono (HSZ.out _ HB3.out))); have HX4 := Lib.hid (bxStay HX3.out hb); clear hy h1 h2 hb))
        have HRN := Lib.hid (nrun_any x m s w4 (HMW.out _ HB4.out) HF.out HS.out (HTW.out _ HB4.out))
        rw [htk.out] at HRN
        obtain ⟨va, vc, hv, HLC⟩ : ∃ va vc, v = .slice va L.length vc ∧ Hid (∀ W, Below w4.heap.size w4 W → ∀ i, i < L.length → ∃ b o, va = some ⟨b, o, none⟩ ∧ W.cell? ⟨b, o + i, none⟩ = some (.int .u8 (L.getD i 0 : Nat))) := by
          obtain ⟨-, -, va, vc, hv, hc⟩ := HY.out
          exact ⟨va, vc, hv, Lib.hid (fun W hW i hi => by
            obtain ⟨b, o, e, h⟩ := hc i hi
            exact ⟨b, o, e, (hW.cell (World.block_lt_of_cell? _ _ h)).trans h⟩)⟩
        subst hv
        clear HM3 HX3 HB3 HS2 HX2 HB2 HR HY
        cases tk with
        | false =>
          have hL : L = [] := H1.out rfl
          subst hL
          go_wp2_with (first
            | (refine wpList_load_machG rfl (.tmp 3) rfl B x m rfl HX4.out ?_)
            | (go_at_call 20; refine HRN.out.mono ?_; rintro e w5 ⟨rfl, hb⟩; have HB5 := Lib.hid (HB4.out.trans (hb.mono (HSZ.out _ HB4.out))); clear hb; have HA5 := Lib.hid (HAW.out w5 HB5.out)))
          go_loopw [10] (fun i wr => i = .int .i64 0 ∧ w5 = wr) (fun _ _ => 0)
          case atStart => exact ⟨rfl, rfl⟩
          case round =>
            obtain ⟨rfl, rfl⟩ := hrel
            obtain ⟨b0, hb0⟩ : ∃ b0, decide (0 < s.size) = b0 := ⟨_, rfl⟩
            have hb1 : decide ((0 : Int) < (s.size : Int)) = b0 := by rw [← hb0, decide_eq_decide]; omega
            cases b0
            all_goals
              go_wp2_with (go_at_call 10; refine HA5.out.mono ?_; rintro e w6 ⟨rfl, hb⟩; have HB6 := Lib.hid (HB5.out.trans (hb.mono (HSZ.out _ HB5.out))); clear hb)
              go_ret
              exact ⟨rfl, by rw [HBq.out]; exact HB6.out⟩
        | true =>
          obtain ⟨l0, hl0⟩ := tk_runs.1 ((takes_iff m _).1 htk.out).2
          obtain ⟨R, hR⟩ := lr_ex hl0
          have HRR := Lib.hid hR
          have HLE : Hid (L = mkR m R) := Lib.hid (H2.out rfl R hR)
          have HLN : Hid (L.length = s.size) := Lib.hid (by
            rw [HLE.out, ← Nf.bs_len, ← hR.len]
            unfold mkR
            rw [List.length_map])
          have HRL : Hid (R.length = s.size) := Lib.hid (by rw [hR.len, Nf.bs_len])
          have HW0 := Lib.hid (Wk.start hl0)
          have HBL := Lib.hid (Nf.bs_lt s)
          clear hl0 hR H1 H2
          rw [HLN.out]
          go_wp2_with (first
            | (refine wpList_load_machG rfl (.tmp 3) rfl B x m rfl HX4.out ?_)
            | (go_at_call 20; refine HRN.out.mono ?_; rintro e w5 ⟨rfl, hb⟩; have HB5 := Lib.hid (HB4.out.trans (hb.mono (HSZ.out _ HB4.out))); have HX5 := Lib.hid (bxStay HX4.out hb); have HK5 := Lib.hid hb; clear hb))
          have HKE : Hid (∀ W, Below w5.heap.size w5 W → BoxM W B x m ∧ MAt W x m ∧ Below B w W ∧ (∀ i, i < s.size → ∃ b o, va = some ⟨b, o, none⟩ ∧ W.cell? ⟨b, o + i, none⟩ = some (.int .u8 (L.getD i 0 : Nat)))) := Lib.hid (fun W hW => by
            have h1 := HB5.out.trans (hW.mono (HSZ.out _ HB5.out))
            exact ⟨HX5.out.kept hW HX5.out.lt, HMW.out _ h1, h1, fun i hi => HLC.out W (HK5.out.trans (hW.mono HK5.out.size)) i (by rw [HLN.out]; exact hi)⟩)
          obtain ⟨E, hE⟩ : ∃ E, Hid (w5.heap.size = E) := ⟨_, Lib.hid rfl⟩
          rw [hE.out] at HKE
          clear HX4 HX5 HB4 HK5 HLC HRN
          go_loopw [9, 10] (fun av i wr => ∃ (j : Nat) (a : Option Addr) (cap : Nat) (p : Option Nat), av = .slice a (atO p).length cap ∧ i = .int .i64 j ∧ j ≤ s.size ∧ Hid (NumsIn wr a (atO p)) ∧ Hid (((j : Int) == 0) = true ↔ p = none) ∧ Hid (∀ q, p = some q → q < m.sp.length) ∧ Hid (Wk m (Nf.bs s) j p) ∧ Hid (Below E w5 wr)) (fun _ i _ => ((s.size : Int) - intOf i).toNat)
          case atStart => exact ⟨0, none, 0, none, rfl, rfl, Nat.zero_le _, Lib.hid (fun i hi => absurd hi (Nat.not_lt_zero _)), Lib.hid ⟨fun _ => rfl, fun _ => rfl⟩, Lib.hid (fun q hq => by cases hq), HW0, Lib.hid (Below.refl _ _)⟩
          case round =>
            obtain ⟨j, a, cap, p, rfl, rfl, hj, HN, HP, HPL, HWK, HBE⟩ := hrel
            generalize hwr : wr = w6 at *
            clear hwr wr HW0
            by_cases hlt : j < s.size
            · have hdd : decide ((j : Int) < (s.size : Int)) = true := decide_eq_true (by omega)
              have hd2 : decide (j < s.size) = true := decide_eq_true hlt
              have hji : (j : Int) < (s.size : Int) := by omega
              have hix := index_bs s j _ rfl hlt
              have HW1 : Hid (wrap64 ((j : Int) + 1) = ((j + 1 : Nat) : Int)) := Lib.hid (nat_wrap (by have := HS.out; omega))
              have HJ := Lib.hid hlt
              have HJ2 : Hid (j < (Nf.bs s).length) := Lib.hid (by rw [Nf.bs_len]; exact hlt)
              have HCC : Hid ((Nf.bs s).getD j 0 < 256) := Lib.hid (HBL.out _ (getD_mem HJ2.out))
              have HK6 := Lib.hid (HKE.out _ HBE.out)
              have HBX6 := Lib.hid HK6.out.1.lt
              have HSP := Lib.hid (rstep_any x m w6.drew (HK6.out.2.1.kept ((Below.refl _ _).drew)) HF.out a cap (atO p) (HN.out.kept ((Below.refl _ _).drew)) (by cases p <;> simp [atO]) (fun i hi => by
                cases p with
                | none => cases hi
                | some q =>
                  have e : i = ((q : Nat) : Int) := by simpa [atO] using hi
                  have h1 := HPL.out q rfl
                  have h2 := HRT.out.fol
                  omega) ((j : Int) == 0) ((Nf.bs s).getD j 0) HCC.out)
              obtain ⟨may, hmay⟩ : ∃ may, Hid (stepL m (atO p) ((j : Int) == 0) ((Nf.bs s).getD j 0) m.sp.length = may) := ⟨_, Lib.hid rfl⟩
              have HGD : Hid (∀ G, Gd m ((Nf.bs s).drop (j + 1)) may G may.length → G ≠ [] ∧ ∀ x ∈ G, ∃ k : Nat, x = k ∧ k < m.sp.length ∧ Wk m (Nf.bs s) (j + 1) (some k) ∧ (Sv m → ∀ R, Lr m none (Nf.bs s) R → tgN m k = tgN m (R.getD j 0))) := Lib.hid (fun G h => Gd.done HRT.out HP.out HWK.out HJ2.out hmay.out.symm h)
              have HML : Hid (may.length ≤ 1000 ∧ ∀ x ∈ may, ∃ k : Nat, x = k ∧ k < m.sp.length) := Lib.hid ⟨by
                rw [← hmay.out]
                have := stepL_len m (atO p) ((j : Int) == 0) ((Nf.bs s).getD j 0) m.sp.length
                have := HRT.out.many
                omega, fun y hy => by
                rw [← hmay.out] at hy
                obtain ⟨k, h1, h2, -⟩ := (stepL_mem m _ _ _ _ y).1 hy
                exact ⟨k, h1, h2⟩⟩
              rw [hmay.out] at HSP
              generalize (Nf.bs s).getD j 0 = c at *
              clear hmay HPL hlt
              go_upto_region 12 with fail
              refine region_mix [(false, 0), (false, 1), (false, 2), (false, 3), (false, 4), (false, 5), (false, 6), (true, 7)] (fun w' => Below w6.heap.size w6 w') (by kernel_rfl) (by kernel_rfl) ((Below.refl _ _).drew) ?_
              simp only [planOps, List.map_cons, List.map_nil, List.getD_cons_zero, List.getD_cons_succ, List.length_cons, List.length_nil, List.drop_succ_cons, List.drop_zero]
              refine mix_seg (seg := [_, _, _, _, _, _, _]) (rest := [_]) rfl ((Below.refl _ _).drew) ?_
              intro ι hι F hF
              have f2 := Lib.hid (fun n => HK6.out.1.kept (hF n) HBX6.out)
              refine BigFrame.wpQuiet_want rfl (fun K hK => ?_); refine quiet_load_mach _ rfl B x m rfl (fun w' ⟨n, e⟩ => e ▸ f2.out n) ?_; refine hK _ ?_; clear hK K; simp only [Act.put, List.setIfInBounds_toArray, List.set_cons_zero, List.set_cons_succ]
              iterate 6 (go_big_quiet_step (fail))
              refine wpQuiet_nil ?_
              clear f2 hF hι F
              refine mix_eff (fun K hK => ?_)
              go_wp2_with (go_at_call 21; refine HSP.out.mono ?_; rintro e w8 ⟨v8, rfl, ho8, hb8⟩; have HO8 := Lib.hid ho8; have HB8 := Lib.hid (((Below.refl _ _).drew).trans hb8); clear ho8 hb8)
              refine mix_on hK HB8.out ?_
              clear hK K HSP
              show wpList _ _ _ _ _ _
              go_wp2_with fail
              refine NoPanic.normal ?_
              rw [World.size_drew] at HO8
              obtain ⟨a8, c8, rfl, hn8⟩ := HO8.out.nums
              have HN8 := Lib.hid hn8
              have HSE : Hid (E ≤ w6.heap.size) := Lib.hid (by rw [← hE.out]; exact HBE.out.size)
              have HBE8 := Lib.hid (HBE.out.trans (HB8.out.mono HSE.out))
              clear hn8 HO8 HN HBE HK6 HBX6
              have HSZ9 : Hid ((s.extract (j + 1) s.size).size ≤ 1000) := Lib.hid (by rw [← Nf.bs_len, bs_from, List.length_drop, Nf.bs_len]; have := HS.out; omega)
              have HBF := Lib.hid (bs_from s (j + 1))
              obtain ⟨F, hF⟩ : ∃ F, Hid (w8.heap.size = F) := ⟨_, Lib.hid rfl⟩
              have HEF : Hid (E ≤ F) := Lib.hid (by rw [← hF.out]; exact Nat.le_trans HSE.out HB8.out.size)
              have HNF : Hid (∀ W, Below F w8 W → NumsIn W a8 may) := Lib.hid (fun W hW => HN8.out.kept (by rw [hF.out]; exact hW))
              have HKF : Hid (∀ W, Below F w8 W → BoxM W B x m ∧ MAt W x m ∧ Below B w W ∧ (∀ i, i < s.size → ∃ b o, va = some ⟨b, o, none⟩ ∧ W.cell? ⟨b, o + i, none⟩ = some (.int .u8 (L.getD i 0 : Nat))) ∧ Below E w5 W) := Lib.hid (fun W hW => by
                have h1 := HBE8.out.trans (hW.mono HEF.out)
                obtain ⟨k1, k2, k3, k4⟩ := HKE.out W h1
                exact ⟨k1, k2, k3, k4, h1⟩)
              clear HN8 HSE HBE8 HB8
              generalize hv : (Nf.bs s).drop (j + 1) = v at *
              have HV := Lib.hid hv
              clear hv
              go_upto_region 15 with fail
              go_loopw [12, 13] (fun gv i wr => ∃ (n : Nat) (G : List Int), i = .int .i64 n ∧ n ≤ may.length ∧ Hid (OwnN F wr gv G) ∧ Hid (Gd m v may G n) ∧ Hid (Below F w8 wr)) (fun _ i _ => ((may.length : Int) - intOf i).toNat)
              case atStart => exact ⟨0, [], rfl, Nat.zero_le _, Lib.hid (OwnN.nil _ _), Lib.hid (Gd.start _ _ _), Lib.hid (Below.refl _ _)⟩
              case round =>
                rename_i gv i wr hrel
                obtain ⟨n, G, rfl, hn, HO, HGG, HBF8⟩ := hrel
                generalize hwr : wr = w9 at *
                clear hwr wr
                by_cases hnl : n < may.length
                · have hd4 : decide ((n : Int) < (may.length : Int)) = true := decide_eq_true (by omega)
                  have hd5 : decide (n < may.length) = true := decide_eq_true hnl
                  obtain ⟨k, hk1, hk2⟩ := HML.out.2 _ (getD_mem (d := 0) hnl)
                  have HKL := Lib.hid hk2
                  have HK9 := Lib.hid (HKF.out w9 HBF8.out)
                  have HBX9 := Lib.hid HK9.out.1.lt
                  obtain ⟨b2, o2, rfl, hc3⟩ := HNF.out w9 HBF8.out n hnl
                  have hc4 := hc3
                  rw [hk1] at hc4
                  have HKE1 := Lib.hid hk1
                  have HW3 : Hid (wrap64 ((n : Int) + 1) = ((n + 1 : Nat) : Int)) := Lib.hid (nat_wrap (by have h1 := HML.out.1; omega))
                  have HNL := Lib.hid hnl
                  have hnl2 : (n : Int) < (may.length : Int) := by omega
                  have HSF : Hid (F ≤ w9.heap.size) := Lib.hid (by rw [← hF.out]; exact HBF8.out.size)
                  clear hk1 hk2 hc3 hnl
                  have HEN := Lib.hid (goes14_any x m k (s.extract (j + 1) s.size) w9.drew (HK9.out.2.1.kept ((Below.refl _ _).drew)) HF.out HRT.out HKL.out HSZ9.out)
                  rw [HBF.out] at HEN
                  have HB2L := Lib.hid (World.block_lt_of_cell? _ _ hc4)
                  have HC4 := Lib.hid hc4
                  clear hc4
                  have hw1 := HW1.out
                  have hjs : ((j + 1 : Nat) : Int) ≤ (s.size : Int) := by have := HJ.out; omega
                  have hjs2 : decide (((j + 1 : Nat) : Int) ≤ (s.size : Int)) = true := decide_eq_true hjs
                  obtain ⟨ga, gc, hgv, -⟩ := own_slice HO.out
                  subst hgv
                  go_upto_region 17 with fail
                  refine region_mix [(false, 0), (false, 1), (false, 2), (false, 3), (false, 4), (false, 5), (false, 6), (false, 7), (false, 8)] (fun w' => Below w9.heap.size w9 w') (by kernel_rfl) (by kernel_rfl) ((Below.refl _ _).drew) ?_
                  simp only [planOps, List.map_cons, List.map_nil, List.getD_cons_zero, List.getD_cons_succ, List.length_cons, List.length_nil, List.drop_succ_cons, List.drop_zero]
                  refine mix_seg (seg := [_, _, _, _, _, _, _, _, _]) (rest := []) rfl ((Below.refl _ _).drew) ?_
                  intro ι hι F2 hF2
                  have f2 := Lib.hid (fun n => HK9.out.1.kept (hF2 n) HBX9.out)
                  have f3 := fun n' => ((hF2 n').cell (p := ⟨b2, o2 + n, none⟩) HB2L.out).trans HC4.out
                  refine BigFrame.wpQuiet_want rfl (fun K hK => ?_); refine quiet_load_mach _ rfl B x m rfl (fun w' ⟨n, e⟩ => e ▸ f2.out n) ?_; refine hK _ ?_; clear hK K; simp only [Act.put, List.setIfInBounds_toArray, List.set_cons_zero, List.set_cons_succ]
                  repeat (go_big_quiet_step (fail))
                  refine wpQuiet_nil ?_
                  clear f2 f3 hF2 hι F2
                  show wpList _ _ _ _ _ _
                  go_wp2_with (go_at_call 22; refine HEN.out.mono ?_; rintro e w10 ⟨⟨bb, rfl, hbb⟩, hb10⟩; have HBB := Lib.hid hbb; have HB10 := Lib.hid (((Below.refl w9.heap.size w9).drew).trans (hb10.mono (by simp))); clear hb10 hbb)
                  refine NoPanic.normal ?_
                  clear HEN
                  have hc5 : w10.cell? ⟨b2, o2 + n, none⟩ = some (.int .i64 k) := (HB10.out.cell HB2L.out).trans HC4.out
                  have HO10 : Hid (OwnN F w10 (.slice ga G.length gc) G) := Lib.hid (own_stay HO.out HB10.out)
                  have HBW10 := Lib.hid (HBF8.out.trans (HB10.out.mono HSF.out))
                  have HSF10 : Hid (F ≤ w10.heap.size) := Lib.hid (Nat.le_trans HSF.out HB10.out.size)
                  have HGL : Hid (G.length ≤ 100000) := Lib.hid (by have h1 := HGG.out.len; have h2 := HML.out.1; omega)
                  clear HO HB10 HBF8 HSF HC4 HK9 HBX9 HNF
                  cases bb with
                  | true =>
                    have hg := HBB.out.1 rfl
                    have hG2 := HGG.out.yes HNL.out (by rw [HKE1.out]; simpa using hg)
                    rw [HKE1.out] at hG2
                    have HG2 := Lib.hid hG2
                    clear HBB HGG hg hG2
                    go_wp2_with (refine wpList_pushN rfl (.tmp 91) (.tmp 96) rfl F _ G k rfl HO10.out rfl HGL.out HSF10.out ?_; intro v' w11 ho hb _; have HO11 := Lib.hid ho; have HB11 := Lib.hid hb; clear ho hb)
                    go_roundw
                    case rel => exact ⟨n + 1, G ++ [(k : Int)], by rw [HW3.out], HNL.out, HO11, HG2, Lib.hid (HBW10.out.trans HB11.out)⟩
                    case measure => rw [HW3.out]; have := HNL.out; simp only [intOf]; omega
                  | false =>
                    have HG2 := Lib.hid (HGG.out.no (by rw [HKE1.out]; intro e; have := HBB.out.2 (by simpa using e); cases this))
                    clear HBB HGG
                    go_wp2_with fail
                    go_roundw
                    case rel => exact ⟨n + 1, G, by rw [HW3.out], HNL.out, HO10, HG2, HBW10⟩
                    case measure => rw [HW3.out]; have := HNL.out; simp only [intOf]; omega
                · have hd4 : decide ((n : Int) < (may.length : Int)) = false := decide_eq_false (by omega)
                  have hd5 : decide (n < may.length) = false := decide_eq_false hnl
                  have hGG := HGG.out
                  rw [show n = may.length by omega] at hGG
                  obtain ⟨hGN, hGA⟩ := HGD.out G hGG
                  have HGA := Lib.hid hGA
                  obtain ⟨N, hN⟩ : ∃ N, Hid (G.length = N) := ⟨_, Lib.hid rfl⟩
                  have HN0 : Hid (0 < N) := Lib.hid (by rw [← hN.out]; exact List.length_pos_iff.2 hGN)
                  have HN1 : Hid (N ≤ 1000) := Lib.hid (by rw [← hN.out]; have h1 := HGG.out.len; have h2 := HML.out.1; omega)
                  have HK9 := Lib.hid (HKF.out w9 HBF8.out)
                  have HSF : Hid (F ≤ w9.heap.size) := Lib.hid (by rw [← hF.out]; exact HBF8.out.size)
                  have hn0 : ((N : Int) == 0) = false := by have := HN0.out; simp; omega
                  have hn1 : (N : Int) ≠ 0 := by have := HN0.out; omega
                  obtain ⟨ga, gc, rfl, hgc⟩ := OwnN.nums HO.out
                  rw [hN.out]
                  clear hGG hGN hGA HGG HGD HO

                  have hgc2 := Lib.hid hgc
                  by_cases hjc : j < cl.length
                  · have hd8 : decide ((j : Int) < (cl.length : Int)) = true := decide_eq_true (by omega)
                    have hd9 : decide (j < cl.length) = true := decide_eq_true hjc
                    have hjc2 : (j : Int) < (cl.length : Int) := by omega
                    obtain ⟨bc, oc, rfl, hcc⟩ := HCH.out w9 HK9.out.2.2.1 j hjc
                    have HTY := Lib.hid (HCL.out _ (getD_mem (d := 0) hjc))
                    generalize cl.getD j 0 = y at *
                    obtain ⟨r, hr⟩ : ∃ r, Hid (y % N = r) := ⟨_, Lib.hid rfl⟩
                    have HIX : Hid (r < N) := Lib.hid (by rw [← hr.out]; exact Nat.mod_lt _ HN0.out)
                    have hrm : (wrap64 (y : Int)).tmod (N : Int) = (r : Int) := by
                      have h1 : wrap64 (y : Int) = (y : Int) := by have := HTY.out; unfold wrap64; omega
                      rw [h1, Int.tmod_eq_emod_of_nonneg (by omega), ← hr.out]
                      exact (Int.natCast_emod y N).symm
                    have hrn : (r : Int) < (N : Int) := by have := HIX.out; omega
                    obtain ⟨bg, og, rfl, hcg⟩ := hgc r (by rw [hN.out]; exact HIX.out)
                    obtain ⟨k, hk, HKL, HWK2, HTG⟩ := HGA.out _ (getD_mem (d := 0) (by rw [hN.out]; exact HIX.out : r < G.length))
                    have HKL := Lib.hid HKL
                    have HWK2 := Lib.hid HWK2
                    have HTG := Lib.hid HTG
                    rw [hk] at hcg
                    clear hgc hk
                    obtain ⟨bl, ol, rfl, hcl⟩ := HK9.out.2.2.2.1 j HJ.out
                    rw [HLE.out, mk_get m R j (by rw [HRL.out]; exact HJ.out), ← HTG.out HSV.out R HRR.out] at hcl
                    have c0 := HK9.out.1.c0
                    obtain ⟨sb, so, hsa, hsr⟩ := HK9.out.2.1.sp k HKL.out
                    rw [hsa] at c0
                    have ctg : w9.cell? ⟨sb, so + k * 5 + 4, none⟩ = some (.int .u8 (tgN m k : Nat)) := hsr 4 _ rfl
                    clear hsr
                    have HC0 := Lib.hid c0
                    have HCT := Lib.hid ctg
                    have HCL2 := Lib.hid hcl
                    clear c0 ctg hcl
                    have hcg2 := Lib.hid hcg
                    have HBA := Lib.hid (HBF8.out.alloc HSF.out (.cells #[.int .i64 k] 3))
                    have HA0 := Lib.hid ((Below.refl w9.heap.size w9).alloc (Nat.le_refl _) (.cells #[.int .i64 k] 3))
                    have HO1 : Hid (OwnN w9.heap.size (w9.alloc (.cells #[.int .i64 k] 3)) (.slice (some ⟨w9.heap.size, 0, none⟩) 1 1) [(k : Int)]) := Lib.hid (World.ownsRow_lit w9 _ 1 (Nat.le_refl _) (by decide) rfl)
                    go_upto_region 25 with fail
                    have hc0 : (w9.alloc (.cells #[.int .i64 k] 3)).cell? ⟨B, 0, none⟩ = some (.slice (some ⟨sb, so, none⟩) m.sp.length x.sc) := (HA0.out.cell (World.block_lt_of_cell? _ _ HC0.out)).trans HC0.out
                    have hct : (w9.alloc (.cells #[.int .i64 k] 3)).cell? ⟨sb, so + k * 5 + 4, none⟩ = some (.int .u8 (tgN m k : Nat)) := (HA0.out.cell (World.block_lt_of_cell? _ _ HCT.out)).trans HCT.out
                    have hcl : (w9.alloc (.cells #[.int .i64 k] 3)).cell? ⟨bl, ol + j, none⟩ = some (.int .u8 (tgN m k : Nat)) := (HA0.out.cell (World.block_lt_of_cell? _ _ HCL2.out)).trans HCL2.out
                    have hcg3 : (w9.alloc (.cells #[.int .i64 k] 3)).cell? ⟨bg, og + r, none⟩ = some (.int .i64 k) := (HA0.out.cell (World.block_lt_of_cell? _ _ hcg2.out)).trans hcg2.out
                    generalize hw9 : w9.alloc (.cells #[.int .i64 k] 3) = w10 at *
                    clear hw9 hcg HC0 HCT HCL2 hcg2 HA0
                    have hkl : (k : Int) < (m.sp.length : Int) := by have := HKL.out; omega
                    refine region_mix [(false, 0), (false, 1), (false, 2), (false, 3), (false, 4), (false, 5), (false, 6), (false, 7), (false, 8), (false, 9), (false, 10), (false, 11), (false, 12)] (fun w' => w' = w10.drew) (by kernel_rfl) (by kernel_rfl) rfl ?_
                    simp only [planOps, List.map_cons, List.map_nil, List.getD_cons_zero, List.getD_cons_succ, List.length_cons, List.length_nil, List.drop_succ_cons, List.drop_zero]
                    refine mix_seg (seg := [_, _, _, _, _, _, _, _, _, _, _, _, _]) (rest := []) rfl rfl ?_
                    intro ι hι F2 hF2
                    have f0 : ∀ n, (F2 n).cell? ⟨B, 0, none⟩ = some (.slice (some ⟨sb, so, none⟩) m.sp.length x.sc) := fun n => by rw [hF2 n]; exact hc0
                    have f1 : ∀ n, (F2 n).cell? ⟨sb, so + k * 5 + 4, none⟩ = some (.int .u8 (tgN m k : Nat)) := fun n => by rw [hF2 n]; exact hct
                    have f2 : ∀ n, (F2 n).cell? ⟨bl, ol + j, none⟩ = some (.int .u8 (tgN m k : Nat)) := fun n => by rw [hF2 n]; exact hcl
                    have f3 : ∀ n, (F2 n).cell? ⟨bg, og + r, none⟩ = some (.int .i64 k) := fun n => by rw [hF2 n]; exact hcg3
                    repeat (go_big_quiet_step (fail))
                    refine wpQuiet_nil ?_
                    clear f0 f1 f2 f3 hF2 hι F2 hc0 hct hcl hcg3
                    show wpList _ _ _ _ _ _
                    have hne : (((tgN m k : Nat) : Int) != ((tgN m k : Nat) : Int)) = false := by simp
                    go_wp2_with fail
                    refine NoPanic.normal ?_
                    clear hne
                    have HNA : Hid (NumsIn w10.drew (some ⟨w9.heap.size, 0, none⟩) [(k : Int)]) := Lib.hid (by
                      obtain ⟨a9, c9, e, h9⟩ := HO1.out.nums
                      injection e with e1
                      subst e1
                      exact h9.kept ((Below.refl _ _).drew))
                    have HBX := Lib.hid ((HKF.out w10 HBA.out).2.2.2.2.drew)
                    go_wp2_with fail
                    go_roundw
                    case rel => exact ⟨j + 1, _, 1, some k, rfl, by rw [HW1.out], HJ.out, HNA, Lib.hid ⟨fun h => absurd h (by simp; omega), fun h => (by cases h)⟩, Lib.hid (fun q hq => by injection hq with hq; rw [← hq]; exact HKL.out), HWK2, HBX⟩
                    case measure => rw [HW1.out]; have := HJ.out; simp only [intOf]; omega
                  · have hd8 : decide ((j : Int) < (cl.length : Int)) = false := decide_eq_false (by omega)
                    have hd9 : decide (j < cl.length) = false := decide_eq_false hjc
                    have HIX : Hid (0 < N) := HN0
                    have hrn : (0 : Int) < (N : Int) := by have := HIX.out; omega
                    obtain ⟨bg, og, rfl, hcg⟩ := hgc 0 (by rw [hN.out]; exact HIX.out)
                    obtain ⟨k, hk, HKL, HWK2, HTG⟩ := HGA.out _ (getD_mem (d := 0) (by rw [hN.out]; exact HIX.out : 0 < G.length))
                    have HKL := Lib.hid HKL
                    have HWK2 := Lib.hid HWK2
                    have HTG := Lib.hid HTG
                    rw [hk] at hcg
                    rw [Nat.add_zero] at hcg
                    clear hgc hk
                    obtain ⟨bl, ol, rfl, hcl⟩ := HK9.out.2.2.2.1 j HJ.out
                    rw [HLE.out, mk_get m R j (by rw [HRL.out]; exact HJ.out), ← HTG.out HSV.out R HRR.out] at hcl
                    have c0 := HK9.out.1.c0
                    obtain ⟨sb, so, hsa, hsr⟩ := HK9.out.2.1.sp k HKL.out
                    rw [hsa] at c0
                    have ctg : w9.cell? ⟨sb, so + k * 5 + 4, none⟩ = some (.int .u8 (tgN m k : Nat)) := hsr 4 _ rfl
                    clear hsr
                    have HC0 := Lib.hid c0
                    have HCT := Lib.hid ctg
                    have HCL2 := Lib.hid hcl
                    clear c0 ctg hcl
                    have hcg2 := Lib.hid hcg
                    have HBA := Lib.hid (HBF8.out.alloc HSF.out (.cells #[.int .i64 k] 3))
                    have HA0 := Lib.hid ((Below.refl w9.heap.size w9).alloc (Nat.le_refl _) (.cells #[.int .i64 k] 3))
                    have HO1 : Hid (OwnN w9.heap.size (w9.alloc (.cells #[.int .i64 k] 3)) (.slice (some ⟨w9.heap.size, 0, none⟩) 1 1) [(k : Int)]) := Lib.hid (World.ownsRow_lit w9 _ 1 (Nat.le_refl _) (by decide) rfl)
                    go_upto_region 25 with fail
                    have hc0 : (w9.alloc (.cells #[.int .i64 k] 3)).cell? ⟨B, 0, none⟩ = some (.slice (some ⟨sb, so, none⟩) m.sp.length x.sc) := (HA0.out.cell (World.block_lt_of_cell? _ _ HC0.out)).trans HC0.out
                    have hct : (w9.alloc (.cells #[.int .i64 k] 3)).cell? ⟨sb, so + k * 5 + 4, none⟩ = some (.int .u8 (tgN m k : Nat)) := (HA0.out.cell (World.block_lt_of_cell? _ _ HCT.out)).trans HCT.out
                    have hcl : (w9.alloc (.cells #[.int .i64 k] 3)).cell? ⟨bl, ol + j, none⟩ = some (.int .u8 (tgN m k : Nat)) := (HA0.out.cell (World.block_lt_of_cell? _ _ HCL2.out)).trans HCL2.out
                    have hcg3 : (w9.alloc (.cells #[.int .i64 k] 3)).cell? ⟨bg, og, none⟩ = some (.int .i64 k) := (HA0.out.cell (World.block_lt_of_cell? _ _ hcg2.out)).trans hcg2.out
                    generalize hw9 : w9.alloc (.cells #[.int .i64 k] 3) = w10 at *
                    clear hw9 hcg HC0 HCT HCL2 hcg2 HA0
                    have hkl : (k : Int) < (m.sp.length : Int) := by have := HKL.out; omega
                    refine region_mix [(false, 0), (false, 1), (false, 2), (false, 3), (false, 4), (false, 5), (false, 6), (false, 7), (false, 8), (false, 9), (false, 10), (false, 11), (false, 12)] (fun w' => w' = w10.drew) (by kernel_rfl) (by kernel_rfl) rfl ?_
                    simp only [planOps, List.map_cons, List.map_nil, List.getD_cons_zero, List.getD_cons_succ, List.length_cons, List.length_nil, List.drop_succ_cons, List.drop_zero]
                    refine mix_seg (seg := [_, _, _, _, _, _, _, _, _, _, _, _, _]) (rest := []) rfl rfl ?_
                    intro ι hι F2 hF2
                    have f0 : ∀ n, (F2 n).cell? ⟨B, 0, none⟩ = some (.slice (some ⟨sb, so, none⟩) m.sp.length x.sc) := fun n => by rw [hF2 n]; exact hc0
                    have f1 : ∀ n, (F2 n).cell? ⟨sb, so + k * 5 + 4, none⟩ = some (.int .u8 (tgN m k : Nat)) := fun n => by rw [hF2 n]; exact hct
                    have f2 : ∀ n, (F2 n).cell? ⟨bl, ol + j, none⟩ = some (.int .u8 (tgN m k : Nat)) := fun n => by rw [hF2 n]; exact hcl
                    have f3 : ∀ n, (F2 n).cell? ⟨bg, og, none⟩ = some (.int .i64 k) := fun n => by rw [hF2 n]; exact hcg3
                    repeat (go_big_quiet_step (fail))
                    refine wpQuiet_nil ?_
                    clear f0 f1 f2 f3 hF2 hι F2 hc0 hct hcl hcg3
                    show wpList _ _ _ _ _ _
                    have hne : (((tgN m k : Nat) : Int) != ((tgN m k : Nat) : Int)) = false := by simp
                    go_wp2_with fail
                    refine NoPanic.normal ?_
                    clear hne
                    have HNA : Hid (NumsIn w10.drew (some ⟨w9.heap.size, 0, none⟩) [(k : Int)]) := Lib.hid (by
                      obtain ⟨a9, c9, e, h9⟩ := HO1.out.nums
                      injection e with e1
                      subst e1
                      exact h9.kept ((Below.refl _ _).drew))
                    have HBX := Lib.hid ((HKF.out w10 HBA.out).2.2.2.2.drew)
                    go_wp2_with fail
                    go_roundw
                    case rel => exact ⟨j + 1, _, 1, some k, rfl, by rw [HW1.out], HJ.out, HNA, Lib.hid ⟨fun h => absurd h (by simp; omega), fun h => (by cases h)⟩, Lib.hid (fun q hq => by injection hq with hq; rw [← hq]; exact HKL.out), HWK2, HBX⟩
                    case measure => rw [HW1.out]; have := HJ.out; simp only [intOf]; omega
            · have hdd : decide ((j : Int) < (s.size : Int)) = false := decide_eq_false (by omega)
              have hd2 : decide (j < s.size) = false := decide_eq_false hlt
              have HA6 := Lib.hid (HAW.out w6 (HKE.out _ HBE.out).2.2.1)
              have HB6 := Lib.hid (HKE.out _ HBE.out).2.2.1
              go_wp2_with (go_at_call 10; refine HA6.out.mono ?_; rintro e w7 ⟨rfl, hb⟩; have HB7 := Lib.hid (HB6.out.trans (hb.mono (HSZ.out _ HB6.out))); clear hb)
              go_ret
              exact ⟨rfl, by rw [HBq.out]; exact HB7.out⟩
      · have HS2 : Hid (Calls Tryd.prog 17 #[.agg (mc x m)] w2 fun e w' => e = .returned (.bool false) ∧ Below w2.heap.size w2 w') := Lib.hid ((fsingle_any x m w2 (HMW.out _ HB2.out) HF.out HF20.out (HTW.out _ HB2.out)).mono (by
          rintro e w' ⟨b, rfl, hb, hbe⟩
          have : b = false := by cases b with
            | false => rfl
            | true => exact absurd (hb.1 rfl) hsv
          subst this
          exact ⟨rfl, hbe⟩))
        clear hsv
        go_wp2_with (first
          | (refine wpList_load_mach rfl (.tmp 3) rfl B x m rfl HX2.out ?_)
          | (go_at_call 17; refine HS2.out.mono ?_; rintro e w3 ⟨rfl, hb⟩; have HB3 := Lib.hid (HB2.out.trans (hb.mono (HSZ.out _ HB2.out))); clear hb; have HA3 := Lib.hid (HAW.out w3 HB3.out))
          | (go_at_call 10; refine HA3.out.mono ?_; rintro e w4 ⟨rfl, hb⟩; have HB4 := Lib.hid (HB3.out.trans (hb.mono (HSZ.out _ HB3.out))); clear hb))
        go_ret
        exact ⟨rfl, by rw [HBq.out]; exact HB4.out⟩
end Ft
end Go.Proofs.YtghbgfkkdknmnaaDoor
