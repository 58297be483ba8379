/- SeekWords holds: of any automaton and any two texts the call answers true. No condition. -/
import Derived.Test.YtmjjkamndlefmaaDoorPq43
import Derived.Test.YtmjjkamndlefmaaDoorPq24
import Derived.OpenShut
import Derived.Test.YtmjjkamndlefmaaDoorPqS6
import Derived.Test.YtmjjkamndlefmaaDoorPqS9
import Derived.Test.YtmjjkamndlefmaaDoorPqS7
import Derived.Test.YtmjjkamndlefmaaDoorTie
import Derived.Test.YtmjjkamndlefmaaDoorCards
import Derived.SevenTiedAt
import Derived.Lay
import Derived.MakeChecks
import Derived.WalkKit
import Derived.ProofKit
import Derived.ShutString
namespace Go.Proofs.YtmjjkamndlefmaaDoor
open Go.ChangeShapes Go.WideShapes Go.ChangeAt Go.WideMaps Go.WideElems Go.RowKit Sets Nf Df
namespace Mi
/-- What a law knows of an automaton among its arguments. -/
structure UnD (w : World) (x : Dx) (d : Dm) : Prop where
  at' : DAt w x d
  of : ∀ c, c < 256 → d.of c < 256
  n : i64 d.n
  each : ∀ l ∈ d.R, ∀ k ∈ l, i64 k
section
variable {H : Type} {enc : TypeId × Value → H} {W : World} {base : Nat}
theorem byte_cell {n : Nat} {cs : List Value} {x : DataW H × List MemPlace} (h : DataW.trod enc Tryd.prog W base (fun _ => true) true n 5 cs = some x) : ∃ k : Nat, k < 256 ∧ cs = [.int .u8 (k : Int)] := by
  obtain ⟨n0, e0, -, w0⟩ := DataW.trod_int Tryd.underlying5 h
  simp [Lit.wf, IntKind.min, IntKind.max, IntKind.signed, IntKind.bits] at w0
  exact ⟨n0.toNat, by omega, by rw [e0, show ((n0.toNat : Nat) : Int) = n0 by omega]⟩
theorem take_one {l : List Value} {j : Nat} {v : Value} (h : List.take 1 (List.drop j l) = [v]) : l[j]? = some v := by
  have h2 : (List.take 1 (List.drop j l))[0]? = some v := by rw [h]; rfl
  simpa using h2
set_option maxRecDepth 100000 in
theorem part_cells {n : Nat} {cs : List Value} {x : DataW H × List MemPlace} (h : DataW.trod enc Tryd.prog W base (fun _ => true) true n 24 cs = some x) :
    ∃ (of : Nat → Nat) (m : Int), (∀ c, c < 256 → of c < 256) ∧ i64 m ∧ (∀ c, c < 256 → cs[c]? = some (.int .u8 (of c))) ∧ cs[256]? = some (.int .i64 m) := by
  obtain ⟨xs, m, -, -, hl, hlen, hff⟩ := DataW.trod_struct Tryd.underlying24 h
  have co : Tryd.prog.cellsOf 22 = 256 := by kernel_rfl
  have ci : Tryd.prog.cellsOf 3 = 1 := by kernel_rfl
  have c8 : Tryd.prog.cellsOf 5 = 1 := by kernel_rfl
  match xs, hlen with
  | [y0, y1], _ =>
    have h0 : DataW.trod enc Tryd.prog W base (fun _ => true) true m 22 (List.take (Tryd.prog.cellsOf 22) (List.drop 0 cs)) = some y0 := hff 0 _ rfl
    have h1 : DataW.trod enc Tryd.prog W base (fun _ => true) true m 3 (List.take (Tryd.prog.cellsOf 3) (List.drop 256 cs)) = some y1 := hff 1 _ rfl
    rw [co, List.drop_zero] at h0
    rw [ci] at h1
    obtain ⟨ys, m2, -, -, hl2, hlen2, hel⟩ := DataW.trod_array Tryd.underlying22 h0
    have hb : ∀ c, c < 256 → ∃ k : Nat, k < 256 ∧ cs[c]? = some (.int .u8 (k : Int)) := fun c hc => by
      have hE := hel c hc
      rw [c8, Nat.mul_one, List.getElem?_eq_getElem (by omega)] at hE
      obtain ⟨k, hk, e⟩ := byte_cell hE
      have h3 := take_one e
      rw [List.getElem?_take_of_lt hc] at h3
      exact ⟨k, hk, h3⟩
    obtain ⟨z, hz, e1⟩ := num_cells h1
    refine ⟨fun c => if h : c < 256 then (hb c h).choose else 0, z, fun c hc => ?_, hz, fun c hc => ?_, take_one e1⟩
    · show (if h : c < 256 then (hb c h).choose else 0) < 256
      rw [dif_pos hc]; exact (hb c hc).choose_spec.1
    · show cs[c]? = some (.int .u8 ((if h : c < 256 then (hb c h).choose else 0 : Nat) : Int))
      rw [dif_pos hc]; exact (hb c hc).choose_spec.2
set_option maxRecDepth 100000 in
theorem open_dfa {r : Reach} {b0 : Nat} {v : Value} {d : DataW H} {p : List MemPlace} (hv : Value.okWide Tryd.prog W r b0 28 v) (h : DataW.Trod enc Tryd.prog W base (fun _ => true) true 28 v d p) :
    ∃ x m, v = .agg (dvC x m) ∧ UnD W x m := by
  simp only [Value.okWide, Tryd.underlying28] at hv
  obtain ⟨cs, rfl, hsz, -⟩ := hv
  have c259 : Tryd.prog.cellsOf 28 = 259 := by kernel_rfl
  rw [c259] at hsz
  obtain ⟨l⟩ := cs
  have hl259 : l.length = 259 := by simpa using hsz
  obtain ⟨fuel, hf⟩ := h
  obtain ⟨xs, m, -, -, hl, hlen, hff⟩ := DataW.trod_struct Tryd.underlying28 hf
  have cp : Tryd.prog.cellsOf 24 = 257 := by kernel_rfl
  have co : Tryd.prog.cellsOf 25 = 1 := by kernel_rfl
  have cb : Tryd.prog.cellsOf 26 = 1 := by kernel_rfl
  match xs, hlen with
  | [y0, y1, y2], _ =>
    have h0 : DataW.trod enc Tryd.prog W base (fun _ => true) true m 24 (List.take (Tryd.prog.cellsOf 24) (List.drop 0 l)) = some y0 := hff 0 _ rfl
    have h1 : DataW.trod enc Tryd.prog W base (fun _ => true) true m 25 (List.take (Tryd.prog.cellsOf 25) (List.drop 257 l)) = some y1 := hff 1 _ rfl
    have h2 : DataW.trod enc Tryd.prog W base (fun _ => true) true m 26 (List.take (Tryd.prog.cellsOf 26) (List.drop 258 l)) = some y2 := hff 2 _ rfl
    rw [cp, List.drop_zero] at h0
    rw [co] at h1
    rw [cb] at h2
    obtain ⟨of, nn, hof, hnn, hcof, hcn⟩ := part_cells h0
    obtain ⟨O, oa, oc, e2, hO1, hO2⟩ := rows_of (α := List Int × Option Addr × Nat) (fun y => [.slice y.2.1 y.1.length y.2.2]) (fun y => (∀ X ∈ y.1, i64 X) ∧ NumsIn W y.2.1 y.1) 1 (by kernel_rfl) (by decide) (fun _ => rfl) Tryd.underlying25
      (fun n cs x hx => by
        obtain ⟨L, a, cap, e, g1, g2⟩ := nums_cells hx
        exact ⟨(L, a, cap), ⟨g1, g2⟩, e⟩) h1
    obtain ⟨La, la, lc, e3, -, hL2⟩ := rows_of (α := Bool) (fun X => [.bool X]) (fun _ => True) 1 (by kernel_rfl) (by decide) (fun _ => rfl) Tryd.underlying26 (fun n cs x hx => bool_cells hx) h2
    have c257 := take_one e2
    have c258 := take_one e3
    have hml : (O.map (·.1)).length = O.length := List.length_map _
    refine ⟨⟨oa, oc, la, lc⟩, ⟨of, nn, O.map (·.1), La⟩, ?_, ⟨⟨fun i hi => ?_, fun i hi => ?_⟩, hof, hnn, fun y hy => ?_⟩⟩
    · congr 1
      refine Array.ext_getElem? fun i => ?_
      unfold dvC
      rw [List.getElem?_toArray]
      by_cases h256 : i < 256
      · rw [dfC_get _ _ _ _ i h256]
        have h3 := hcof i h256
        rw [List.getElem?_take_of_lt (by omega)] at h3
        exact h3
      · obtain ⟨k, rfl⟩ : ∃ k, i = 256 + k := ⟨i - 256, by omega⟩
        rw [dfC_hi]
        have : k = 0 ∨ k = 1 ∨ k = 2 ∨ 3 ≤ k := by omega
        rcases this with rfl | rfl | rfl | hk
        · rw [List.getElem?_take_of_lt (by omega)] at hcn
          exact hcn
        · rw [c257]
          show _ = some (Value.slice oa (O.map (·.1)).length oc)
          rw [hml]
        · exact c258
        · rw [List.getElem?_eq_none (by omega), List.getElem?_eq_none (by simp; omega)]
    · rw [hml] at hi
      obtain ⟨b, o, ea, hr⟩ := hO2 i hi
      have hz := hr 0 _ rfl
      have hg : (O.map (·.1)).getD i [] = (O.getD i default).1 := by
        rw [List.getD_eq_getElem?_getD, List.getElem?_map, List.getD_eq_getElem?_getD, List.getElem?_eq_getElem hi]; rfl
      have hm : O.getD i default ∈ O := by rw [List.getD_eq_getElem?_getD, List.getElem?_eq_getElem hi]; exact List.getElem_mem _
      refine ⟨b, o, (O.getD i default).2.1, (O.getD i default).2.2, ea, ?_, ?_⟩
      · show W.cell? _ = some (.slice _ ((O.map (·.1)).getD i []).length _)
        rw [hg]; simpa using hz
      · show NumsIn W _ ((O.map (·.1)).getD i [])
        rw [hg]; exact (hO1 _ hm).2
    · obtain ⟨b, o, ea, hr⟩ := hL2 i hi
      refine ⟨b, o, ea, ?_⟩
      have := hr 0 _ rfl
      simpa using this
    · obtain ⟨z, hz, rfl⟩ := List.mem_map.1 hy
      exact (hO1 z hz).1
end
end Mi
end Go.Proofs.YtmjjkamndlefmaaDoor
namespace Go.Proofs.YtmjjkamndlefmaaDoor
open Go.RowKit Sets Nf Df Cls
namespace Sk
def big13 (d : Dm) : Bool := (decide (30 < d.R.length) || decide (30 < d.F.length)) || d.R.any (fun l => decide (40 < l.length))
set_option maxHeartbeats 6400000 in
set_option maxRecDepth 100000 in
theorem great13_any (x : Dx) (d : Dm) (w : World) (h : ListsIn w x.a d.R) :
    Calls Tryd.prog 9 #[.agg (dvC x d)] w fun e w' => e = .returned (.bool (big13 d)) ∧ Below w.heap.size w w' := by
  have HM := Lib.hid h
  clear h
  go_enter Tryd.func9, Tryd.ntmps9
  go_upto_region 1 with fail
  have HX := Lib.hid (BoxD.new w x d)
  have HB := Lib.hid ((Below.refl w.heap.size w).alloc (Nat.le_refl _) (.cells (dvC x d) 28))
  have HM1 : Hid (ListsIn (w.alloc (.cells (dvC x d) 28)) x.a d.R) := Lib.hid (HM.out.kept HB.out)
  have c1 := HX.out.c257
  have c2 := HX.out.c258
  generalize w.alloc (.cells (dvC x d) 28) = w1 at *
  have HG : Hid (big13 d = ((decide (30 < d.R.length) || decide (30 < d.F.length)) || d.R.any (fun l => decide (40 < l.length)))) := Lib.hid rfl
  by_cases h1 : 30 < d.R.length
  · have d1 : decide ((30 : Int) < (d.R.length : Int)) = true := decide_eq_true (by omega)
    have HR : Hid (big13 d = true) := Lib.hid (by rw [HG.out, decide_eq_true h1]; rfl)
    clear h1
    go_wp2_with fail
    go_ret
    exact ⟨by rw [HR.out]; rfl, HB.out⟩
  · have d1 : decide ((30 : Int) < (d.R.length : Int)) = false := decide_eq_false (by omega)
    by_cases h2 : 30 < d.F.length
    · have d2 : decide ((30 : Int) < (d.F.length : Int)) = true := decide_eq_true (by omega)
      have HR : Hid (big13 d = true) := Lib.hid (by rw [HG.out, decide_eq_true h2]; simp)
      clear h1 h2
      go_wp2_with fail
      go_ret
      exact ⟨by rw [HR.out]; rfl, HB.out⟩
    · have d2 : decide ((30 : Int) < (d.F.length : Int)) = false := decide_eq_false (by omega)
      have HG2 : Hid (big13 d = d.R.any (fun l => decide (40 < l.length))) := Lib.hid (by rw [HG.out, decide_eq_false h1, decide_eq_false h2]; simp)
      have HL2 : Hid (d.R.length ≤ 30) := Lib.hid (by omega)
      clear h1 h2 HG
      go_wp2_with fail
      go_loopw [3] (fun i wr => ∃ j : Nat, i = .int .i64 j ∧ j ≤ d.R.length ∧ wr = w1 ∧ Hid ((d.R.take j).any (fun l => decide (40 < l.length)) = false)) (fun i _ => ((d.R.length : Int) - intOf i).toNat)
      case atStart => exact ⟨0, rfl, Nat.zero_le _, rfl, Lib.hid (by simp)⟩
      case round =>
        obtain ⟨j, rfl, hj, rfl, HA⟩ := hrel
        by_cases hlt : j < d.R.length
        · have hdd : decide ((j : Int) < (d.R.length : Int)) = true := decide_eq_true (by omega)
          have hd2 : decide (j < d.R.length) = true := decide_eq_true hlt
          obtain ⟨b, o, a, cap, hoa, hc, -⟩ := HM1.out j hlt
          rw [hoa] at c1
          have HS := Lib.hid (Df.any_snoc (fun l => decide (40 < l.length)) d.R [] j hlt)
          have HW1 : Hid (wrap64 ((j : Int) + 1) = ((j + 1 : Nat) : Int)) := Lib.hid (nat_wrap (by have := HL2.out; omega))
          have HT : Hid (40 < (d.R.getD j []).length → big13 d = true) := Lib.hid (fun h => by
            rw [HG2.out, List.any_eq_true]
            exact ⟨_, getD_mem hlt, decide_eq_true h⟩)
          have HJ := Lib.hid hlt
          have hjm : (j : Int) < (d.R.length : Int) := by omega
          clear hlt hoa
          generalize d.R.getD j [] = l at *
          by_cases h5 : 40 < l.length
          · have d5 : decide ((40 : Int) < (l.length : Int)) = true := decide_eq_true (by omega)
            have d5' : decide (40 < l.length) = true := decide_eq_true h5
            have HR := Lib.hid (HT.out h5)
            clear h5
            go_wp2_with fail
            go_ret
            exact ⟨by rw [HR.out]; rfl, HB.out⟩
          · have d5 : decide ((40 : Int) < (l.length : Int)) = false := decide_eq_false (by omega)
            have d5' : decide (40 < l.length) = false := decide_eq_false h5
            have HA2 : Hid ((d.R.take (j + 1)).any (fun l => decide (40 < l.length)) = false) := Lib.hid (by rw [HS.out, HA.out, d5']; rfl)
            clear h5
            go_wp2_with fail
            go_roundw
            case rel => exact ⟨j + 1, by rw [HW1.out], HJ.out, by first | rfl | trivial, HA2⟩
            case measure => rw [HW1.out]; exact meas9 HJ.out
        · have hdd : decide ((j : Int) < (d.R.length : Int)) = false := decide_eq_false (by omega)
          have hd2 : decide (j < d.R.length) = false := decide_eq_false hlt
          have HR : Hid (big13 d = false) := Lib.hid (by rw [HG2.out, ← HA.out, List.take_of_length_le (by omega)])
          clear hlt
          go_wp2_with fail
          go_ret
          exact ⟨by rw [HR.out]; rfl, HB.out⟩
theorem big13_fine {w : World} {x : Dx} {d : Dm} (u : Mi.UnD w x d) (h : big13 d = false) : DFine d ∧ d.R.length ≤ 30 := by
  unfold big13 at h
  rw [Bool.or_eq_false_iff, Bool.or_eq_false_iff, decide_eq_false_iff_not, decide_eq_false_iff_not] at h
  obtain ⟨⟨h1, h2⟩, h3⟩ := h
  refine ⟨⟨by omega, by omega, fun l hl => ⟨?_, u.each l hl⟩, u.of⟩, by omega⟩
  rw [List.any_eq_false] at h3
  have := h3 l hl
  simp at this
  omega
set_option maxHeartbeats 12800000 in
set_option maxRecDepth 100000 in
theorem sleast_any (x : Dx) (d : Dm) (a : ByteArray) (w : World) (u : Mi.UnD w x d) (hT : Tab w) : Calls Tryd.prog 6 #[.agg (dvC x d), .string a] w fun e w' => e = .returned (.bool true) ∧ Below w.heap.size w w' := by
  have HG : Hid (0 < w.heap.size) := Lib.hid (World.block_lt_of_cell? _ _ (hT 0 (by decide)))
  have HU := Lib.hid u
  have HT := Lib.hid hT
  clear u hT
  go_enter Tryd.func6, Tryd.ntmps6
  go_upto_region 1 with fail
  have HX := Lib.hid (BoxD.new w x d)
  have HB := Lib.hid ((Below.refl w.heap.size w).alloc (Nat.le_refl _) (.cells (dvC x d) 28))
  obtain ⟨s, hs⟩ : ∃ s, Hid (w.heap.size = s) := ⟨_, Lib.hid rfl⟩
  rw [hs.out] at HX ⊢
  generalize w.alloc (.cells (dvC x d) 28) = w1 at *
  have HK : Hid (∀ W, Below w1.heap.size w1 W → BoxD W s x d ∧ DAt W x d ∧ Tab W ∧ Below w.heap.size w W) := Lib.hid (fun W hW => by
    have h1 := HB.out.trans (hW.mono HB.out.size)
    exact ⟨HX.out.stay hW, HU.out.at'.kept h1, HT.out.below h1 HG.out, h1⟩)
  have HAW := Lib.hid (fun W (hW : Below w1.heap.size w1 W) => awake13_any W (HK.out W hW).2.2.1)
  have HGR := Lib.hid (great13_any x d w1 (HK.out _ (Below.refl _ _)).2.1.nx)
  have HBG : Hid (big13 d = false → DFine d ∧ d.R.length ≤ 30) := Lib.hid (fun h => big13_fine HU.out h)
  clear HU HT
  cases hb : big13 d with
  | true =>
    rw [hb] at HGR
    clear hb HBG
    go_wp2_with (first
      | (refine wpList_load_row rfl 28 _ rfl s rfl 28 (dvC x d) (0, 0) _ HX.out.row Tryd.underlying28 rfl (sizeDf _ _ _ _) ?_)
      | (go_at_call 9; refine HGR.out.mono ?_; rintro e w2 ⟨rfl, hb2⟩; have HB2 := Lib.hid hb2; clear hb2)
      | (go_at_call 10; refine (HAW.out _ HB2.out).mono ?_; rintro e w3 ⟨rfl, hb3⟩; have HB3 := Lib.hid (HB2.out.trans (hb3.mono HB2.out.size)); clear hb3))
    go_ret
    exact ⟨rfl, (HK.out _ HB3.out).2.2.2⟩
  | false =>
    obtain ⟨hf, h30⟩ := HBG.out hb
    have HF := Lib.hid hf
    have H30 := Lib.hid h30
    rw [hb] at HGR
    clear hb HBG hf h30
    by_cases hl : 100 < a.size
    · have d1 : decide ((100 : Int) < (a.size : Int)) = true := decide_eq_true (by omega)
      have e1 : decide (100 < a.size) = true := decide_eq_true hl
      clear hl
      go_wp2_with (first
        | (refine wpList_load_row rfl 28 _ rfl s rfl 28 (dvC x d) (0, 0) _ HX.out.row Tryd.underlying28 rfl (sizeDf _ _ _ _) ?_)
        | (go_at_call 9; refine HGR.out.mono ?_; rintro e w2 ⟨rfl, hb2⟩; have HB2 := Lib.hid hb2; clear hb2)
        | (go_at_call 10; refine (HAW.out _ HB2.out).mono ?_; rintro e w3 ⟨rfl, hb3⟩; have HB3 := Lib.hid (HB2.out.trans (hb3.mono HB2.out.size)); clear hb3))
      go_ret
      exact ⟨rfl, (HK.out _ HB3.out).2.2.2⟩
    · have d1 : decide ((100 : Int) < (a.size : Int)) = false := decide_eq_false (by omega)
      have e1 : decide (100 < a.size) = false := decide_eq_false hl
      have HL := Lib.hid hl
      clear hl
      have HRI := Lib.hid (fun W (hW : Below w1.heap.size w1 W) => dright_any x d W (HK.out W hW).2.1 HF.out)
      cases hr : rightD d with
      | false =>
        rw [hr] at HRI
        clear hr
        go_wp2_with (first
          | (refine wpList_load_row rfl 28 _ rfl s rfl 28 (dvC x d) (0, 0) _ HX.out.row Tryd.underlying28 rfl (sizeDf _ _ _ _) ?_)
          | (go_at_call 9; refine HGR.out.mono ?_; rintro e w2 ⟨rfl, hb2⟩; have HB2 := Lib.hid hb2; clear hb2)
          | (refine BigFrame.wpList_want rfl (fun K' hK' => ?_); refine wp_load_dv _ rfl s x d rfl (HK.out _ HB2.out).1 ?_; refine hK' _ _ ?_; clear hK' K')
          | (go_at_call 14; refine (HRI.out _ HB2.out).mono ?_; rintro e w3 ⟨rfl, hb3⟩; have HB3 := Lib.hid (HB2.out.trans (hb3.mono HB2.out.size)); clear hb3)
          | (go_at_call 10; refine (HAW.out _ HB3.out).mono ?_; rintro e w4 ⟨rfl, hb4⟩; have HB4 := Lib.hid (HB3.out.trans (hb4.mono HB3.out.size)); clear hb4))
        go_ret
        exact ⟨rfl, (HK.out _ HB4.out).2.2.2⟩
      | true =>
        have HR := Lib.hid ((dright_iff d).1 hr)
        rw [hr] at HRI
        clear hr
        have HWD := Lib.hid (fun W (hW : Below w1.heap.size w1 W) => word_any x d W (HK.out W hW).2.1 HF.out (by have := H30.out; omega) (HK.out W hW).2.2.1)
        go_upto_region 4 with (first
          | (refine wpList_load_row rfl 28 _ rfl s rfl 28 (dvC x d) (0, 0) _ HX.out.row Tryd.underlying28 rfl (sizeDf _ _ _ _) ?_)
          | (go_at_call 9; refine HGR.out.mono ?_; rintro e w2 ⟨rfl, hb2⟩; have HB2 := Lib.hid hb2; clear hb2)
          | (refine BigFrame.wpList_want rfl (fun K' hK' => ?_); refine wp_load_dv _ rfl s x d rfl (HK.out _ HB2.out).1 ?_; refine hK' _ _ ?_; clear hK' K')
          | (go_at_call 14; refine (HRI.out _ HB2.out).mono ?_; rintro e w3 ⟨rfl, hb3⟩; have HB3 := Lib.hid (HB2.out.trans (hb3.mono HB2.out.size)); clear hb3)
          | (refine wpList_load_row rfl 28 _ rfl s rfl 28 (dvC x d) (0, 0) _ (HK.out _ HB3.out).1.row Tryd.underlying28 rfl (sizeDf _ _ _ _) ?_)
          | (go_at_call 13; refine (HWD.out _ HB3.out).mono ?_; rintro e w4 ⟨⟨v, ok, rfl, hw⟩, hb4⟩; have HWI := Lib.hid hw; have HB4 := Lib.hid (HB3.out.trans (hb4.mono HB3.out.size)); clear hw hb4))
        have HRU := Lib.hid (fun W (hW : Below w1.heap.size w1 W) => drun_any x d a W (HK.out W hW).2.1 HF.out (by have := HL.out; omega))
        have HBY : Hid (byt (Nf.bs a)) := Lib.hid (Nf.bs_lt a)
        clear d1 e1 HRI HWD HGR
        rcases HWI.out with ⟨rfl, -, hbest, hlen⟩ | ⟨rfl, rfl, hno⟩
        · have HRV := Lib.hid (fun W (hW : Below w1.heap.size w1 W) => drun_any x d v W (HK.out W hW).2.1 HF.out (by rw [Nf.bs_len] at hlen; have := H30.out; omega))
          have htv : takesD d (Nf.bs v) = true := by rw [takes_R HR.out]; exact hbest.takes
          rw [htv] at HRV
          have hlen' : v.size < d.R.length := by rw [Nf.bs_len] at hlen; exact hlen
          have d2 : decide ((v.size : Int) < (d.R.length : Int)) = true := decide_eq_true (by omega)
          have e2 : decide (v.size < d.R.length) = true := decide_eq_true hlen'
          have HLS := Lib.hid (fun W => less_any a v W)
          have HC := Lib.hid (fun W (hW : Below w1.heap.size w1 W) => (HK.out W hW).1.c257)
          have HTL : Hid (takesD d (Nf.bs a) = true → ls (Nf.bs a) (Nf.bs v) = false) := Lib.hid (fun ht => by
            rw [takes_R HR.out] at ht
            exact hbest.least _ HBY.out ht)
          clear hbest hlen htv hlen'
          cases hta : takesD d (Nf.bs a) with
          | true =>
            rw [hta] at HRU
            have hlv := HTL.out hta
            rw [hlv] at HLS
            clear hta hlv HTL
            go_wp2_with (first
              | (refine wpList_load_row rfl 28 _ rfl s rfl 28 (dvC x d) (0, 0) _ (HK.out _ HB4.out).1.row Tryd.underlying28 rfl (sizeDf _ _ _ _) ?_)
              | (go_at_call 26; with_reducible refine (HRV.out _ HB4.out).mono ?_; rintro e w5 ⟨rfl, hb5⟩; have HB5 := Lib.hid (HB4.out.trans (hb5.mono HB4.out.size)); have c257 := HC.out _ HB5.out; clear hb5)
              | (refine BigFrame.wpList_want rfl (fun K' hK' => ?_); refine wp_load_dv _ rfl s x d rfl (HK.out _ HB5.out).1 ?_; refine hK' _ _ ?_; clear hK' K')
              | (go_at_call 26; with_reducible refine (HRU.out _ HB5.out).mono ?_; rintro e w6 ⟨rfl, hb6⟩; have HB6 := Lib.hid (HB5.out.trans (hb6.mono HB5.out.size)); clear hb6)
              | (go_at_call 11; refine (HLS.out _).mono ?_; rintro e w7 ⟨rfl, rfl⟩)
              | (go_at_call 10; refine (HAW.out _ HB6.out).mono ?_; rintro e w8 ⟨rfl, hb8⟩; have HB8 := Lib.hid (HB6.out.trans (hb8.mono HB6.out.size)); clear hb8))
            go_ret
            exact ⟨rfl, (HK.out _ HB8.out).2.2.2⟩
          | false =>
            rw [hta] at HRU
            clear hta HTL HLS
            go_wp2_with (first
              | (refine wpList_load_row rfl 28 _ rfl s rfl 28 (dvC x d) (0, 0) _ (HK.out _ HB4.out).1.row Tryd.underlying28 rfl (sizeDf _ _ _ _) ?_)
              | (go_at_call 26; with_reducible refine (HRV.out _ HB4.out).mono ?_; rintro e w5 ⟨rfl, hb5⟩; have HB5 := Lib.hid (HB4.out.trans (hb5.mono HB4.out.size)); have c257 := HC.out _ HB5.out; clear hb5)
              | (refine BigFrame.wpList_want rfl (fun K' hK' => ?_); refine wp_load_dv _ rfl s x d rfl (HK.out _ HB5.out).1 ?_; refine hK' _ _ ?_; clear hK' K')
              | (go_at_call 26; with_reducible refine (HRU.out _ HB5.out).mono ?_; rintro e w6 ⟨rfl, hb6⟩; have HB6 := Lib.hid (HB5.out.trans (hb6.mono HB5.out.size)); clear hb6)
              | (go_at_call 10; refine (HAW.out _ HB6.out).mono ?_; rintro e w8 ⟨rfl, hb8⟩; have HB8 := Lib.hid (HB6.out.trans (hb8.mono HB6.out.size)); clear hb8))
            go_ret
            exact ⟨rfl, (HK.out _ HB8.out).2.2.2⟩
        · have hta := hno _ HBY.out
          rw [hta] at HRU
          clear hta hno
          go_wp2_with (first
            | (refine BigFrame.wpList_want rfl (fun K' hK' => ?_); refine wp_load_dv _ rfl s x d rfl (HK.out _ HB4.out).1 ?_; refine hK' _ _ ?_; clear hK' K')
            | (go_at_call 26; refine (HRU.out _ HB4.out).mono ?_; rintro e w6 ⟨rfl, hb6⟩; have HB6 := Lib.hid (HB4.out.trans (hb6.mono HB4.out.size)); clear hb6)
            | (go_at_call 10; refine (HAW.out _ HB6.out).mono ?_; rintro e w8 ⟨rfl, hb8⟩; have HB8 := Lib.hid (HB6.out.trans (hb8.mono HB6.out.size)); clear hb8))
          go_ret
          exact ⟨rfl, (HK.out _ HB8.out).2.2.2⟩
end Sk
end Go.Proofs.YtmjjkamndlefmaaDoor
namespace Go.Proofs.YtmjjkamndlefmaaDoor
open Go.RowKit Sets Nf Df Cls
namespace Sk
set_option maxHeartbeats 12800000 in
set_option maxRecDepth 100000 in
theorem swords_any (x : Dx) (d : Dm) (a b : ByteArray) (w : World) (u : Mi.UnD w x d) (hT : Tab w) : Calls Tryd.prog 3 #[.agg (dvC x d), .string a, .string b] w fun e w' => e = .returned (.bool true) ∧ Below w.heap.size w w' := by
  have HG : Hid (0 < w.heap.size) := Lib.hid (World.block_lt_of_cell? _ _ (hT 0 (by decide)))
  have HU := Lib.hid u
  have HT := Lib.hid hT
  clear u hT
  go_enter Tryd.func3, Tryd.ntmps3
  go_upto_region 1 with fail
  have HX := Lib.hid (BoxD.new w x d)
  have HB := Lib.hid ((Below.refl w.heap.size w).alloc (Nat.le_refl _) (.cells (dvC x d) 28))
  obtain ⟨s, hs⟩ : ∃ s, Hid (w.heap.size = s) := ⟨_, Lib.hid rfl⟩
  rw [hs.out] at HX ⊢
  generalize w.alloc (.cells (dvC x d) 28) = w1 at *
  have HK : Hid (∀ W, Below w1.heap.size w1 W → BoxD W s x d ∧ DAt W x d ∧ Tab W ∧ Below w.heap.size w W) := Lib.hid (fun W hW => by
    have h1 := HB.out.trans (hW.mono HB.out.size)
    exact ⟨HX.out.stay hW, HU.out.at'.kept h1, HT.out.below h1 HG.out, h1⟩)
  have HAW := Lib.hid (fun W (hW : Below w1.heap.size w1 W) => awake13_any W (HK.out W hW).2.2.1)
  have HGR := Lib.hid (great13_any x d w1 (HK.out _ (Below.refl _ _)).2.1.nx)
  have HBG : Hid (big13 d = false → DFine d ∧ d.R.length ≤ 30) := Lib.hid (fun h => big13_fine HU.out h)
  clear HU HT
  cases hb : big13 d with
  | true =>
    rw [hb] at HGR
    clear hb HBG
    go_wp2_with (first
      | (refine wpList_load_row rfl 28 _ rfl s rfl 28 (dvC x d) (0, 0) _ HX.out.row Tryd.underlying28 rfl (sizeDf _ _ _ _) ?_)
      | (go_at_call 9; refine HGR.out.mono ?_; rintro e w2 ⟨rfl, hb2⟩; have HB2 := Lib.hid hb2; clear hb2)
      | (go_at_call 10; refine (HAW.out _ HB2.out).mono ?_; rintro e w3 ⟨rfl, hb3⟩; have HB3 := Lib.hid (HB2.out.trans (hb3.mono HB2.out.size)); clear hb3))
    go_ret
    exact ⟨rfl, (HK.out _ HB3.out).2.2.2⟩
  | false =>
    obtain ⟨hf, h30⟩ := HBG.out hb
    have HF := Lib.hid hf
    have H30 := Lib.hid h30
    rw [hb] at HGR
    clear hb HBG hf h30
    by_cases hl : 300 < a.size
    · have d1 : decide ((300 : Int) < (a.size : Int)) = true := decide_eq_true (by omega)
      have e1 : decide (300 < a.size) = true := decide_eq_true hl
      clear hl
      go_wp2_with (first
        | (refine wpList_load_row rfl 28 _ rfl s rfl 28 (dvC x d) (0, 0) _ HX.out.row Tryd.underlying28 rfl (sizeDf _ _ _ _) ?_)
        | (go_at_call 9; refine HGR.out.mono ?_; rintro e w2 ⟨rfl, hb2⟩; have HB2 := Lib.hid hb2; clear hb2)
        | (go_at_call 10; refine (HAW.out _ HB2.out).mono ?_; rintro e w3 ⟨rfl, hb3⟩; have HB3 := Lib.hid (HB2.out.trans (hb3.mono HB2.out.size)); clear hb3))
      go_ret
      exact ⟨rfl, (HK.out _ HB3.out).2.2.2⟩
    · have d1 : decide ((300 : Int) < (a.size : Int)) = false := decide_eq_false (by omega)
      have e1 : decide (300 < a.size) = false := decide_eq_false hl
      have HL := Lib.hid hl
      clear hl
      by_cases hl : 300 < b.size
      · have d2 : decide ((300 : Int) < (b.size : Int)) = true := decide_eq_true (by omega)
        have e2 : decide (300 < b.size) = true := decide_eq_true hl
        clear hl
        go_wp2_with (first
          | (refine wpList_load_row rfl 28 _ rfl s rfl 28 (dvC x d) (0, 0) _ HX.out.row Tryd.underlying28 rfl (sizeDf _ _ _ _) ?_)
          | (go_at_call 9; refine HGR.out.mono ?_; rintro e w2 ⟨rfl, hb2⟩; have HB2 := Lib.hid hb2; clear hb2)
          | (go_at_call 10; refine (HAW.out _ HB2.out).mono ?_; rintro e w3 ⟨rfl, hb3⟩; have HB3 := Lib.hid (HB2.out.trans (hb3.mono HB2.out.size)); clear hb3))
        go_ret
        exact ⟨rfl, (HK.out _ HB3.out).2.2.2⟩
      · have d2 : decide ((300 : Int) < (b.size : Int)) = false := decide_eq_false (by omega)
        have e2 : decide (300 < b.size) = false := decide_eq_false hl
        clear hl
        have HLS := Lib.hid (fun W => less_any a b W)
        have HLR := Lib.hid (fun W => rless_any a b W (by have := HL.out; omega))
        have HLA := Lib.hid (fun W => less_any a a W)
        rw [ls_irr] at HLA
        generalize ls (Nf.bs a) (Nf.bs b) = lt at *
        have hne : (lt != lt) = false := by cases lt <;> rfl
        have HWD := Lib.hid (fun W (hW : Below w1.heap.size w1 W) => word_any x d W (HK.out W hW).2.1 HF.out (by have := H30.out; omega) (HK.out W hW).2.2.1)
        have HRI := Lib.hid (fun W (hW : Below w1.heap.size w1 W) => dright_any x d W (HK.out W hW).2.1 HF.out)
        have HEM := Lib.hid (fun W (hW : Below w1.heap.size w1 W) => empty_any x d W (HK.out W hW).2.1 HF.out (by have := H30.out; omega) (HK.out W hW).2.2.1)
        go_upto_region 5 with (first
          | (refine wpList_load_row rfl 28 _ rfl s rfl 28 (dvC x d) (0, 0) _ HX.out.row Tryd.underlying28 rfl (sizeDf _ _ _ _) ?_)
          | (go_at_call 9; refine HGR.out.mono ?_; rintro e w2 ⟨rfl, hb2⟩; have HB2 := Lib.hid hb2; clear hb2)
          | (go_at_call 11; with_reducible refine (HLS.out _).mono ?_; rintro e w3 ⟨rfl, rfl⟩)
          | (go_at_call 12; refine (HLR.out _).mono ?_; rintro e w4 ⟨rfl, hb4⟩; have HB4 := Lib.hid (HB2.out.trans (hb4.mono HB2.out.size)); clear hb4)
          | (go_at_call 11; with_reducible refine (HLA.out _).mono ?_; rintro e w5 ⟨rfl, rfl⟩))
        clear hne HLS HLR HLA HGR
        go_upto_region 6 with (first
          | (refine wpList_load_row rfl 28 _ rfl s rfl 28 (dvC x d) (0, 0) _ (HK.out _ HB4.out).1.row Tryd.underlying28 rfl (sizeDf _ _ _ _) ?_)
          | (go_at_call 13; refine (HWD.out _ HB4.out).mono ?_; rintro e w6 ⟨⟨v, ok, rfl, hw⟩, hb6⟩; have HWI := Lib.hid hw; have HB6 := Lib.hid (HB4.out.trans (hb6.mono HB4.out.size)); clear hw hb6))
        clear HWD
        have hvv : (v.toList == v.toList) = true := beq_self_eq_true _
        cases hr : rightD d with
        | false =>
          rw [hr] at HRI
          have hwi : ok = false ∧ v = ⟨#[]⟩ := by
            rcases HWI.out with ⟨-, h1, -⟩ | ⟨h1, h2, -⟩
            · rw [(dright_iff d).2 h1] at hr; cases hr
            · exact ⟨h1, h2⟩
          obtain ⟨rfl, rfl⟩ := hwi
          clear hr hvv
          go_wp2_with (first
            | (refine wpList_load_row rfl 28 _ rfl s rfl 28 (dvC x d) (0, 0) _ (HK.out _ HB6.out).1.row Tryd.underlying28 rfl (sizeDf _ _ _ _) ?_)
            | (go_at_call 14; refine (HRI.out _ HB6.out).mono ?_; rintro e w7 ⟨rfl, hb7⟩; have HB7 := Lib.hid (HB6.out.trans (hb7.mono HB6.out.size)); clear hb7)
            | (refine BigFrame.wpList_want rfl (fun K' hK' => ?_); refine wp_load_dv _ rfl s x d rfl (HK.out _ HB7.out).1 ?_; refine hK' _ _ ?_; clear hK' K')
            | (go_at_call 15; refine (HEM.out _ HB7.out).mono ?_; rintro e w8 ⟨⟨t3, ok3, rfl, hw⟩, hb8⟩; obtain ⟨h7, -⟩ := WordIs.one HWI.out hw; subst h7; have HB8 := Lib.hid (HB7.out.trans (hb8.mono HB7.out.size)); clear hw hb8)
            | (go_at_call 10; refine (HAW.out _ HB8.out).mono ?_; rintro e w9 ⟨rfl, hb9⟩; have HB9 := Lib.hid (HB8.out.trans (hb9.mono HB8.out.size)); clear hb9))
          go_ret
          exact ⟨rfl, (HK.out _ HB9.out).2.2.2⟩
        | true =>
          rw [hr] at HRI
          have HR := Lib.hid ((dright_iff d).1 hr)
          clear hr
          obtain ⟨nc, hdn, hnc, hof⟩ := pright_is HR.out.pr
          have HDN := Lib.hid hdn
          clear hdn hnc hof
          have HGI := Lib.hid (fun W (hW : Below w1.heap.size w1 W) => given13_any x d nc W HR.out HDN.out (HK.out W hW).2.2.1)
          have HRW := Lib.hid (fun va vc W (hW : Below w1.heap.size w1 W) (hv : BytesAt W (.slice va nc vc) (leads d.of nc)) => rword_any x d nc va vc W (HK.out W hW).2.1 HR.out HDN.out hv (by have := H30.out; omega))
          go_upto_region 9 with (first
            | (refine wpList_load_row rfl 28 _ rfl s rfl 28 (dvC x d) (0, 0) _ (HK.out _ HB6.out).1.row Tryd.underlying28 rfl (sizeDf _ _ _ _) ?_)
            | (go_at_call 14; refine (HRI.out _ HB6.out).mono ?_; rintro e w7 ⟨rfl, hb7⟩; have HB7 := Lib.hid (HB6.out.trans (hb7.mono HB6.out.size)); clear hb7)
            | (refine wpList_load_row rfl 28 _ rfl s rfl 28 (dvC x d) (0, 0) _ (HK.out _ HB7.out).1.row Tryd.underlying28 rfl (sizeDf _ _ _ _) ?_)
            | (go_at_call 17; refine (HGI.out _ HB7.out).mono ?_; rintro e w8 ⟨va, vc, rfl, hv, hb8⟩; have HV8 := Lib.hid hv; have HB8 := Lib.hid (HB7.out.trans (hb8.mono HB7.out.size)); clear hv hb8)
            | (go_at_call 16; refine (HRW.out va vc _ HB8.out HV8.out).mono ?_; rintro e w9 ⟨⟨v2, ok2, rfl, hw2⟩, hb9⟩; have HWR := Lib.hid (hw2.word HR.out); have HB9 := Lib.hid (HB8.out.trans (hb9.mono HB8.out.size)); clear hw2 hb9))
          have hwe : ok = ok2 ∧ v = v2 := by
            obtain ⟨h1, h2⟩ := WordIs.one HWI.out HWR.out
            exact ⟨h1, bs_inj h2⟩
          obtain ⟨rfl, rfl⟩ := hwe
          clear HGI HRW HRI HWR
          cases ok
          · go_wp2_with (first
              | (refine BigFrame.wpList_want rfl (fun K' hK' => ?_); refine wp_load_dv _ rfl s x d rfl (HK.out _ HB9.out).1 ?_; refine hK' _ _ ?_; clear hK' K')
              | (go_at_call 15; refine (HEM.out _ HB9.out).mono ?_; rintro e w10 ⟨⟨t3, ok3, rfl, hw⟩, hb10⟩; obtain ⟨h7, -⟩ := WordIs.one HWI.out hw; subst h7; have HB10 := Lib.hid (HB9.out.trans (hb10.mono HB9.out.size)); clear hw hb10)
              | (go_at_call 10; refine (HAW.out _ HB10.out).mono ?_; rintro e w11 ⟨rfl, hb11⟩; have HB11 := Lib.hid (HB10.out.trans (hb11.mono HB10.out.size)); clear hb11))
            go_ret
            exact ⟨rfl, (HK.out _ HB11.out).2.2.2⟩
          · go_wp2_with (first
              | (refine BigFrame.wpList_want rfl (fun K' hK' => ?_); refine wp_load_dv _ rfl s x d rfl (HK.out _ HB9.out).1 ?_; refine hK' _ _ ?_; clear hK' K')
              | (go_at_call 15; refine (HEM.out _ HB9.out).mono ?_; rintro e w10 ⟨⟨t3, ok3, rfl, hw⟩, hb10⟩; obtain ⟨h7, -⟩ := WordIs.one HWI.out hw; subst h7; have HB10 := Lib.hid (HB9.out.trans (hb10.mono HB9.out.size)); clear hw hb10)
              | (go_at_call 10; refine (HAW.out _ HB10.out).mono ?_; rintro e w11 ⟨rfl, hb11⟩; have HB11 := Lib.hid (HB10.out.trans (hb11.mono HB10.out.size)); clear hb11))
            go_ret
            exact ⟨rfl, (HK.out _ HB11.out).2.2.2⟩
end Sk
end Go.Proofs.YtmjjkamndlefmaaDoor
namespace Go.Proofs.YtmjjkamndlefmaaDoor
open Go.ChangeShapes Go.WideShapes Go.ChangeAt Go.WideMaps Go.WideElems Go.RowKit
open Go.ChangeMaps (open_string shut_string)
namespace LawSWor
set_option maxRecDepth 100000 in
theorem lifted (os : Os) (started : os.Started) (H : Type) (enc : TypeId × Value → H) :
    ReturnsInHanded {} Tryd.checked os 3 .any (fun w args => (Rows.seekWordsSpec.pre enc Tryd.prog Tryd.f3 [] false w args ∧ laidMetH Tryd.prog laidT w) ∧ sizedMet enc Tryd.prog Tryd.f3 (OpenSpec.ofChange Rows.seekWordsSpec) false w args)
      (Rows.seekWordsSpec.post enc Tryd.prog Tryd.f3 false true false false) := by
  refine returnsInHanded_of_change_and (C := Tryd.checked) (X := fun w _ => laidMetH Tryd.prog laidT w) (fun _ _ _ hh h => h.of_heap hh) own started (by kernel_rfl) Tryd.func3
    (ChangeSpec.witness_shaped (enc := enc) (C := Tryd.checked) (os := os) (X := fun w _ => laidMetH Tryd.prog laidT w) false (World.laidAll Tryd.prog os laidT) #[.agg (Df.dfC (fun _ => 0) 0 Df.nilS Df.nilS), .string ByteArray.empty, .string ByteArray.empty] 8 (World.laidAll_os _ _ _) (World.shaped_of_ZipB (by kernel_rfl) (by kernel_rfl)) (by kernel_rfl) (by kernel_rfl) (by kernel_rfl)
      (by rw [MakeChecks.laidMetH_plain _ _ _ (by kernel_rfl)]; exact laidMet_laidAll _ (by kernel_rfl) (by kernel_rfl))) ?_
  intro W base args ds gs before hval0 hW _ _ hL _
  have hval : ∀ (j : Nat) t v, Tryd.f3.params[j]? = some t → args[j]? = some v → Value.okWide Tryd.prog W .any base t v := hval0
  have hW' := hW
  obtain ⟨p, q, hA0, hV, rfl, hfz, hnd⟩ := hW
  have hA : DataW.TrodAll enc Tryd.prog W 0 (fun _ => true) true Tryd.f3.params.toList args.toList ds p := hA0
  rw [Tryd.params3] at hA hval
  obtain ⟨v0, vs0, d0, ds0, p0, q0, hargs, rfl, rfl, h0, r0⟩ := trodAll_cons hA
  obtain ⟨v1, vs1, d1, ds1, p1, q1, rfl, rfl, rfl, h1, r1⟩ := trodAll_cons r0
  obtain ⟨v2, vs2, d2, ds2, p2, q2, rfl, rfl, rfl, h2, r2⟩ := trodAll_cons r1
  obtain ⟨rfl, rfl, rfl⟩ := trodAll_nil r2
  obtain rfl : args = #[v0, v1, v2] := by cases args; simp_all
  obtain ⟨rfl, rfl⟩ := trodVars_none hV
  obtain ⟨x0, m0, rfl, u0⟩ := Mi.open_dfa (hval 0 _ v0 rfl rfl) h0
  obtain ⟨s1, rfl, -, -, w1⟩ := open_string Tryd.underlying9 (hval 1 _ v1 rfl rfl) h1
  obtain ⟨s2, rfl, -, -, w2⟩ := open_string Tryd.underlying9 (hval 2 _ v2 rfl rfl) h2
  have hT := of_laid hL
  refine (Sk.swords_any x0 m0 s1 s2 W u0 hT).mono fun e W' ⟨he, hb⟩ => ?_
  subst he
  exact ⟨_, rfl, post_law hW' rfl laidOut (by kernel_rfl) (by kernel_rfl) Tryd.underlying4 rfl hb⟩
theorem law_holds : Rows.SeekWordsSaid :=
  OpenClaim.holds_of_wide 3 Tryd.f3 rfl rfl rfl rfl rfl rfl rfl ⟨rfl, rfl, rfl, rfl, rfl⟩ rfl rfl rfl rfl rfl (by kernel_rfl) Tryd.func3 (by kernel_rfl)
    (of_decide_eq_true (by kernel_rfl)) (by unfold Func.isWrapper; first | (rw [if_pos (by decide +kernel)]; kernel_rfl) | (rw [if_neg (by decide +kernel)]; exact ⟨rfl, rfl⟩))
    (fun os started H enc _ => lifted os started H enc)
theorem card_holds : Rows.SeekWordsCardSaid :=
  Claim7.holds_tied_plain_at .later [] [.data] true (true, "5ae6efb057a676888604708a25ee45a9dc5ee2ee62c2315df0fcae417ffdc528") false
    law_holds (fun _ h => by cases h) (by kernel_rfl) (fun _ h => by cases h) seekWords_row_tie rfl ⟨rfl, rfl⟩ (by kernel_rfl) rfl
    (fun f fn hf hfn => by
      obtain rfl : f = 3 := Option.some.inj ((show Tryd.prog.funcNamed "shibboleth/shibbolethlaw13.SeekWords" = some 3 by kernel_rfl).symm.trans hf) |>.symm
      obtain rfl : fn = Tryd.f3 := (Option.some.inj (Tryd.func3.symm.trans hfn)).symm
      exact ⟨by kernel_rfl, fun j t ht => by
        have hm := Array.mem_of_getElem? ht
        have hall : ((Tryd.f3.params).all fun u => !Tryd.prog.wantsStandIn u) = true := by kernel_rfl
        show Tryd.prog.wantsStandIn t = false
        simpa using Array.all_eq_true_iff_forall_mem.1 hall t hm⟩)
    (by kernel_rfl)
#print axioms card_holds
end LawSWor
end Go.Proofs.YtmjjkamndlefmaaDoor
