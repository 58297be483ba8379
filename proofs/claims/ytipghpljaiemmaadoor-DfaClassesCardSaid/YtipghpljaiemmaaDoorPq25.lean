/- Several texts in one. -/
import Derived.Test.YtipghpljaiemmaaDoorPq24
import Derived.Test.YtipghpljaiemmaaDoorPq10
namespace Go.Proofs.YtipghpljaiemmaaDoor
open Go.RowKit Sets Nf Cls
namespace Df
/-- Where an automaton's slices lie. -/
structure Dx where
  a : Option Addr
  ac : Nat
  b : Option Addr
  bc : Nat
def dvC (x : Dx) (d : Dm) : Array Value := dfC d.of d.n (.slice x.a d.R.length x.ac) (.slice x.b d.F.length x.bc)
structure DAt (w : World) (x : Dx) (d : Dm) : Prop where
  nx : ListsIn w x.a d.R
  fl : BoolsIn w x.b d.F
theorem DAt.kept {w w' : World} {x : Dx} {d : Dm} (h : DAt w x d) (hb : Below w.heap.size w w') : DAt w' x d := ⟨h.nx.kept hb, h.fl.kept hb⟩
structure DFine (d : Dm) : Prop where
  many : d.R.length ≤ 100000
  fin : d.F.length ≤ 100000
  each : ∀ l ∈ d.R, l.length ≤ 1000 ∧ ∀ k ∈ l, i64 k
  of : ∀ c, c < 256 → d.of c < 256
/-- An automaton lies in block B. -/
structure BoxD (w : World) (B : Nat) (x : Dx) (d : Dm) : Prop where
  row : w.heap[B]? = some (.cells (dvC x d) 35 (0, 0))
theorem BoxD.new (w : World) (x : Dx) (d : Dm) : BoxD (w.alloc (.cells (dvC x d) 35)) w.heap.size x d := ⟨heap_alloc_new w _⟩
theorem BoxD.lt {w : World} {B : Nat} {x : Dx} {d : Dm} (h : BoxD w B x d) : B < w.heap.size := (Array.getElem?_eq_some_iff.1 h.row).1
theorem BoxD.kept {w w' : World} {A B : Nat} {x : Dx} {d : Dm} (h : BoxD w B x d) (hb : Below A w w') (hA : B < A) : BoxD w' B x d := ⟨by rw [hb.block _ hA]; exact h.row⟩
theorem BoxD.stay {w w' : World} {B : Nat} {x : Dx} {d : Dm} (h : BoxD w B x d) (hb : Below w.heap.size w w') : BoxD w' B x d := h.kept hb h.lt
theorem BoxD.c257 {w : World} {B : Nat} {x : Dx} {d : Dm} (h : BoxD w B x d) : w.cell? ⟨B, 257, none⟩ = some (.slice x.a d.R.length x.ac) := by
  rw [cell_of_row w B 257 _ _ _ h.row]; exact dfC_nv _ _ _ _
theorem BoxD.c258 {w : World} {B : Nat} {x : Dx} {d : Dm} (h : BoxD w B x d) : w.cell? ⟨B, 258, none⟩ = some (.slice x.b d.F.length x.bc) := by
  rw [cell_of_row w B 258 _ _ _ h.row]; exact dfC_fv _ _ _ _
theorem BoxD.c256 {w : World} {B : Nat} {x : Dx} {d : Dm} (h : BoxD w B x d) : w.cell? ⟨B, 256, none⟩ = some (.int .i64 d.n) := by
  rw [cell_of_row w B 256 _ _ _ h.row]; exact dfC_n _ _ _ _
theorem BoxD.cof {w : World} {B : Nat} {x : Dx} {d : Dm} (h : BoxD w B x d) {c : Nat} (hc : c < 256) : w.cell? ⟨B, c, none⟩ = some (.int .u8 (d.of c)) := by
  rw [cell_of_row w B c _ _ _ h.row]; exact dfC_get _ _ _ _ c hc
theorem sizePL (of : Nat → Nat) (n : Int) : (Tryd.prog.info? 30).map (·.size) = some (partC of n).toList.length := by
  rw [Array.length_toList]; exact sizeP of n
set_option maxHeartbeats 3200000 in
set_option maxRecDepth 100000 in
theorem none_any (k : Int) (B n : Nat) (w : World) (hc : w.cell? ⟨B, 0, none⟩ = some (.int .i64 n)) :
    Calls Tryd.prog 55 #[.int .i64 k, .pointer (some ⟨B, 0, none⟩)] w fun e w' => e = .returned (.bool (!inB n k)) ∧ w = w' := by
  by_cases h0 : k < 0
  · have hd : decide (k < 0) = true := decide_eq_true h0
    have HR : Hid (inB n k = false) := Lib.hid (by unfold inB; rw [decide_eq_false (by omega : ¬ (0 ≤ k)), Bool.false_and])
    clear h0
    go_enter Tryd.func55, Tryd.ntmps55
    go_wp2_with fail
    go_ret
    exact ⟨by rw [HR.out]; rfl, rfl⟩
  · have hd : decide (k < 0) = false := decide_eq_false h0
    by_cases h1 : (n : Int) ≤ k
    · have hd1 : decide ((n : Int) ≤ k) = true := decide_eq_true h1
      have HR : Hid (inB n k = false) := Lib.hid (by unfold inB; rw [decide_eq_false (by omega : ¬ (k < (n : Int))), Bool.and_false])
      clear h0 h1
      go_enter Tryd.func55, Tryd.ntmps55
      go_wp2_with fail
      go_ret
      exact ⟨by rw [HR.out]; rfl, rfl⟩
    · have hd1 : decide ((n : Int) ≤ k) = false := decide_eq_false h1
      have HR : Hid (inB n k = true) := Lib.hid (by unfold inB; rw [decide_eq_true (by omega : 0 ≤ k), decide_eq_true (by omega : k < (n : Int))]; rfl)
      clear h0 h1
      go_enter Tryd.func55, Tryd.ntmps55
      go_wp2_with fail
      go_ret
      exact ⟨by rw [HR.out]; rfl, rfl⟩
set_option maxHeartbeats 3200000 in
set_option maxRecDepth 100000 in
theorem indexN_any (a : Option Addr) (cap : Nat) (l : List Int) (B n : Nat) (w : World) (h : NumsIn w a l) (hl : l.length ≤ 1000) (hc : w.cell? ⟨B, 0, none⟩ = some (.int .i64 n)) :
    Calls Tryd.prog 89 #[.slice a l.length cap, .func (.func 55) #[] #[.pointer (some ⟨B, 0, none⟩)]] w fun e w' => (∃ r : Int, e = .returned (.int .i64 r) ∧ decide (0 ≤ r) = !(l.all (inB n))) ∧ w = w' := by
  have HM := Lib.hid h
  have HL := Lib.hid hl
  have HN := Lib.hid (fun k => none_any k B n w hc)
  clear h hl hc
  go_enter Tryd.func89, Tryd.ntmps89
  go_wp2_with fail
  go_loopw [8] (fun i wr => ∃ j : Nat, i = .int .i64 j ∧ j ≤ l.length ∧ Hid ((l.take j).all (inB n) = true) ∧ wr = w) (fun i _ => ((l.length : Int) - intOf i).toNat)
  case atStart => exact ⟨0, rfl, Nat.zero_le _, Lib.hid (by simp), rfl⟩
  case round =>
    obtain ⟨j, rfl, hj, HA, rfl⟩ := hrel
    by_cases hlt : j < l.length
    · have hdd : decide ((j : Int) < (l.length : Int)) = true := decide_eq_true (by omega)
      have hd2 : decide (j < l.length) = true := decide_eq_true hlt
      have HJ := Lib.hid hlt
      have hjl : (j : Int) < (l.length : Int) := by omega
      have HW1 : Hid (wrap64 ((j : Int) + 1) = ((j + 1 : Nat) : Int)) := Lib.hid (nat_wrap (by have := HL.out; omega))
      obtain ⟨b, o, rfl, hcj⟩ := HM.out j hlt
      have HAN := Lib.hid (all_snoc (inB n) l 0 j hlt)
      have HHI := Lib.hid (@all_stop _ (inB n) l 0 j hlt)
      have HSC := Lib.hid (HN.out (l.getD j 0))
      clear hlt
      cases hsp : inB n (l.getD j 0)
      · rw [hsp] at HSC
        have HR := Lib.hid (HHI.out hsp)
        clear hsp HHI HAN
        go_wp2_with (go_at_call 55; refine HSC.out.mono ?_; rintro e w3 ⟨rfl, rfl⟩)
        go_ret
        exact ⟨⟨(j : Int), rfl, by rw [HR.out]; simp⟩, rfl⟩
      · rw [hsp] at HSC HAN
        clear hsp HHI
        go_wp2_with (go_at_call 55; refine HSC.out.mono ?_; rintro e w3 ⟨rfl, rfl⟩)
        go_roundw
        case rel => exact ⟨j + 1, by rw [HW1.out], HJ.out, Lib.hid (by rw [HAN.out, HA.out]; rfl), by first | rfl | trivial⟩
        case measure => rw [HW1.out]; exact meas9 HJ.out
    · have hdd : decide ((j : Int) < (l.length : Int)) = false := decide_eq_false (by omega)
      have hd2 : decide (j < l.length) = false := decide_eq_false hlt
      have HR : Hid (l.all (inB n) = true) := Lib.hid (by
        have := HA.out
        rwa [List.take_of_length_le (by omega)] at this)
      clear hlt
      go_wp2_with fail
      go_ret
      exact ⟨⟨-1, rfl, by rw [HR.out]; rfl⟩, rfl⟩
set_option maxHeartbeats 3200000 in
set_option maxRecDepth 100000 in
theorem containsN_any (a : Option Addr) (cap : Nat) (l : List Int) (B n : Nat) (w : World) (h : NumsIn w a l) (hl : l.length ≤ 1000) (hc : w.cell? ⟨B, 0, none⟩ = some (.int .i64 n)) :
    Calls Tryd.prog 56 #[.slice a l.length cap, .func (.func 55) #[] #[.pointer (some ⟨B, 0, none⟩)]] w fun e w' => e = .returned (.bool (!(l.all (inB n)))) ∧ w = w' := by
  have HI := Lib.hid (indexN_any a cap l B n w h hl hc)
  clear h hl hc
  go_enter Tryd.func56, Tryd.ntmps56
  go_wp2_with (go_at_call 89; refine HI.out.mono ?_; rintro e w3 ⟨⟨r, rfl, hr⟩, rfl⟩; have HR := Lib.hid hr; clear hr)
  go_ret
  exact ⟨by rw [← HR.out]; rfl, rfl⟩
def rowOk (d : Dm) (l : List Int) : Bool := decide ((l.length : Int) = d.n) && l.all (inB d.R.length)
set_option maxHeartbeats 6400000 in
set_option maxRecDepth 100000 in
theorem dright_any (x : Dx) (d : Dm) (w : World) (h : DAt w x d) (hf : DFine d) :
    Calls Tryd.prog 25 #[.agg (dvC x d)] w fun e w' => e = .returned (.bool (rightD d)) ∧ Below w.heap.size w w' := by
  have HM0 := Lib.hid h
  have HF := Lib.hid hf
  have HRD : Hid (rightD d = (prightB d.of d.n && (decide (0 < d.R.length) && (decide (d.F.length = d.R.length) && d.R.all (rowOk d))))) := Lib.hid rfl
  clear h hf
  have hmf : ∀ (fn : Fn) (first cap : Array Value) (w : World), (Instr.makeFunc fn first cap).run Tryd.prog w = .ok (.func fn first cap) w := fun _ _ _ _ => rfl
  go_enter Tryd.func25, Tryd.ntmps25
  go_upto_region 1 with fail
  have HX0 := Lib.hid (BoxD.new w x d)
  have HB0 := Lib.hid ((Below.refl w.heap.size w).alloc (Nat.le_refl _) (.cells (dvC x d) 35))
  obtain ⟨s, hs⟩ : ∃ s, Hid (w.heap.size = s) := ⟨_, Lib.hid rfl⟩
  have HZ0 : Hid ((w.alloc (.cells (dvC x d) 35)).heap.size = s + 1) := Lib.hid (by rw [← hs.out]; simp)
  rw [hs.out] at HX0 HB0 ⊢
  generalize w.alloc (.cells (dvC x d) 35) = w0 at *
  have c257 := HX0.out.c257
  go_upto_region 2 with fail
  clear c257
  rw [HZ0.out]
  have hal := (Below.refl w0.heap.size w0).alloc (Nat.le_refl _) (.cells #[.int .i64 (d.R.length : Nat)] 3)
  have HX := Lib.hid (HX0.out.stay hal)
  have HB := Lib.hid (HB0.out.trans (hal.mono (by rw [HZ0.out]; omega)))
  have HMN : Hid ((w0.alloc (.cells #[.int .i64 (d.R.length : Nat)] 3)).heap[s + 1]? = some (.cells #[.int .i64 (d.R.length : Nat)] 3 (0, 0))) := Lib.hid (by rw [← HZ0.out]; exact heap_alloc_new w0 _)
  clear hal HX0 HB0 HZ0
  generalize w0.alloc (.cells #[.int .i64 (d.R.length : Nat)] 3) = w1 at *
  have HPR := Lib.hid (pright_any d.of d.n w1 HF.out.of)
  have HSW : Hid (s + 1 < w1.heap.size) := Lib.hid (Array.getElem?_eq_some_iff.1 HMN.out).1
  have HCN : Hid (∀ W : World, Below w1.heap.size w1 W → W.cell? ⟨s + 1, 0, none⟩ = some (.int .i64 (d.R.length : Nat)) ∧ W.cell? ⟨s, 258, none⟩ = some (.slice x.b d.F.length x.bc)) := Lib.hid (fun W hb => ⟨by
    rw [cell_of_row W (s + 1) 0 _ _ _ ((hb.block _ HSW.out).trans HMN.out)]; rfl, (HX.out.stay hb).c258⟩)
  cases hpr : prightB d.of d.n
  · rw [hpr] at HPR HRD
    clear hpr
    go_wp2_with (first
      | (refine wpList_load_mid rfl 30 _ rfl s 0 rfl (partC d.of d.n).toList _ (partC_mid _ _ _ _ _ _ HX.out.row) Tryd.underlying30 rfl (sizePL _ _) ?_)
      | (go_at_call 13; refine HPR.out.mono ?_; rintro e w3 ⟨rfl, hb3⟩; have HB3 := Lib.hid (HB.out.trans (hb3.mono (Nat.le_of_lt (Nat.lt_of_succ_lt HSW.out)))); clear hb3))
    go_ret
    exact ⟨by rw [HRD.out]; rfl, by rw [hs.out]; exact HB3.out⟩
  · rw [hpr] at HPR HRD
    clear hpr
    by_cases hsh : 0 < d.R.length ∧ d.F.length = d.R.length
    · obtain ⟨h1, h2⟩ := hsh
      have hd1 : (((d.R.length : Nat) : Int) == 0) = false := by rw [beq_eq_false_iff_ne]; omega
      have hd2 : (((d.F.length : Nat) : Int) != ((d.R.length : Nat) : Int)) = false := by rw [h2]; simp
      rw [decide_eq_true h1, decide_eq_true h2] at HRD
      clear h1 h2
      go_upto_region 4 with (first
        | (refine wpList_load_mid rfl 30 _ rfl s 0 rfl (partC d.of d.n).toList _ (partC_mid _ _ _ _ _ _ HX.out.row) Tryd.underlying30 rfl (sizePL _ _) ?_)
        | (go_at_call 13; refine HPR.out.mono ?_; rintro e w3 ⟨rfl, hb3⟩; have cn := (HCN.out _ hb3).1; have cf := (HCN.out _ hb3).2; have HB3 := Lib.hid (HB.out.trans (hb3.mono (Nat.le_of_lt (Nat.lt_of_succ_lt HSW.out)))); have HX3 := Lib.hid (HX.out.stay hb3); have HM3 : Hid (w3.heap[s + 1]? = some (.cells #[.int .i64 (d.R.length : Nat)] 3 (0, 0))) := Lib.hid ((hb3.block _ HSW.out).trans HMN.out); clear hb3))
      clear cn cf hd1 hd2 HPR HCN HB HX HMN HSW
      clear w1 w0
      have c257 := HX3.out.c257
      have HMD := Lib.hid (HM0.out.kept (hs.out ▸ HB3.out))
      have cn : w3.cell? ⟨s + 1, 0, none⟩ = some (.int .i64 (d.R.length : Nat)) := by rw [cell_of_row w3 (s + 1) 0 _ _ _ HM3.out]; rfl
      have HCN := Lib.hid cn
      clear cn
      go_wp2_with fail
      clear c257
      go_loopw [29] (fun i wr => ∃ j : Nat, i = .int .i64 j ∧ j ≤ d.R.length ∧ Hid ((d.R.take j).all (rowOk d) = true) ∧ wr = w3) (fun i _ => ((d.R.length : Int) - intOf i).toNat)
      case atStart => exact ⟨0, rfl, Nat.zero_le _, Lib.hid (by simp), rfl⟩
      case round =>
        obtain ⟨j, rfl, hj, HA, rfl⟩ := hrel
        by_cases hlt : j < d.R.length
        · have hdd : decide ((j : Int) < (d.R.length : Int)) = true := decide_eq_true (by omega)
          have hd2 : decide (j < d.R.length) = true := decide_eq_true hlt
          have HJ := Lib.hid hlt
          have hjl : (j : Int) < (d.R.length : Int) := by omega
          have HW1 : Hid (wrap64 ((j : Int) + 1) = ((j + 1 : Nat) : Int)) := Lib.hid (nat_wrap (by have := HF.out.many; omega))
          obtain ⟨b, o, y, cy, hxa, hcj, hn⟩ := HMD.out.nx j hlt
          rw [hxa]
          clear hxa
          have HAN := Lib.hid (all_snoc (rowOk d) d.R [] j hlt)
          have HHI := Lib.hid (@all_stop _ (rowOk d) d.R [] j hlt)
          have HEA := Lib.hid (HF.out.each _ (getD_mem (d := []) hlt))
          have HCO := Lib.hid (containsN_any y cy (d.R.getD j []) (s + 1) d.R.length _ hn HEA.out.1 HCN.out)
          have HRK : Hid (rowOk d (d.R.getD j []) = (decide (((d.R.getD j []).length : Int) = d.n) && (d.R.getD j []).all (inB d.R.length))) := Lib.hid rfl
          have c256 := HX3.out.c256
          clear hn hlt
          generalize d.R.getD j [] = l at *
          by_cases hln : (l.length : Int) = d.n
          · have hd5 : ((l.length : Int) != d.n) = false := by rw [hln]; simp
            rw [decide_eq_true hln, Bool.true_and] at HRK
            clear hln
            cases hal : l.all (inB d.R.length)
            · rw [hal] at HCO HRK
              have HR := Lib.hid (HHI.out HRK.out)
              clear hal HAN HHI
              go_wp2_with (go_at_call 56; refine HCO.out.mono ?_; rintro e w4 ⟨rfl, rfl⟩)
              go_ret
              exact ⟨by rw [HRD.out, HR.out]; rfl, by rw [hs.out]; exact HB3.out⟩
            · rw [hal] at HCO HRK
              rw [HRK.out] at HAN
              clear hal HHI
              go_wp2_with (go_at_call 56; refine HCO.out.mono ?_; rintro e w4 ⟨rfl, rfl⟩)
              go_roundw
              case rel => exact ⟨j + 1, by rw [HW1.out], HJ.out, Lib.hid (by rw [HAN.out, HA.out]; rfl), by first | rfl | trivial⟩
              case measure => rw [HW1.out]; exact meas9 HJ.out
          · have hd5 : ((l.length : Int) != d.n) = true := by rw [bne_iff_ne]; exact hln
            rw [decide_eq_false hln, Bool.false_and] at HRK
            have HR := Lib.hid (HHI.out HRK.out)
            clear hln HAN HHI
            go_wp2_with fail
            go_ret
            exact ⟨by rw [HRD.out, HR.out]; rfl, by rw [hs.out]; exact HB3.out⟩
        · have hdd : decide ((j : Int) < (d.R.length : Int)) = false := decide_eq_false (by omega)
          have hd2 : decide (j < d.R.length) = false := decide_eq_false hlt
          have HR : Hid (d.R.all (rowOk d) = true) := Lib.hid (by
            have := HA.out
            rwa [List.take_of_length_le (by omega)] at this)
          clear hlt
          go_wp2_with fail
          go_ret
          exact ⟨by rw [HRD.out, HR.out]; rfl, by rw [hs.out]; exact HB3.out⟩
    · have HR : Hid (rightD d = false) := Lib.hid (by
        rw [HRD.out, Bool.true_and]
        by_cases h1 : 0 < d.R.length
        · rw [decide_eq_false (fun e => hsh ⟨h1, e⟩), Bool.false_and, Bool.and_false]
        · rw [decide_eq_false h1, Bool.false_and])
      by_cases h1 : 0 < d.R.length
      · have hd1 : (((d.R.length : Nat) : Int) == 0) = false := by rw [beq_eq_false_iff_ne]; omega
        have hd2 : (((d.F.length : Nat) : Int) != ((d.R.length : Nat) : Int)) = true := by rw [bne_iff_ne]; omega
        clear h1 hsh
        go_wp2_with (first
          | (refine wpList_load_mid rfl 30 _ rfl s 0 rfl (partC d.of d.n).toList _ (partC_mid _ _ _ _ _ _ HX.out.row) Tryd.underlying30 rfl (sizePL _ _) ?_)
          | (go_at_call 13; refine HPR.out.mono ?_; rintro e w3 ⟨rfl, hb3⟩; have cn := (HCN.out _ hb3).1; have cf := (HCN.out _ hb3).2; have HB3 := Lib.hid (HB.out.trans (hb3.mono (Nat.le_of_lt (Nat.lt_of_succ_lt HSW.out)))); clear hb3))
        go_ret
        exact ⟨by rw [HR.out]; rfl, by rw [hs.out]; exact HB3.out⟩
      · have hd1 : (((d.R.length : Nat) : Int) == 0) = true := by rw [beq_iff_eq]; omega
        clear h1 hsh
        go_wp2_with (first
          | (refine wpList_load_mid rfl 30 _ rfl s 0 rfl (partC d.of d.n).toList _ (partC_mid _ _ _ _ _ _ HX.out.row) Tryd.underlying30 rfl (sizePL _ _) ?_)
          | (go_at_call 13; refine HPR.out.mono ?_; rintro e w3 ⟨rfl, hb3⟩; have cn := (HCN.out _ hb3).1; have cf := (HCN.out _ hb3).2; have HB3 := Lib.hid (HB.out.trans (hb3.mono (Nat.le_of_lt (Nat.lt_of_succ_lt HSW.out)))); clear hb3))
        go_ret
        exact ⟨by rw [HR.out]; rfl, by rw [hs.out]; exact HB3.out⟩
end Df
end Go.Proofs.YtipghpljaiemmaaDoor
namespace Go.Proofs.YtipghpljaiemmaaDoor
open Go.RowKit Sets Nf Cls
namespace Df
theorem wpList_load_df {ops : Array Oper} {rest : List Oper} {o : Oper} {a : Act} {w : World} {Q : Exit → Act → World → Prop} (hgd : o.guard = none) (X : Operand) (ho : o.op = .load 35 X)
    (B : Nat) (x : Dx) (d : Dm) (hx : a.eval X = .pointer (some ⟨B, 0, none⟩)) (hc : BoxD w B x d) (h : wpList Tryd.prog ops Q rest (a.put o.dst (.agg (dvC x d))) w) : wpList Tryd.prog ops Q (o :: rest) a w :=
  wpList_load_row hgd 35 X ho B hx 35 (dvC x d) (0, 0) _ hc.row Tryd.underlying35 rfl (sizeDf _ _ _ _) h
/-- What a right automaton is. -/
structure DRt (d : Dm) : Prop where
  pr : prightB d.of d.n = true
  pos : 0 < d.R.length
  fl : d.F.length = d.R.length
  row : ∀ l ∈ d.R, (l.length : Int) = d.n ∧ ∀ k ∈ l, 0 ≤ k ∧ k < (d.R.length : Int)
theorem dright_iff (d : Dm) : rightD d = true ↔ DRt d := by
  unfold rightD
  simp only [Bool.and_eq_true, decide_eq_true_iff, List.all_eq_true, inB]
  constructor
  · rintro ⟨h1, h2, h3, h4⟩; exact ⟨h1, h2, h3, h4⟩
  · rintro ⟨h1, h2, h3, h4⟩; exact ⟨h1, h2, h3, h4⟩
theorem DRt.of {d : Dm} (h : DRt d) {i c : Nat} (hi : i < d.R.length) (hc : c < 256) : d.of c < (d.R.getD i []).length ∧ (d.R.getD i []).getD (d.of c) 0 = (goD d i c : Nat) ∧ goD d i c < d.R.length := by
  obtain ⟨k, hn, -, hof⟩ := pright_is h.pr
  have hr := h.row _ (getD_mem (d := []) hi)
  have h1 : d.of c < (d.R.getD i []).length := by have := hof c hc; omega
  have h2 := hr.2 _ (getD_mem (d := 0) h1)
  unfold goD
  exact ⟨h1, by omega, by omega⟩
def stAt (d : Dm) (l : List Nat) (j : Nat) : Nat := (l.take j).foldl (goD d) 0
theorem stAt_succ (d : Dm) (l : List Nat) (j : Nat) (h : j < l.length) : stAt d l (j + 1) = goD d (stAt d l j) (l.getD j 0) := by
  unfold stAt
  rw [List.take_succ_eq_append_getElem h, List.foldl_append, List.getD_eq_getElem?_getD, List.getElem?_eq_getElem h]; rfl
set_option maxHeartbeats 6400000 in
set_option maxRecDepth 100000 in
theorem drun_any (x : Dx) (d : Dm) (t : ByteArray) (w : World) (h : DAt w x d) (hf : DFine d) (ht : t.size ≤ 100000) :
    Calls Tryd.prog 24 #[.agg (dvC x d), .string t] w fun e w' => e = .returned (.bool (takesD d (Nf.bs t))) ∧ Below w.heap.size w w' := by
  have HM := Lib.hid h
  have HF := Lib.hid hf
  have HTS := Lib.hid ht
  have HLEN := Lib.hid (Nf.bs_len t)
  have HBL := Lib.hid (Nf.bs_lt t)
  have HTK : Hid (takesD d (Nf.bs t) = (rightD d && d.F.getD (stAt d (Nf.bs t) t.size) false)) := Lib.hid (by
    unfold takesD stAt
    rw [List.take_of_length_le (by rw [Nf.bs_len]; exact Nat.le_refl _)])
  clear h hf ht
  go_enter Tryd.func24, Tryd.ntmps24
  go_upto_region 1 with fail
  have HX1 := Lib.hid (BoxD.new w x d)
  have HB1 := Lib.hid ((Below.refl w.heap.size w).alloc (Nat.le_refl _) (.cells (dvC x d) 35))
  obtain ⟨s, hs⟩ : ∃ s, Hid (w.heap.size = s) := ⟨_, Lib.hid rfl⟩
  generalize w.alloc (.cells (dvC x d) 35) = w1 at *
  have HRD := Lib.hid (dright_any x d w1 (HM.out.kept HB1.out) HF.out)
  rw [hs.out] at HX1 HB1 ⊢
  cases hr : rightD d
  · rw [hr] at HRD HTK
    clear hr
    go_wp2_with (first
      | (refine wpList_load_df rfl _ rfl s x d rfl HX1.out ?_)
      | (go_at_call 25; refine HRD.out.mono ?_; rintro e w2 ⟨rfl, hb2⟩; have HB2 := Lib.hid (HB1.out.trans (hb2.mono (Nat.le_of_lt HX1.out.lt))); clear hb2))
    go_ret
    exact ⟨by rw [HTK.out]; rfl, by rw [hs.out]; exact HB2.out⟩
  · rw [hr] at HRD HTK
    have HRT := Lib.hid ((dright_iff d).1 hr)
    clear hr
    go_upto_region 5 with (first
      | (refine wpList_load_df rfl _ rfl s x d rfl HX1.out ?_)
      | (go_at_call 25; refine HRD.out.mono ?_; rintro e w2 ⟨rfl, hb2⟩; have HB2 := Lib.hid (HB1.out.trans (hb2.mono (Nat.le_of_lt HX1.out.lt))); have HX2 := Lib.hid (HX1.out.stay hb2); clear hb2))
    clear HX1 HB1 HRD
    clear w1
    have HS0 : Hid (stAt d (Nf.bs t) 0 < d.R.length) := Lib.hid HRT.out.pos
    go_loopw [5, 12] (fun v i wr => ∃ j : Nat, v = .int .i64 (stAt d (Nf.bs t) j : Nat) ∧ i = .int .i64 j ∧ j ≤ t.size ∧ Hid (stAt d (Nf.bs t) j < d.R.length) ∧ Hid (Below w2.heap.size w2 wr)) (fun _ i _ => ((t.size : Int) - intOf i).toNat)
    case atStart => exact ⟨0, rfl, rfl, Nat.zero_le _, HS0, Lib.hid (Below.refl _ _)⟩
    case round =>
      obtain ⟨j, rfl, rfl, hj, HSJ, HBJ⟩ := hrel
      generalize hwr : wr = w3 at *
      clear hwr wr
      have HX3 := Lib.hid (HX2.out.stay HBJ.out)
      have HB3 : Hid (Below s w w3) := Lib.hid (HB2.out.trans (HBJ.out.mono (Nat.le_of_lt HX2.out.lt)))
      have HD3 := Lib.hid (HM.out.kept (hs.out ▸ HB3.out))
      by_cases hlt : j < t.size
      · have hdd : decide ((j : Int) < (t.size : Int)) = true := decide_eq_true (by omega)
        have hd2 : decide (j < t.size) = true := decide_eq_true hlt
        have HJ := Lib.hid hlt
        have HW1 : Hid (wrap64 ((j : Int) + 1) = ((j + 1 : Nat) : Int)) := Lib.hid (nat_wrap (by have := HTS.out; omega))
        have hix := index_bs t j _ rfl hlt
        have HCC : Hid ((Nf.bs t).getD j 0 < 256) := Lib.hid (HBL.out _ (getD_mem (by rw [HLEN.out]; exact hlt)))
        have HSS := Lib.hid (stAt_succ d (Nf.bs t) j (by rw [HLEN.out]; exact hlt))
        generalize stAt d (Nf.bs t) j = st at *
        generalize (Nf.bs t).getD j 0 = c at *
        obtain ⟨b, o, y, cy, hxa, hcs, hn⟩ := HD3.out.nx st HSJ.out
        obtain ⟨h1, h2, h3⟩ := HRT.out.of HSJ.out HCC.out
        obtain ⟨b2, o2, hy, hcn⟩ := hn (d.of c) h1
        rw [h2] at hcn
        subst hy
        have HS3 := Lib.hid h3
        have hsr : (st : Int) < (d.R.length : Int) := by have := HSJ.out; omega
        have hocl : ((d.of c : Nat) : Int) < ((d.R.getD st []).length : Int) := by omega
        have hc256 : ((c : Nat) : Int) < 256 := by have := HCC.out; omega
        have HOF : Hid (d.of c < 256) := Lib.hid (HF.out.of c HCC.out)
        have c257 := HX3.out.c257
        rw [hxa] at c257
        have cof := HX3.out.cof HCC.out
        clear hn h1 h2 h3 hlt hxa
        generalize (d.R.getD st []).length = rl at *
        have f1 : w3.drew.cell? ⟨s, 257, none⟩ = some (.slice (some ⟨b, o, none⟩) d.R.length x.ac) := c257
        have f2 : w3.drew.cell? ⟨s, c, none⟩ = some (.int .u8 (d.of c)) := cof
        have f3 : w3.drew.cell? ⟨b, o + st, none⟩ = some (.slice (some ⟨b2, o2, none⟩) rl cy) := hcs
        have f4 : w3.drew.cell? ⟨b2, o2 + d.of c, none⟩ = some (.int .i64 (goD d st c : Nat)) := hcn
        clear c257 cof hcs hcn
        go_upto_region 7 with fail
        refine region_mix [(false, 0), (false, 1), (false, 2), (false, 3), (false, 4), (false, 5), (false, 6), (false, 7), (false, 8), (false, 9), (false, 10), (false, 11), (false, 12), (false, 13)] (fun w' => w' = w3.drew) (by kernel_rfl) (by kernel_rfl) rfl ?_
        simp only [planOps, List.map_cons, List.map_nil, List.getD_cons_zero, List.getD_cons_succ, List.length_cons, List.length_nil, List.drop_succ_cons, List.drop_zero]
        refine mix_seg (seg := [_, _, _, _, _, _, _, _, _, _, _, _, _, _]) (rest := []) rfl rfl ?_
        intro ι hι F2 hF
        iterate 14 (go_big_quiet_step (fail))
        refine wpQuiet_nil ?_
        clear f1 f2 f3 f4 hF hι F2
        show wpList _ _ _ _ _ _
        go_wp2_with fail
        refine NoPanic.normal ?_
        go_wp2_with fail
        go_roundw
        case rel => exact ⟨j + 1, by rw [HSS.out], by rw [HW1.out], HJ.out, Lib.hid (by rw [HSS.out]; exact HS3.out), Lib.hid (HBJ.out.drew)⟩
        case measure => rw [HW1.out]; exact meas9 HJ.out
      · have hdd : decide ((j : Int) < (t.size : Int)) = false := decide_eq_false (by omega)
        have hd2 : decide (j < t.size) = false := decide_eq_false hlt
        have HE : Hid (j = t.size) := Lib.hid (by omega)
        rw [HE.out] at HSJ ⊢
        obtain ⟨b, o, hxb, hcb⟩ := HD3.out.fl _ (by rw [HRT.out.fl]; exact HSJ.out)
        have c258 := HX3.out.c258
        rw [hxb] at c258
        have hsf : ((stAt d (Nf.bs t) t.size : Nat) : Int) < (d.F.length : Int) := by have h1 := HSJ.out; have h2 := HRT.out.fl; omega
        clear hlt hxb
        generalize stAt d (Nf.bs t) t.size = st at *
        go_wp2_with fail
        go_ret
        exact ⟨by rw [HTK.out]; simp, by rw [hs.out]; exact HB3.out⟩
end Df
end Go.Proofs.YtipghpljaiemmaaDoor
