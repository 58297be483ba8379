/- each: the rounds over a set's spots. -/
import Derived.Test.YtlbaecjmfgahgaaDoorNf4
import Derived.Test.YtlbaecjmfgahgaaDoorMixR
import Derived.RangeFuncNested
import Derived.RangeFuncBound
import Derived.RangeFuncCalls
import Derived.RangeFuncLeaves
import Derived.RangeFuncKeeps
import Derived.Shelf.Abstract
import Derived.Shelf.RegionOpen
import Derived.OwnWalkIn
import Derived.TacticsInMore
import Derived.LoopNIn
import Derived.LoopIn
namespace Go.Proofs.YtlbaecjmfgahgaaDoor
open Go.RowKit Go.Shelf Sets Nf
attribute [local go_sem] Oper.semAt_some
namespace Nf
theorem each_any (S : Nat) (w : World) :
    Calls Tryd.prog 24 #[.agg (setC S)] w fun e w' =>
      e = .returned (.func (.func 44) #[] #[.pointer (some ⟨w.heap.size, 0, none⟩)]) ∧ w' = w.alloc (.cells (setC S) 39) := by
  go_enter Tryd.func24, Tryd.ntmps24
  go_wp2
  go_ret
  exact ⟨rfl, rfl⟩
theorem sub_one (r : Nat) (h0 : r ≠ 0) (h : r < 18446744073709551616) : IntKind.u64.wrap ((r : Int) - 1) = ((r - 1 : Nat) : Int) := by
  rw [IntKind.wrap_u64]; omega
theorem tz_num (i r : Nat) (hi : i < 4) (h0 : r ≠ 0) (h : r < 18446744073709551616) : wrap64 ((i : Int) * 64) = ((i * 64 : Nat) : Int) ∧ wrap64 (((i * 64 : Nat) : Int) + (Lib.ctz 64 r : Nat)) = ((64 * i + Lib.ctz 64 r : Nat) : Int) := by
  obtain ⟨-, -, h3⟩ := ctz_bit r h0 h
  unfold wrap64
  constructor <;> omega
set_option maxRecDepth 100000 in
set_option maxHeartbeats 4000000 in
theorem each1_in (n : Nat) (hn : 1 ≤ n) (n0 l Bs S : Nat) (J Jx : List Nat → World → Prop) (_hJd : ∀ s w, J s w → J s w.drew)
    (hY : ∀ pre x W, J pre W → pre.length < 256 → S.testBit x = true ∧ x < 256 → YieldAt Fence.wide (n - 1) Tryd.prog l #[.int .i64 (x : Nat)] W fun e W' =>
      (e = .returned (.bool true) ∧ J (pre ++ [x]) W' ∧ Below n0 W W') ∨ (e = .returned (.bool false) ∧ Jx (pre ++ [x]) W'))
    (W : World) (hs : SetB W Bs S) (hT : Tab W) (hg : 0 < n0) (h0 : J [] W) :
    CallsIn Fence.wide n Tryd.prog 44 #[.func (.yield l) #[] #[], .pointer (some ⟨Bs, 0, none⟩)] W fun e W' => (∃ v, e = .returned v) ∧
      ((∃ ys, ys = listN S ∧ J ys W') ∨ (∃ pre, Jx pre W')) := by
  refine callsIn_of_wp Tryd.func44 rfl trivial ?_ rfl
  simp only [Tryd.ntmps44, List.size_toArray, List.length_cons, List.length_nil, Nat.reduceAdd, Nat.reduceSub, Array.replicate_succ, Array.replicate_zero, List.push_toArray, List.append_toArray, List.nil_append, List.cons_append]
  refine wpIn_wide.2 ?_
  go_upto_region 1 with (refine wpList_load_set rfl (.tmp 1) rfl Bs S rfl hs ?_)
  refine (wpIn_wide (n := n)).1 ?_
  gi_loopw [6] (fun i wr => ∃ k : Nat, i = .int .i64 k ∧ k ≤ 4 ∧ Hid (J (upTo S k) wr) ∧ Hid (Below n0 W wr)) (fun i _ => 4 - (intOf i).toNat)
  case atStart => exact ⟨0, rfl, by decide, Lib.hid (by rw [upTo_zero]; exact h0), Lib.hid (Below.refl _ _)⟩
  case round =>
    obtain ⟨k, rfl, hk, HJ, HB⟩ := hrel
    generalize hwr : wr = w2 at *
    clear hwr wr
    by_cases hlt : k < 4
    · have hdd : decide ((k : Int) < 4) = true := decide_eq_true (by omega)
      have hd2 : decide (k < 4) = true := decide_eq_true hlt
      have HW1 : Hid (wrap64 ((k : Int) + 1) = ((k + 1 : Nat) : Int)) := Lib.hid (by unfold wrap64; omega)
      have hix := idxk S k hlt
      unfold setC
      gi_wp2
      have HK := Lib.hid hlt
      clear hdd hd2 hix hlt
      gi_loopw [4] (fun x wr => ∃ (r : Nat) (pre : List Nat), x = .int .u64 r ∧ Hid (r < 18446744073709551616) ∧ Hid (pre ++ bitsOf k r = upTo S (k + 1)) ∧ Hid (J pre wr) ∧ Hid (Below n0 W wr)) (fun x _ => (intOf x).toNat)
      case atStart => exact ⟨wd S k, upTo S k, rfl, Lib.hid (wd_lt S k), Lib.hid (upTo_succ S k).symm, HJ, HB⟩
      case round =>
        obtain ⟨r, pre, rfl, HR, HP, HJ2, HB2⟩ := hrel
        generalize hwr : wr = w3 at *
        clear hwr wr
        by_cases hr : r = 0
        · subst hr
          have HE : Hid (pre = upTo S (k + 1)) := Lib.hid (by rw [← HP.out, bitsOf_zero, List.append_nil])
          gi_wp2
          go_roundw
          case rel => exact ⟨k + 1, by first | rw [HW1.out] | rfl, by have := HK.out; omega, Lib.hid (by rw [← HE.out]; exact HJ2.out), HB2⟩
          case measure => have := HK.out; simp only [intOf]; omega
        · have hne := ne_zero_b hr
          have HS := Lib.hid (bitsOf_step k r hr HR.out)
          obtain ⟨n1, n2⟩ := tz_num k r HK.out hr HR.out
          have hcw := clear_word r hr HR.out
          have HLT := Lib.hid (clear_lt r hr)
          have HLEN : Hid (pre.length < 256) := Lib.hid (by
            have h1 := upTo_length S (k + 1)
            rw [← HP.out, HS.out, List.length_append, List.length_cons] at h1
            have := HK.out
            omega)
          have HT3 := Lib.hid (hT.below HB2.out hg)
          have HTZ := Lib.hid (tz_any r w3 HR.out hr HT3.out)
          have hr63 : r < 18446744073709551616 := HR.out
          have HIN : Hid (S.testBit (64 * k + Lib.ctz 64 r) = true ∧ 64 * k + Lib.ctz 64 r < 256) := Lib.hid (by
            have hm : 64 * k + Lib.ctz 64 r ∈ upTo S (k + 1) := by rw [← HP.out, HS.out]; simp
            unfold upTo at hm
            rw [List.mem_filter, List.mem_range] at hm
            have := HK.out
            exact ⟨hm.2, by omega⟩)
          obtain ⟨fn, tmps, assign, body, hy, hR⟩ := hY pre (64 * k + Lib.ctz 64 r) w3 HJ2.out HLEN.out HIN.out
          clear HIN
          have HRR := Lib.hid hR
          clear hR hr63
          have HZ := Lib.hid (ctz_bit r hr HR.out).2.2
          generalize Lib.ctz 64 r = z at *
          have HR0 := Lib.hid hr
          clear hr
          have hz := HZ.out
          rw [show ((64 * k + z : Nat) : Int) = (k : Int) * 64 + (z : Int) from by omega] at hy
          clear n1 n2
          gi_wp2_with (refine ⟨trivial, (callsIn_wide.2 HTZ.out).mono ?_⟩; rintro e w4 ⟨rfl, rfl⟩)
          refine HRR.out.mono ?_
          rintro e W3 (⟨rfl, hJ3, hk3⟩ | ⟨rfl, hJx3⟩)
          · gi_wp2
            go_roundw
            case rel => exact ⟨r &&& (r - 1), pre ++ [64 * k + z], rfl, Lib.hid (Nat.lt_of_le_of_lt Nat.and_le_left HR.out), Lib.hid (by rw [List.append_assoc]; rw [HS.out] at HP; exact HP.out), Lib.hid hJ3, Lib.hid (HB2.out.trans hk3)⟩
            case measure => have := HLT.out; simp only [intOf]; omega
          · gi_wp2
            refine bodyPost_ret (results_none rfl _ _ _) rfl ?_
            exact ⟨⟨_, rfl⟩, .inr ⟨_, hJx3⟩⟩
    · have hke : k = 4 := by omega
      subst hke
      gi_wp2
      go_end0
      exact ⟨⟨_, rfl⟩, .inl ⟨_, rfl, by rw [← upTo_four]; exact HJ.out⟩⟩
/-- a spot of S -/
abbrev In (S : Nat) := { k : Nat // S.testBit k = true ∧ k < 256 }
theorem each_stops (n : Nat) (hn : 1 ≤ n) (n0 Bs S : Nat) (w : World) (hs : SetB w Bs S) (hT : Tab w) (hg : 0 < n0) (h0 : n0 ≤ w.heap.size) :
    SeqStopsK Fence.wide n Tryd.prog 44 #[.pointer (some ⟨Bs, 0, none⟩)] (fun k : In S => #[.int .i64 (k.1 : Nat)]) (Below n0)
      (fun ys => ys.map Subtype.val = listN S) (fun _ => True) 256 w := fun l J Jx W hW hJ hJx hY h1 => by
  refine (each1_in n hn n0 l Bs S (fun p W => ∃ q : List (In S), q.map Subtype.val = p ∧ J q W) (fun p W => ∃ q : List (In S), q.map Subtype.val = p ∧ Jx q W) (fun s w' ⟨q, e, hj⟩ => ⟨q, e, hJ q w' _ none hj ⟨rfl, rfl, rfl, Nat.le_refl _, fun _ _ _ => rfl⟩ (fun r e => by cases e)⟩) ?_ W (hs.stay hW) (hT.below hW (Nat.lt_of_lt_of_le hg h0)) hg ⟨[], rfl, h1⟩).mono ?_
  · rintro pre x W1 ⟨q, rfl, hj⟩ hl hx
    obtain ⟨fn, tmps, assign, body, hy, hR⟩ := hY q ⟨x, hx⟩ W1 hj (by rw [List.length_map] at hl; exact hl)
    refine ⟨fn, tmps, assign, body, hy, hR.mono ?_⟩
    rintro e W2 (⟨rfl, h2, h3⟩ | ⟨rfl, h2⟩)
    · exact .inl ⟨rfl, ⟨_, by simp, h2⟩, h3⟩
    · exact .inr ⟨rfl, ⟨_, by simp, h2⟩⟩
  · rintro e W' ⟨he, ⟨ys, hy, q, hq, hj⟩ | ⟨pre, q, hq, hj⟩⟩
    · exact ⟨he, .inl ⟨q, hq.trans hy, hj⟩⟩
    · exact ⟨he, .inr ⟨q, trivial, hj⟩⟩
theorem keeps_but {B S : Nat} {w w' : World} (h : But B w w') (hs : SetB w B S) : KeepsOthers w w' :=
  ⟨h.size, fun k o hk ho => by
    by_cases e : k = B
    · subst e; rw [hs.row] at hk; cases hk; cases ho
    · exact (h.block k (Array.getElem?_eq_some_iff.1 hk).1 e).trans hk⟩
theorem keeps_below {w w' : World} (h : Below w.heap.size w w') : KeepsOthers w w' := ⟨h.size, fun k _ hk _ => (h.block k (Array.getElem?_eq_some_iff.1 hk).1).trans hk⟩
theorem SetB.grown {w w' : World} {row : Option Nat} {B S : Nat} (h : SetB w B S) (hg : w.grownBy w' row) (hne : some B ≠ row) : SetB w' B S := h.of (hg.block B h.lt hne)
theorem cell_grown {w w' : World} {row : Option Nat} {B i : Nat} {v : Value} (h : w.cell? ⟨B, i, none⟩ = some v) (hg : w.grownBy w' row) (hne : some B ≠ row) : w'.cell? ⟨B, i, none⟩ = some v :=
  (World.cell?_of_block (w := w) (hg.block B (World.block_lt_of_cell? _ _ h) hne)).trans h
end Nf
end Go.Proofs.YtlbaecjmfgahgaaDoor
