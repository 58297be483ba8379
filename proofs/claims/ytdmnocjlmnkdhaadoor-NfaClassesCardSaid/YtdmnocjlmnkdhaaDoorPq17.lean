/- slices.Chunk over a row of sets: its rounds. -/
import Derived.Test.YtdmnocjlmnkdhaaDoorPq16
import Derived.RangeFuncNested
import Derived.RangeFuncBound
import Derived.RangeFuncCalls
import Derived.RangeFuncLeaves
import Derived.Shelf.Abstract
import Derived.Shelf.RegionOpen
import Derived.OwnWalkIn
import Derived.TacticsInMore
import Derived.LoopNIn
import Derived.LoopIn
namespace Go.Proofs.YtdmnocjlmnkdhaaDoor
open Go.RowKit Go.Shelf Sets Cls
attribute [local go_sem] Oper.semAt_some
/-- The k-th part of a slice. -/
def chunkV (a : Option Addr) (len k : Nat) : Value :=
  match a with
  | none => .slice none 0 0
  | some x => .slice (some ⟨x.block, x.off + 64 * k * 4, none⟩) (min 64 (len - 64 * k)) (min 64 (len - 64 * k))
def chunkL (L : List Nat) (k : Nat) : List Nat := (L.drop (64 * k)).take 64
theorem chunkL_length (L : List Nat) (k : Nat) : (chunkL L k).length = min 64 (L.length - 64 * k) := by simp [chunkL]
theorem chunkL_get (L : List Nat) (k i : Nat) (h : i < (chunkL L k).length) : (chunkL L k).getD i 0 = L.getD (64 * k + i) 0 ∧ 64 * k + i < L.length := by
  rw [chunkL_length] at h
  refine ⟨?_, by omega⟩
  unfold chunkL
  rw [List.getD_eq_getElem?_getD, List.getD_eq_getElem?_getD, List.getElem?_take_of_lt (by omega), List.getElem?_drop]
theorem chunk_in {w : World} {a : Option Addr} {cap : Nat} {L : List Nat} (h : SetsIn w (.slice a L.length cap) L) (k : Nat) : SetsIn w (chunkV a L.length k) (chunkL L k) := by
  obtain ⟨hm, a', cap', he, hcap, hc⟩ := h
  injection he with h1 h2 h3
  subst h1 h3
  have hl := chunkL_length L k
  refine ⟨by omega, ?_⟩
  cases a with
  | none =>
    have : L.length = 0 := by
      rcases Nat.eq_zero_or_pos L.length with h | h
      · exact h
      · obtain ⟨b, o, e, -⟩ := hc 0 h; cases e
    have h0 : (chunkL L k).length = 0 := by omega
    exact ⟨none, 0, by unfold chunkV; rw [h0], by omega, fun i hi => by omega⟩
  | some x =>
    refine ⟨some ⟨x.block, x.off + 64 * k * 4, none⟩, _, by unfold chunkV; rw [hl], by omega, fun i hi => ?_⟩
    obtain ⟨e, hlt⟩ := chunkL_get L k i hi
    obtain ⟨b, o, hx, hq⟩ := hc _ hlt
    injection hx with hx
    subst hx
    refine ⟨_, _, rfl, fun q hq4 => ?_⟩
    have := hq q hq4
    rw [e]
    rw [show o + 64 * k * 4 + i * 4 + q = o + (64 * k + i) * 4 + q from by omega]
    exact this
/-- What a round keeps: the slice's and the number's variables. -/
def KeepC (Bs Bn : Nat) (A B : World) : Prop := B.cell? ⟨Bs, 0, none⟩ = A.cell? ⟨Bs, 0, none⟩ ∧ B.cell? ⟨Bn, 0, none⟩ = A.cell? ⟨Bn, 0, none⟩
theorem KeepC.trans {Bs Bn : Nat} {A B C : World} (h : KeepC Bs Bn A B) (k : KeepC Bs Bn B C) : KeepC Bs Bn A C := ⟨k.1.trans h.1, k.2.trans h.2⟩
def upto (k : Nat) : List Nat := List.range k
set_option maxRecDepth 100000 in
set_option maxHeartbeats 2000000 in
theorem chunk1_in (n : Nat) (hn : 1 ≤ n) (l Bs Bn b o cap : Nat) (len : Nat) (hlen : len * 32 ≤ 140737488351232) (hcap : len ≤ cap) (J Jx : List Nat → World → Prop) (hJd : ∀ s w, J s w → J s w.drew)
    (hY : ∀ pre x W, J pre W → pre.length < len → YieldAt Fence.wide (n - 1) Tryd.prog l #[chunkV (some ⟨b, o, none⟩) len x] W fun e W' =>
      (e = .returned (.bool true) ∧ J (pre ++ [x]) W' ∧ KeepC Bs Bn W W') ∨ (e = .returned (.bool false) ∧ Jx (pre ++ [x]) W'))
    (W : World) (hs : W.cell? ⟨Bs, 0, none⟩ = some (.slice (some ⟨b, o, none⟩) len cap)) (hN : W.cell? ⟨Bn, 0, none⟩ = some (.int .i64 64)) (h0 : J [] W) :
    CallsIn Fence.wide n Tryd.prog 32 #[.func (.yield l) #[] #[], .pointer (some ⟨Bs, 0, none⟩), .pointer (some ⟨Bn, 0, none⟩)] W fun e W' => (∃ v, e = .returned v) ∧
      ((∃ ys, (∃ k, 64 * k < len + 64 ∧ len ≤ 64 * k ∧ ys = upto k) ∧ J ys W') ∨ (∃ pre, Jx pre W')) := by
  refine callsIn_of_wp Tryd.func32 rfl trivial ?_ rfl
  simp only [Tryd.ntmps32, List.size_toArray, List.length_cons, List.length_nil, Nat.reduceAdd, Nat.reduceSub, Array.replicate_succ, Array.replicate_zero, List.push_toArray, List.append_toArray, List.nil_append, List.cons_append]
  gi_wp2
  gi_loopw [4] (fun i wr => ∃ k : Nat, 64 * k < len + 64 ∧ i = .int .i64 (64 * (k : Int)) ∧ J (upto k) wr ∧ KeepC Bs Bn W wr) (fun i _ => (len + 64) - (intOf i).toNat)
  case atStart => exact ⟨0, by omega, rfl, h0, rfl, rfl⟩
  case round =>
    obtain ⟨k, hk, rfl, hJs, hnx⟩ := hrel
    have s1 := hnx.1.trans hs
    have s2 := hnx.2.trans hN
    by_cases hlt : 64 * k < len
    · have hcp : 64 * (k : Int) < (cap : Int) := by omega
      have hcl : (len : Int) ≤ (cap : Int) := by omega
      have hll : 64 * (k : Int) ≤ (len : Int) := by omega
      have h0k : 0 ≤ 64 * (k : Int) := by omega
      have hbs := World.block_lt_of_cell? _ _ s1
      have hbn := World.block_lt_of_cell? _ _ s2
      gi_wp2
      refine wpIn_wide.2 ?_
      refine region_mix [(false, 0), (false, 1), (false, 2), (false, 3), (false, 4), (false, 5)] (fun w' => Below wr.heap.size wr w') (by kernel_rfl) (by kernel_rfl) ((Below.refl _ _).drew) ?_
      simp only [planOps, List.map_cons, List.map_nil, List.getD_cons_zero, List.getD_cons_succ, List.length_cons, List.length_nil, List.drop_succ_cons, List.drop_zero]
      refine mix_seg (seg := [_, _, _, _, _, _]) (rest := []) rfl ((Below.refl _ _).drew) ?_
      intro ι hι F hF
      have f1 := fun n => ((hF n).cell (p := ⟨Bs, 0, none⟩) hbs).trans s1
      have f2 := fun n => ((hF n).cell (p := ⟨Bn, 0, none⟩) hbn).trans s2
      repeat (go_big_quiet_step (fail))
      refine wpQuiet_nil ?_
      clear f1 f2 hF hι F
      obtain ⟨m, hm⟩ : ∃ m : Nat, m = min 64 (len - 64 * k) := ⟨_, rfl⟩
      rw [show (if ((len - 64 * k : Nat) : Int) < 64 then ((len - 64 * k : Nat) : Int) else 64) = (m : Int) from by split <;> omega]
      have hm0 : 0 < m := by omega
      have hm64 : m ≤ 64 := by omega
      have hmc : 64 * (k : Int) + (m : Int) ≤ (cap : Int) := by omega
      have hmc2 : (64 * (k : Int) + (m : Int)).toNat = 64 * k + m := by omega
      show wpList _ _ _ _ _ _
      go_wp2
      refine NoPanic.normal ?_
      have hch : chunkV (some ⟨b, o, none⟩) len k = .slice (some ⟨b, o + 64 * k * 4, none⟩) m m := by unfold chunkV; rw [hm]
      obtain ⟨fn, tmps, assign, body, hy, hR⟩ := hY _ k wr.drew (hJd _ _ hJs) (by rw [upto, List.length_range]; omega)
      rw [hch] at hy
      have HM := Lib.hid hm
      clear hm hch
      gi_wp2
      refine hR.mono ?_
      rintro e W3 (⟨rfl, hJ3, hk3⟩ | ⟨rfl, hJx3⟩)
      · have s3 := hk3.2.trans ((World.cell?_drew _ _).trans s2)
        have hsum : 64 * (k : Int) + 64 ≤ 9223372036854775807 := by omega
        gi_wp2
        go_roundw
        case rel => exact ⟨k + 1, by omega, by rw [show 64 * ((k + 1 : Nat) : Int) = 64 * (k : Int) + 64 from by omega], by rw [show upto (k + 1) = upto k ++ [k] from List.range_succ]; exact hJ3, hnx.trans hk3⟩
        case measure => simp [intOf]; omega
      · gi_wp2
        refine bodyPost_ret (results_none rfl _ _ _) rfl ?_
        exact ⟨⟨_, rfl⟩, .inr ⟨_, hJx3⟩⟩
    · gi_wp2
      go_end0
      exact ⟨⟨_, rfl⟩, .inl ⟨_, ⟨k, hk, by omega, rfl⟩, hJs⟩⟩
set_option maxRecDepth 100000 in
set_option maxHeartbeats 1000000 in
theorem chunk1_nil (n : Nat) (l Bs Bn cap : Nat) (a : Option Addr) (J : List Nat → World → Prop) (W : World) (hs : W.cell? ⟨Bs, 0, none⟩ = some (.slice a 0 cap)) (h0 : J [] W) :
    CallsIn Fence.wide n Tryd.prog 32 #[.func (.yield l) #[] #[], .pointer (some ⟨Bs, 0, none⟩), .pointer (some ⟨Bn, 0, none⟩)] W fun e W' => (∃ v, e = .returned v) ∧ J [] W' := by
  refine callsIn_of_wp Tryd.func32 rfl trivial ?_ rfl
  simp only [Tryd.ntmps32, List.size_toArray, List.length_cons, List.length_nil, Nat.reduceAdd, Nat.reduceSub, Array.replicate_succ, Array.replicate_zero, List.push_toArray, List.append_toArray, List.nil_append, List.cons_append]
  gi_wp2
  gi_loopw [4] (fun i wr => i = .int .i64 0 ∧ J [] wr ∧ Below W.heap.size W wr) (fun _ _ => 0)
  case atStart => exact ⟨rfl, h0, Below.refl _ _⟩
  case round =>
    obtain ⟨rfl, hJs, hnx⟩ := hrel
    have s1 := (hnx.cell (p := ⟨Bs, 0, none⟩) (World.block_lt_of_cell? _ _ hs)).trans hs
    gi_wp2
    go_end0
    exact ⟨⟨_, rfl⟩, hJs⟩
set_option maxHeartbeats 1000000 in
theorem chunk_any (a : Option Addr) (len cap : Nat) (w : World) :
    Calls Tryd.prog 14 #[.slice a len cap, .int .i64 64] w fun e w' =>
      e = .returned (.func (.func 32) #[] #[.pointer (some ⟨w.heap.size, 0, none⟩), .pointer (some ⟨w.heap.size + 1, 0, none⟩)]) ∧ w' = (w.alloc (.cells #[.slice a len cap] 35)).alloc (.cells #[.int .i64 64] 3) := by
  go_enter Tryd.func14, Tryd.ntmps14
  go_wp2
  go_ret
  exact ⟨rfl, rfl⟩
theorem chunk_stops (n : Nat) (hn : 1 ≤ n) (Bs Bn : Nat) (a : Option Addr) (cap : Nat) (L : List Nat) (hreach : L.length * 32 ≤ 140737488351232) (w : World) (hBs : Bs < w.heap.size) (hBn : Bn < w.heap.size)
    (hs : w.cell? ⟨Bs, 0, none⟩ = some (.slice a L.length cap)) (hN : w.cell? ⟨Bn, 0, none⟩ = some (.int .i64 64)) (hI : SetsIn w (.slice a L.length cap) L) :
    SeqStopsK Fence.wide n Tryd.prog 32 #[.pointer (some ⟨Bs, 0, none⟩), .pointer (some ⟨Bn, 0, none⟩)] (fun k : Nat => #[chunkV a L.length k]) (KeepC Bs Bn)
      (fun ys => ∃ k, 64 * k < L.length + 64 ∧ L.length ≤ 64 * k ∧ ys = upto k) (fun _ => True) L.length w := fun l J Jx W hW hJ hJx hY h0 => by
  have hs' := (hW.cell (p := ⟨Bs, 0, none⟩) hBs).trans hs
  have hN' := (hW.cell (p := ⟨Bn, 0, none⟩) hBn).trans hN
  obtain ⟨hm, a', cap', he, hcap, hc⟩ := hI
  injection he with h1 h2 h3
  subst h1 h3
  by_cases hl0 : L.length = 0
  · rw [hl0] at hs'
    exact (chunk1_nil n l Bs Bn cap a J W hs' h0).mono fun e W' ⟨he, hj⟩ => ⟨he, .inl ⟨[], ⟨0, by omega, by omega, rfl⟩, hj⟩⟩
  · obtain ⟨b, o, rfl, -⟩ := hc 0 (by omega)
    refine (chunk1_in n hn l Bs Bn b o cap L.length hreach hcap J Jx (fun s w' hj => hJ s w' _ none hj ⟨rfl, rfl, rfl, Nat.le_refl _, fun _ _ _ => rfl⟩ (fun r e => by cases e)) hY W hs' hN' h0).mono ?_
    rintro e W' ⟨he, ⟨ys, ⟨k, h1, h2, rfl⟩, hj⟩ | ⟨pre, hj⟩⟩
    · exact ⟨he, .inl ⟨_, ⟨k, h1, h2, rfl⟩, hj⟩⟩
    · exact ⟨he, .inr ⟨pre, trivial, hj⟩⟩
end Go.Proofs.YtdmnocjlmnkdhaaDoor
