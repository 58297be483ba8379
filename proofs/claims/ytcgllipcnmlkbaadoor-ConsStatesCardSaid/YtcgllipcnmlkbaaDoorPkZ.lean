/- The chapter's constraints: their trees and places, computed. -/
import Derived.Test.YtcgllipcnmlkbaaDoorPkV
import Derived.Test.YtcgllipcnmlkbaaDoorPkO
import Derived.Test.YtcgllipcnmlkbaaDoorPkR
namespace Go.Proofs.YtcgllipcnmlkbaaDoor
open Go.RowKit Sets Tr Rx Sp
theorem parts_F {N : List Nd} {R : List (Int × Bool)} (h : Tz.rightC N R = true) : parts N R = R.map fun p => (Tz.absF N (p.1.toNat + 1) p.1.toNat, p.2) := by
  have hr := (Tz.rightC_iff N R).1 h
  unfold parts
  refine List.map_congr_left (fun p hp => ?_)
  have h1 := hr.rts p.1 (List.mem_map.2 ⟨p, hp, rfl⟩)
  obtain ⟨t, ht, hrt⟩ := is_of_low hr.low p.1.toNat (by omega)
  rw [← hrt, tr_of ht, Tz.abs_F N t t.root ht (Nat.le_refl _)]
namespace St
def sA : Nd := ⟨2, 2 ^ 97, 0, 0, 0, 0⟩
def sB : Nd := ⟨2, 2 ^ 98, 0, 0, 0, 0⟩
def sC : Nd := ⟨2, 2 ^ 99, 0, 0, 0, 0⟩
def n0 : List Nd := [sA, sB, ⟨3, 0, 0, 1, 0, 0⟩, sC, ⟨4, 0, 2, 3, 0, 0⟩]
def r0 : List (Int × Bool) := [(4, false)]
theorem c0 : cons (by' ⟨#[97, 98, 124, 99]⟩) = .ok 4 n0 r0 := by rw [cons_eq (by_lt _)]; kernel_rfl
theorem h0 : Tz.rightC n0 r0 = true := by decide +kernel
theorem p0 : plOf n0 r0 ≤ 63 := by rw [Tz.plOf_Cz]; decide +kernel
theorem m0 : Sp.md (parts n0 r0) = ⟨[2 ^ 97, 2 ^ 98, 2 ^ 99], [2, 0, 0], [5], [6], [false], [false]⟩ := by rw [parts_F h0]; kernel_rfl
def n1 : List Nd := [sA, sB, ⟨3, 0, 0, 1, 0, 0⟩, ⟨5, 0, 2, 0, 0, -1⟩]
def r1 : List (Int × Bool) := [(3, false)]
theorem c1 : cons (by' ⟨#[40, 97, 98, 41, 42]⟩) = .ok 5 n1 r1 := by rw [cons_eq (by_lt _)]; kernel_rfl
theorem h1 : Tz.rightC n1 r1 = true := by decide +kernel
theorem p1 : plOf n1 r1 ≤ 63 := by rw [Tz.plOf_Cz]; decide +kernel
theorem m1 : Sp.md (parts n1 r1) = ⟨[2 ^ 97, 2 ^ 98], [2, 1], [1], [2], [true], [false]⟩ := by rw [parts_F h1]; kernel_rfl
def n2 : List Nd := [sA, ⟨5, 0, 0, 0, 2, 3⟩]
def r2 : List (Int × Bool) := [(1, false)]
theorem c2 : cons (by' ⟨#[97, 123, 50, 44, 51, 125]⟩) = .ok 6 n2 r2 := by rw [cons_eq (by_lt _)]; kernel_rfl
theorem h2 : Tz.rightC n2 r2 = true := by decide +kernel
theorem p2 : plOf n2 r2 ≤ 63 := by rw [Tz.plOf_Cz]; decide +kernel
theorem m2 : Sp.md (parts n2 r2) = ⟨[2 ^ 97, 2 ^ 97, 2 ^ 97], [2, 4, 0], [1], [6], [false], [false]⟩ := by rw [parts_F h2]; kernel_rfl
def n3 : List Nd := [sA, sB]
def r3 : List (Int × Bool) := [(0, false), (1, true)]
theorem c3 : cons (by' ⟨#[97, 38, 33, 98]⟩) = .ok 4 n3 r3 := by rw [cons_eq (by_lt _)]; kernel_rfl
theorem h3 : Tz.rightC n3 r3 = true := by decide +kernel
theorem p3 : plOf n3 r3 ≤ 63 := by rw [Tz.plOf_Cz]; decide +kernel
theorem m3 : Sp.md (parts n3 r3) = ⟨[2 ^ 97, 2 ^ 98], [0, 0], [1, 2], [1, 2], [false, false], [false, true]⟩ := by rw [parts_F h3]; kernel_rfl
def n4 : List Nd := [sA, ⟨5, 0, 0, 0, 0, 0⟩, sB, ⟨5, 0, 2, 0, 9, 9⟩, ⟨5, 0, 3, 0, 0, 0⟩, ⟨3, 0, 1, 4, 0, 0⟩]
def r4 : List (Int × Bool) := [(5, false)]
theorem c4 : cons (by' ⟨#[97, 123, 48, 125, 40, 98, 123, 57, 125, 41, 123, 48, 125]⟩) = .ok 13 n4 r4 := by rw [cons_eq (by_lt _)]; kernel_rfl
theorem h4 : Tz.rightC n4 r4 = true := by decide +kernel
theorem p4 : plOf n4 r4 ≤ 63 := by rw [Tz.plOf_Cz]; decide +kernel
theorem m4 : Sp.md (parts n4 r4) = ⟨[], [], [0], [0], [true], [false]⟩ := by rw [parts_F h4]; kernel_rfl
end St
end Go.Proofs.YtcgllipcnmlkbaaDoor
