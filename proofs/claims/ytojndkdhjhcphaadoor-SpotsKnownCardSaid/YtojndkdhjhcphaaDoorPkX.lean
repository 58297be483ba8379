/- SpotsKnown. -/
import Derived.Test.YtojndkdhjhcphaaDoorPk17
namespace Go.Proofs.YtojndkdhjhcphaaDoor
open Go.RowKit Sets Tr Rx Sp
structure Kp (w : World) (L : List (Addr × Value)) (U : List (Value × List Nat)) : Prop where
  c : ∀ x ∈ L, w.cell? x.1 = some x.2
  u : ∀ x ∈ U, UAt w x.1 x.2
theorem Kp.kept {w w' : World} {L : List (Addr × Value)} {U : List (Value × List Nat)} (h : Kp w L U) (hb : Below w.heap.size w w') : Kp w' L U :=
  ⟨fun x hx => (hb.cell (World.block_lt_of_cell? _ _ (h.c x hx))).trans (h.c x hx), fun x hx => (h.u x hx).kept hb⟩
theorem Kp.nil (w : World) : Kp w [] [] := ⟨fun x hx => (by cases hx), fun x hx => (by cases hx)⟩
theorem Kp.cell {w : World} {L : List (Addr × Value)} {U : List (Value × List Nat)} (h : Kp w L U) {a : Addr} {v : Value} (ha : w.cell? a = some v) : Kp w ((a, v) :: L) U :=
  ⟨fun x hx => (by rcases List.mem_cons.1 hx with rfl | hx; exact ha; exact h.c x hx), h.u⟩
theorem Kp.nums {w : World} {L : List (Addr × Value)} {U : List (Value × List Nat)} (h : Kp w L U) {v : Value} {l : List Nat} (ha : UAt w v l) : Kp w L ((v, l) :: U) :=
  ⟨h.c, fun x hx => (by rcases List.mem_cons.1 hx with rfl | hx; exact ha; exact h.u x hx)⟩
theorem Kp.lt {w : World} {L : List (Addr × Value)} {U : List (Value × List Nat)} (h : Kp w L U) {x : Addr × Value} (hx : x ∈ L) : x.1.block < w.heap.size := World.block_lt_of_cell? _ _ (h.c x hx)
namespace St
def lN : List Nd := [⟨2, 0, 0, 0, 0, 0⟩, ⟨5, 0, 0, 0, 8, 8⟩, ⟨5, 0, 1, 0, 8, 8⟩]
def lR : List (Int × Bool) := [(2, false)]
def lC : Array Value := #[.int .u8 2, .int .u64 0, .int .u64 0, .int .u64 0, .int .u64 0, .int .i64 0, .int .i64 0, .int .i64 0, .int .i64 0, .int .u8 5, .int .u64 0, .int .u64 0, .int .u64 0, .int .u64 0, .int .i64 0, .int .i64 0, .int .i64 8, .int .i64 8, .int .u8 5, .int .u64 0, .int .u64 0, .int .u64 0, .int .u64 0, .int .i64 1, .int .i64 0, .int .i64 8, .int .i64 8]
theorem lC_eq : lC = (lN.flatMap nd9).toArray := by simp [lC, lN, nd9, wd_zero]
def lD : Array Value := #[.int .i64 2, .bool false]
theorem lD_eq : lD = (lR.flatMap pt2).toArray := rfl
theorem hl : Tz.rightC lN lR = true := by decide +kernel
theorem pl : 63 < plOf lN lR := by rw [Tz.plOf_Cz]; decide +kernel
theorem he : Tz.rightC [] [] = false := by decide +kernel
end St
theorem nodes_none (w : World) : NodesAt w (.slice none 0 0) [] := ⟨fun x hx => (by cases hx), (by decide), none, 0, rfl, fun i hi => (by cases hi)⟩
theorem parts_none (w : World) : PartsAt w (.slice none 0 0) [] := ⟨fun x hx => (by cases hx), (by decide), none, 0, rfl, fun i hi => (by cases hi)⟩
set_option maxHeartbeats 12800000 in
set_option maxRecDepth 100000 in
theorem sknown_any (w : World) (hT : Tab w) : Calls Tryd.prog 3 #[] w fun e w' => e = .returned (.bool true) ∧ Below w.heap.size w w' := by
  have hz := zeroNode
  have HO := Lib.hid (ofText_any _ _ _ _ w St.c1 ((Tz.rightB_C _ _).trans St.h1) St.p1 hT (tab_lt hT))
  have HT := Lib.hid hT
  clear hT
  go_enter Tryd.func3, Tryd.ntmps3
  go_wp2_with fail
  refine HO.out.mono ?_
  clear HO
  rintro e w1 ⟨hB, sv, a, b, fv, c, d, rfl, hM⟩
  rw [St.m1] at hM
  have HOne := Lib.hid (made_slices hM)
  obtain ⟨sa1, sc1, e0⟩ : ∃ q k, sv = .slice q 2 k := own_slice hM.s
  obtain ⟨fa1, fc1, e1⟩ : ∃ q k, a = .slice (some ⟨q, 0, none⟩) 1 k := own_some hM.fi (by decide)
  obtain ⟨la1, lc1, e2⟩ : ∃ q k, b = .slice (some ⟨q, 0, none⟩) 1 k := own_some hM.la (by decide)
  obtain ⟨va1, vc1, e3⟩ : ∃ q k, fv = .slice q 2 k := own_slice hM.f
  obtain ⟨ea1, ec1, e4⟩ : ∃ q k, c = .slice (some ⟨q, 0, none⟩) 1 k := own_some hM.em (by decide)
  obtain ⟨na1, nc1, e5⟩ : ∃ q k, d = .slice (some ⟨q, 0, none⟩) 1 k := own_some hM.nt (by decide)
  subst e0 e1 e2 e3 e4 e5
  have hal := (Below.refl w1.heap.size w1).alloc (Nat.le_refl _) (.cells (mdV (.slice sa1 2 sc1) (.slice (some ⟨fa1, 0, none⟩) 1 fc1) (.slice (some ⟨la1, 0, none⟩) 1 lc1) (.slice va1 2 vc1) (.slice (some ⟨ea1, 0, none⟩) 1 ec1) (.slice (some ⟨na1, 0, none⟩) 1 nc1)) 26)
  have hM2 := hM.kept hal
  have hr : (w1.alloc (.cells (mdV (.slice sa1 2 sc1) (.slice (some ⟨fa1, 0, none⟩) 1 fc1) (.slice (some ⟨la1, 0, none⟩) 1 lc1) (.slice va1 2 vc1) (.slice (some ⟨ea1, 0, none⟩) 1 ec1) (.slice (some ⟨na1, 0, none⟩) 1 nc1)) 26)).heap[w1.heap.size]? = some (.cells (mdV (.slice sa1 2 sc1) (.slice (some ⟨fa1, 0, none⟩) 1 fc1) (.slice (some ⟨la1, 0, none⟩) 1 lc1) (.slice va1 2 vc1) (.slice (some ⟨ea1, 0, none⟩) 1 ec1) (.slice (some ⟨na1, 0, none⟩) 1 nc1)) 26 (0, 0)) := heap_alloc_new w1 _
  obtain ⟨y0, y1, y2, y3, y4, y5⟩ := mdV_cells hr
  have x0 := bool_at hM2.em (j := 0) (by decide)
  have z0 := bool_at hM2.nt (j := 0) (by decide)
  have HK1 : Hid (Kp (w1.alloc (.cells (mdV (.slice sa1 2 sc1) (.slice (some ⟨fa1, 0, none⟩) 1 fc1) (.slice (some ⟨la1, 0, none⟩) 1 lc1) (.slice va1 2 vc1) (.slice (some ⟨ea1, 0, none⟩) 1 ec1) (.slice (some ⟨na1, 0, none⟩) 1 nc1)) 26)) [(⟨na1, 0, none⟩, .bool false), (⟨ea1, 0, none⟩, .bool true), (⟨w1.heap.size, 5, none⟩, .slice (some ⟨na1, 0, none⟩) 1 nc1), (⟨w1.heap.size, 4, none⟩, .slice (some ⟨ea1, 0, none⟩) 1 ec1), (⟨w1.heap.size, 3, none⟩, .slice va1 2 vc1), (⟨w1.heap.size, 2, none⟩, .slice (some ⟨la1, 0, none⟩) 1 lc1), (⟨w1.heap.size, 1, none⟩, .slice (some ⟨fa1, 0, none⟩) 1 fc1), (⟨w1.heap.size, 0, none⟩, .slice sa1 2 sc1)] [(.slice va1 2 vc1, [2, 1]), (.slice (some ⟨la1, 0, none⟩) 1 lc1, [2]), (.slice (some ⟨fa1, 0, none⟩) 1 fc1, [1])]) := Lib.hid ((((((((((((Kp.nil _).cell y0).cell y1).cell y2).cell y3).cell y4).cell y5).cell x0).cell z0).nums (UAt.of hM2.fi)).nums (UAt.of hM2.la)).nums (UAt.of hM2.f))
  have HB1 : Hid (Below w.heap.size w (w1.alloc (.cells (mdV (.slice sa1 2 sc1) (.slice (some ⟨fa1, 0, none⟩) 1 fc1) (.slice (some ⟨la1, 0, none⟩) 1 lc1) (.slice va1 2 vc1) (.slice (some ⟨ea1, 0, none⟩) 1 ec1) (.slice (some ⟨na1, 0, none⟩) 1 nc1)) 26))) := Lib.hid (hB.trans (hal.mono hB.size))
  clear hB hM hM2 hal hr y0 y1 y2 y3 y4 y5 x0 z0
  go_wp2_with (refine wpList_lay_made rfl _ _ rfl (mdV (.slice sa1 2 sc1) (.slice (some ⟨fa1, 0, none⟩) 1 fc1) (.slice (some ⟨la1, 0, none⟩) 1 lc1) (.slice va1 2 vc1) (.slice (some ⟨ea1, 0, none⟩) 1 ec1) (.slice (some ⟨na1, 0, none⟩) 1 nc1)) rfl HOne.out w1.heap.size rfl rfl rfl ?_)
  clear HOne
  generalize (w1.alloc (.cells (mdV (.slice sa1 2 sc1) (.slice (some ⟨fa1, 0, none⟩) 1 fc1) (.slice (some ⟨la1, 0, none⟩) 1 lc1) (.slice va1 2 vc1) (.slice (some ⟨ea1, 0, none⟩) 1 ec1) (.slice (some ⟨na1, 0, none⟩) 1 nc1)) 26)) = v1 at *
  generalize hD1 : w1.heap.size = D1 at *
  clear hD1
  clear w1
  refine (ofText_any _ _ _ _ v1 St.c2 ((Tz.rightB_C _ _).trans St.h2) St.p2 (HT.out.below HB1.out (tab_lt HT.out)) (tab_lt (HT.out.below HB1.out (tab_lt HT.out)))).mono ?_
  rintro e w2 ⟨hB, sv, a, b, fv, c, d, rfl, hM⟩
  rw [St.m2] at hM
  have HOne := Lib.hid (made_slices hM)
  obtain ⟨sa2, sc2, e0⟩ : ∃ q k, sv = .slice q 3 k := own_slice hM.s
  obtain ⟨fa2, fc2, e1⟩ : ∃ q k, a = .slice (some ⟨q, 0, none⟩) 1 k := own_some hM.fi (by decide)
  obtain ⟨la2, lc2, e2⟩ : ∃ q k, b = .slice (some ⟨q, 0, none⟩) 1 k := own_some hM.la (by decide)
  obtain ⟨va2, vc2, e3⟩ : ∃ q k, fv = .slice q 3 k := own_slice hM.f
  obtain ⟨ea2, ec2, e4⟩ : ∃ q k, c = .slice (some ⟨q, 0, none⟩) 1 k := own_some hM.em (by decide)
  obtain ⟨na2, nc2, e5⟩ : ∃ q k, d = .slice (some ⟨q, 0, none⟩) 1 k := own_some hM.nt (by decide)
  subst e0 e1 e2 e3 e4 e5
  have hal := (Below.refl w2.heap.size w2).alloc (Nat.le_refl _) (.cells (mdV (.slice sa2 3 sc2) (.slice (some ⟨fa2, 0, none⟩) 1 fc2) (.slice (some ⟨la2, 0, none⟩) 1 lc2) (.slice va2 3 vc2) (.slice (some ⟨ea2, 0, none⟩) 1 ec2) (.slice (some ⟨na2, 0, none⟩) 1 nc2)) 26)
  have hM2 := hM.kept hal
  have hr : (w2.alloc (.cells (mdV (.slice sa2 3 sc2) (.slice (some ⟨fa2, 0, none⟩) 1 fc2) (.slice (some ⟨la2, 0, none⟩) 1 lc2) (.slice va2 3 vc2) (.slice (some ⟨ea2, 0, none⟩) 1 ec2) (.slice (some ⟨na2, 0, none⟩) 1 nc2)) 26)).heap[w2.heap.size]? = some (.cells (mdV (.slice sa2 3 sc2) (.slice (some ⟨fa2, 0, none⟩) 1 fc2) (.slice (some ⟨la2, 0, none⟩) 1 lc2) (.slice va2 3 vc2) (.slice (some ⟨ea2, 0, none⟩) 1 ec2) (.slice (some ⟨na2, 0, none⟩) 1 nc2)) 26 (0, 0)) := heap_alloc_new w2 _
  obtain ⟨y0, y1, y2, y3, y4, y5⟩ := mdV_cells hr
  have x0 := bool_at hM2.em (j := 0) (by decide)
  have z0 := bool_at hM2.nt (j := 0) (by decide)
  have HK2 : Hid (Kp (w2.alloc (.cells (mdV (.slice sa2 3 sc2) (.slice (some ⟨fa2, 0, none⟩) 1 fc2) (.slice (some ⟨la2, 0, none⟩) 1 lc2) (.slice va2 3 vc2) (.slice (some ⟨ea2, 0, none⟩) 1 ec2) (.slice (some ⟨na2, 0, none⟩) 1 nc2)) 26)) [(⟨na2, 0, none⟩, .bool false), (⟨ea2, 0, none⟩, .bool false), (⟨w2.heap.size, 5, none⟩, .slice (some ⟨na2, 0, none⟩) 1 nc2), (⟨w2.heap.size, 4, none⟩, .slice (some ⟨ea2, 0, none⟩) 1 ec2), (⟨w2.heap.size, 3, none⟩, .slice va2 3 vc2), (⟨w2.heap.size, 2, none⟩, .slice (some ⟨la2, 0, none⟩) 1 lc2), (⟨w2.heap.size, 1, none⟩, .slice (some ⟨fa2, 0, none⟩) 1 fc2), (⟨w2.heap.size, 0, none⟩, .slice sa2 3 sc2), (⟨na1, 0, none⟩, .bool false), (⟨ea1, 0, none⟩, .bool true), (⟨D1, 5, none⟩, .slice (some ⟨na1, 0, none⟩) 1 nc1), (⟨D1, 4, none⟩, .slice (some ⟨ea1, 0, none⟩) 1 ec1), (⟨D1, 3, none⟩, .slice va1 2 vc1), (⟨D1, 2, none⟩, .slice (some ⟨la1, 0, none⟩) 1 lc1), (⟨D1, 1, none⟩, .slice (some ⟨fa1, 0, none⟩) 1 fc1), (⟨D1, 0, none⟩, .slice sa1 2 sc1)] [(.slice va2 3 vc2, [2, 4, 0]), (.slice (some ⟨la2, 0, none⟩) 1 lc2, [6]), (.slice (some ⟨fa2, 0, none⟩) 1 fc2, [1]), (.slice va1 2 vc1, [2, 1]), (.slice (some ⟨la1, 0, none⟩) 1 lc1, [2]), (.slice (some ⟨fa1, 0, none⟩) 1 fc1, [1])]) := Lib.hid ((((((((((((HK1.out.kept (hB.trans (hal.mono hB.size))).cell y0).cell y1).cell y2).cell y3).cell y4).cell y5).cell x0).cell z0).nums (UAt.of hM2.fi)).nums (UAt.of hM2.la)).nums (UAt.of hM2.f))
  have HB2 : Hid (Below w.heap.size w (w2.alloc (.cells (mdV (.slice sa2 3 sc2) (.slice (some ⟨fa2, 0, none⟩) 1 fc2) (.slice (some ⟨la2, 0, none⟩) 1 lc2) (.slice va2 3 vc2) (.slice (some ⟨ea2, 0, none⟩) 1 ec2) (.slice (some ⟨na2, 0, none⟩) 1 nc2)) 26))) := Lib.hid (HB1.out.trans ((hB.trans (hal.mono hB.size)).mono HB1.out.size))
  clear hB hM hM2 hal hr y0 y1 y2 y3 y4 y5 x0 z0 HK1 HB1
  go_wp2_with (refine wpList_lay_made rfl _ _ rfl (mdV (.slice sa2 3 sc2) (.slice (some ⟨fa2, 0, none⟩) 1 fc2) (.slice (some ⟨la2, 0, none⟩) 1 lc2) (.slice va2 3 vc2) (.slice (some ⟨ea2, 0, none⟩) 1 ec2) (.slice (some ⟨na2, 0, none⟩) 1 nc2)) rfl HOne.out w2.heap.size rfl rfl rfl ?_)
  clear HOne
  generalize (w2.alloc (.cells (mdV (.slice sa2 3 sc2) (.slice (some ⟨fa2, 0, none⟩) 1 fc2) (.slice (some ⟨la2, 0, none⟩) 1 lc2) (.slice va2 3 vc2) (.slice (some ⟨ea2, 0, none⟩) 1 ec2) (.slice (some ⟨na2, 0, none⟩) 1 nc2)) 26)) = v2 at *
  generalize hD2 : w2.heap.size = D2 at *
  clear hD2
  clear w2
  refine (ofText_any _ _ _ _ v2 St.c3 ((Tz.rightB_C _ _).trans St.h3) St.p3 (HT.out.below HB2.out (tab_lt HT.out)) (tab_lt (HT.out.below HB2.out (tab_lt HT.out)))).mono ?_
  rintro e w3 ⟨hB, sv, a, b, fv, c, d, rfl, hM⟩
  rw [St.m3] at hM
  have HOne := Lib.hid (made_slices hM)
  obtain ⟨sa3, sc3, e0⟩ : ∃ q k, sv = .slice q 2 k := own_slice hM.s
  obtain ⟨fa3, fc3, e1⟩ : ∃ q k, a = .slice (some ⟨q, 0, none⟩) 2 k := own_some hM.fi (by decide)
  obtain ⟨la3, lc3, e2⟩ : ∃ q k, b = .slice (some ⟨q, 0, none⟩) 2 k := own_some hM.la (by decide)
  obtain ⟨va3, vc3, e3⟩ : ∃ q k, fv = .slice q 2 k := own_slice hM.f
  obtain ⟨ea3, ec3, e4⟩ : ∃ q k, c = .slice (some ⟨q, 0, none⟩) 2 k := own_some hM.em (by decide)
  obtain ⟨na3, nc3, e5⟩ : ∃ q k, d = .slice (some ⟨q, 0, none⟩) 2 k := own_some hM.nt (by decide)
  subst e0 e1 e2 e3 e4 e5
  have hal := (Below.refl w3.heap.size w3).alloc (Nat.le_refl _) (.cells (mdV (.slice sa3 2 sc3) (.slice (some ⟨fa3, 0, none⟩) 2 fc3) (.slice (some ⟨la3, 0, none⟩) 2 lc3) (.slice va3 2 vc3) (.slice (some ⟨ea3, 0, none⟩) 2 ec3) (.slice (some ⟨na3, 0, none⟩) 2 nc3)) 26)
  have hM2 := hM.kept hal
  have hr : (w3.alloc (.cells (mdV (.slice sa3 2 sc3) (.slice (some ⟨fa3, 0, none⟩) 2 fc3) (.slice (some ⟨la3, 0, none⟩) 2 lc3) (.slice va3 2 vc3) (.slice (some ⟨ea3, 0, none⟩) 2 ec3) (.slice (some ⟨na3, 0, none⟩) 2 nc3)) 26)).heap[w3.heap.size]? = some (.cells (mdV (.slice sa3 2 sc3) (.slice (some ⟨fa3, 0, none⟩) 2 fc3) (.slice (some ⟨la3, 0, none⟩) 2 lc3) (.slice va3 2 vc3) (.slice (some ⟨ea3, 0, none⟩) 2 ec3) (.slice (some ⟨na3, 0, none⟩) 2 nc3)) 26 (0, 0)) := heap_alloc_new w3 _
  obtain ⟨y0, y1, y2, y3, y4, y5⟩ := mdV_cells hr
  have x0 := bool_at hM2.em (j := 0) (by decide)
  have x1 := bool_at hM2.em (j := 1) (by decide)
  have z0 := bool_at hM2.nt (j := 0) (by decide)
  have z1 := bool_at hM2.nt (j := 1) (by decide)
  have HK3 : Hid (Kp (w3.alloc (.cells (mdV (.slice sa3 2 sc3) (.slice (some ⟨fa3, 0, none⟩) 2 fc3) (.slice (some ⟨la3, 0, none⟩) 2 lc3) (.slice va3 2 vc3) (.slice (some ⟨ea3, 0, none⟩) 2 ec3) (.slice (some ⟨na3, 0, none⟩) 2 nc3)) 26)) [(⟨na3, 1, none⟩, .bool true), (⟨na3, 0, none⟩, .bool false), (⟨ea3, 1, none⟩, .bool false), (⟨ea3, 0, none⟩, .bool false), (⟨w3.heap.size, 5, none⟩, .slice (some ⟨na3, 0, none⟩) 2 nc3), (⟨w3.heap.size, 4, none⟩, .slice (some ⟨ea3, 0, none⟩) 2 ec3), (⟨w3.heap.size, 3, none⟩, .slice va3 2 vc3), (⟨w3.heap.size, 2, none⟩, .slice (some ⟨la3, 0, none⟩) 2 lc3), (⟨w3.heap.size, 1, none⟩, .slice (some ⟨fa3, 0, none⟩) 2 fc3), (⟨w3.heap.size, 0, none⟩, .slice sa3 2 sc3), (⟨na2, 0, none⟩, .bool false), (⟨ea2, 0, none⟩, .bool false), (⟨D2, 5, none⟩, .slice (some ⟨na2, 0, none⟩) 1 nc2), (⟨D2, 4, none⟩, .slice (some ⟨ea2, 0, none⟩) 1 ec2), (⟨D2, 3, none⟩, .slice va2 3 vc2), (⟨D2, 2, none⟩, .slice (some ⟨la2, 0, none⟩) 1 lc2), (⟨D2, 1, none⟩, .slice (some ⟨fa2, 0, none⟩) 1 fc2), (⟨D2, 0, none⟩, .slice sa2 3 sc2), (⟨na1, 0, none⟩, .bool false), (⟨ea1, 0, none⟩, .bool true), (⟨D1, 5, none⟩, .slice (some ⟨na1, 0, none⟩) 1 nc1), (⟨D1, 4, none⟩, .slice (some ⟨ea1, 0, none⟩) 1 ec1), (⟨D1, 3, none⟩, .slice va1 2 vc1), (⟨D1, 2, none⟩, .slice (some ⟨la1, 0, none⟩) 1 lc1), (⟨D1, 1, none⟩, .slice (some ⟨fa1, 0, none⟩) 1 fc1), (⟨D1, 0, none⟩, .slice sa1 2 sc1)] [(.slice va3 2 vc3, [0, 0]), (.slice (some ⟨la3, 0, none⟩) 2 lc3, [1, 2]), (.slice (some ⟨fa3, 0, none⟩) 2 fc3, [1, 2]), (.slice va2 3 vc2, [2, 4, 0]), (.slice (some ⟨la2, 0, none⟩) 1 lc2, [6]), (.slice (some ⟨fa2, 0, none⟩) 1 fc2, [1]), (.slice va1 2 vc1, [2, 1]), (.slice (some ⟨la1, 0, none⟩) 1 lc1, [2]), (.slice (some ⟨fa1, 0, none⟩) 1 fc1, [1])]) := Lib.hid ((((((((((((((HK2.out.kept (hB.trans (hal.mono hB.size))).cell y0).cell y1).cell y2).cell y3).cell y4).cell y5).cell x0).cell x1).cell z0).cell z1).nums (UAt.of hM2.fi)).nums (UAt.of hM2.la)).nums (UAt.of hM2.f))
  have HB3 : Hid (Below w.heap.size w (w3.alloc (.cells (mdV (.slice sa3 2 sc3) (.slice (some ⟨fa3, 0, none⟩) 2 fc3) (.slice (some ⟨la3, 0, none⟩) 2 lc3) (.slice va3 2 vc3) (.slice (some ⟨ea3, 0, none⟩) 2 ec3) (.slice (some ⟨na3, 0, none⟩) 2 nc3)) 26))) := Lib.hid (HB2.out.trans ((hB.trans (hal.mono hB.size)).mono HB2.out.size))
  clear hB hM hM2 hal hr y0 y1 y2 y3 y4 y5 x0 x1 z0 z1 HK2 HB2
  go_wp2_with (refine wpList_lay_made rfl _ _ rfl (mdV (.slice sa3 2 sc3) (.slice (some ⟨fa3, 0, none⟩) 2 fc3) (.slice (some ⟨la3, 0, none⟩) 2 lc3) (.slice va3 2 vc3) (.slice (some ⟨ea3, 0, none⟩) 2 ec3) (.slice (some ⟨na3, 0, none⟩) 2 nc3)) rfl HOne.out w3.heap.size rfl rfl rfl ?_)
  clear HOne
  generalize (w3.alloc (.cells (mdV (.slice sa3 2 sc3) (.slice (some ⟨fa3, 0, none⟩) 2 fc3) (.slice (some ⟨la3, 0, none⟩) 2 lc3) (.slice va3 2 vc3) (.slice (some ⟨ea3, 0, none⟩) 2 ec3) (.slice (some ⟨na3, 0, none⟩) 2 nc3)) 26)) = v3 at *
  generalize hD3 : w3.heap.size = D3 at *
  clear hD3
  clear w3
  refine (ofText_any _ _ _ _ v3 St.c4 ((Tz.rightB_C _ _).trans St.h4) St.p4 (HT.out.below HB3.out (tab_lt HT.out)) (tab_lt (HT.out.below HB3.out (tab_lt HT.out)))).mono ?_
  rintro e w4 ⟨hB, sv, a, b, fv, c, d, rfl, hM⟩
  rw [St.m4] at hM
  have HOne := Lib.hid (made_slices hM)
  obtain ⟨sa4, sc4, e0⟩ : ∃ q k, sv = .slice q 0 k := own_slice hM.s
  obtain ⟨fa4, fc4, e1⟩ : ∃ q k, a = .slice (some ⟨q, 0, none⟩) 1 k := own_some hM.fi (by decide)
  obtain ⟨la4, lc4, e2⟩ : ∃ q k, b = .slice (some ⟨q, 0, none⟩) 1 k := own_some hM.la (by decide)
  obtain ⟨va4, vc4, e3⟩ : ∃ q k, fv = .slice q 0 k := own_slice hM.f
  obtain ⟨ea4, ec4, e4⟩ : ∃ q k, c = .slice (some ⟨q, 0, none⟩) 1 k := own_some hM.em (by decide)
  obtain ⟨na4, nc4, e5⟩ : ∃ q k, d = .slice (some ⟨q, 0, none⟩) 1 k := own_some hM.nt (by decide)
  subst e0 e1 e2 e3 e4 e5
  have hal := (Below.refl w4.heap.size w4).alloc (Nat.le_refl _) (.cells (mdV (.slice sa4 0 sc4) (.slice (some ⟨fa4, 0, none⟩) 1 fc4) (.slice (some ⟨la4, 0, none⟩) 1 lc4) (.slice va4 0 vc4) (.slice (some ⟨ea4, 0, none⟩) 1 ec4) (.slice (some ⟨na4, 0, none⟩) 1 nc4)) 26)
  have hM2 := hM.kept hal
  have hr : (w4.alloc (.cells (mdV (.slice sa4 0 sc4) (.slice (some ⟨fa4, 0, none⟩) 1 fc4) (.slice (some ⟨la4, 0, none⟩) 1 lc4) (.slice va4 0 vc4) (.slice (some ⟨ea4, 0, none⟩) 1 ec4) (.slice (some ⟨na4, 0, none⟩) 1 nc4)) 26)).heap[w4.heap.size]? = some (.cells (mdV (.slice sa4 0 sc4) (.slice (some ⟨fa4, 0, none⟩) 1 fc4) (.slice (some ⟨la4, 0, none⟩) 1 lc4) (.slice va4 0 vc4) (.slice (some ⟨ea4, 0, none⟩) 1 ec4) (.slice (some ⟨na4, 0, none⟩) 1 nc4)) 26 (0, 0)) := heap_alloc_new w4 _
  obtain ⟨y0, y1, y2, y3, y4, y5⟩ := mdV_cells hr
  have x0 := bool_at hM2.em (j := 0) (by decide)
  have z0 := bool_at hM2.nt (j := 0) (by decide)
  have HK4 : Hid (Kp (w4.alloc (.cells (mdV (.slice sa4 0 sc4) (.slice (some ⟨fa4, 0, none⟩) 1 fc4) (.slice (some ⟨la4, 0, none⟩) 1 lc4) (.slice va4 0 vc4) (.slice (some ⟨ea4, 0, none⟩) 1 ec4) (.slice (some ⟨na4, 0, none⟩) 1 nc4)) 26)) [(⟨na4, 0, none⟩, .bool false), (⟨ea4, 0, none⟩, .bool true), (⟨w4.heap.size, 5, none⟩, .slice (some ⟨na4, 0, none⟩) 1 nc4), (⟨w4.heap.size, 4, none⟩, .slice (some ⟨ea4, 0, none⟩) 1 ec4), (⟨w4.heap.size, 3, none⟩, .slice va4 0 vc4), (⟨w4.heap.size, 2, none⟩, .slice (some ⟨la4, 0, none⟩) 1 lc4), (⟨w4.heap.size, 1, none⟩, .slice (some ⟨fa4, 0, none⟩) 1 fc4), (⟨w4.heap.size, 0, none⟩, .slice sa4 0 sc4), (⟨na3, 1, none⟩, .bool true), (⟨na3, 0, none⟩, .bool false), (⟨ea3, 1, none⟩, .bool false), (⟨ea3, 0, none⟩, .bool false), (⟨D3, 5, none⟩, .slice (some ⟨na3, 0, none⟩) 2 nc3), (⟨D3, 4, none⟩, .slice (some ⟨ea3, 0, none⟩) 2 ec3), (⟨D3, 3, none⟩, .slice va3 2 vc3), (⟨D3, 2, none⟩, .slice (some ⟨la3, 0, none⟩) 2 lc3), (⟨D3, 1, none⟩, .slice (some ⟨fa3, 0, none⟩) 2 fc3), (⟨D3, 0, none⟩, .slice sa3 2 sc3), (⟨na2, 0, none⟩, .bool false), (⟨ea2, 0, none⟩, .bool false), (⟨D2, 5, none⟩, .slice (some ⟨na2, 0, none⟩) 1 nc2), (⟨D2, 4, none⟩, .slice (some ⟨ea2, 0, none⟩) 1 ec2), (⟨D2, 3, none⟩, .slice va2 3 vc2), (⟨D2, 2, none⟩, .slice (some ⟨la2, 0, none⟩) 1 lc2), (⟨D2, 1, none⟩, .slice (some ⟨fa2, 0, none⟩) 1 fc2), (⟨D2, 0, none⟩, .slice sa2 3 sc2), (⟨na1, 0, none⟩, .bool false), (⟨ea1, 0, none⟩, .bool true), (⟨D1, 5, none⟩, .slice (some ⟨na1, 0, none⟩) 1 nc1), (⟨D1, 4, none⟩, .slice (some ⟨ea1, 0, none⟩) 1 ec1), (⟨D1, 3, none⟩, .slice va1 2 vc1), (⟨D1, 2, none⟩, .slice (some ⟨la1, 0, none⟩) 1 lc1), (⟨D1, 1, none⟩, .slice (some ⟨fa1, 0, none⟩) 1 fc1), (⟨D1, 0, none⟩, .slice sa1 2 sc1)] [(.slice va4 0 vc4, []), (.slice (some ⟨la4, 0, none⟩) 1 lc4, [0]), (.slice (some ⟨fa4, 0, none⟩) 1 fc4, [0]), (.slice va3 2 vc3, [0, 0]), (.slice (some ⟨la3, 0, none⟩) 2 lc3, [1, 2]), (.slice (some ⟨fa3, 0, none⟩) 2 fc3, [1, 2]), (.slice va2 3 vc2, [2, 4, 0]), (.slice (some ⟨la2, 0, none⟩) 1 lc2, [6]), (.slice (some ⟨fa2, 0, none⟩) 1 fc2, [1]), (.slice va1 2 vc1, [2, 1]), (.slice (some ⟨la1, 0, none⟩) 1 lc1, [2]), (.slice (some ⟨fa1, 0, none⟩) 1 fc1, [1])]) := Lib.hid ((((((((((((HK3.out.kept (hB.trans (hal.mono hB.size))).cell y0).cell y1).cell y2).cell y3).cell y4).cell y5).cell x0).cell z0).nums (UAt.of hM2.fi)).nums (UAt.of hM2.la)).nums (UAt.of hM2.f))
  have HB4 : Hid (Below w.heap.size w (w4.alloc (.cells (mdV (.slice sa4 0 sc4) (.slice (some ⟨fa4, 0, none⟩) 1 fc4) (.slice (some ⟨la4, 0, none⟩) 1 lc4) (.slice va4 0 vc4) (.slice (some ⟨ea4, 0, none⟩) 1 ec4) (.slice (some ⟨na4, 0, none⟩) 1 nc4)) 26))) := Lib.hid (HB3.out.trans ((hB.trans (hal.mono hB.size)).mono HB3.out.size))
  clear hB hM hM2 hal hr y0 y1 y2 y3 y4 y5 x0 z0 HK3 HB3
  go_wp2_with (refine wpList_lay_made rfl _ _ rfl (mdV (.slice sa4 0 sc4) (.slice (some ⟨fa4, 0, none⟩) 1 fc4) (.slice (some ⟨la4, 0, none⟩) 1 lc4) (.slice va4 0 vc4) (.slice (some ⟨ea4, 0, none⟩) 1 ec4) (.slice (some ⟨na4, 0, none⟩) 1 nc4)) rfl HOne.out w4.heap.size rfl rfl rfl ?_)
  clear HOne
  generalize (w4.alloc (.cells (mdV (.slice sa4 0 sc4) (.slice (some ⟨fa4, 0, none⟩) 1 fc4) (.slice (some ⟨la4, 0, none⟩) 1 lc4) (.slice va4 0 vc4) (.slice (some ⟨ea4, 0, none⟩) 1 ec4) (.slice (some ⟨na4, 0, none⟩) 1 nc4)) 26)) = v4 at *
  generalize hD4 : w4.heap.size = D4 at *
  clear hD4
  clear w4
  have hTa := HT.out.below HB4.out (tab_lt HT.out)
  refine (spotsOf_any _ _ [] [] v4 (nodes_none _) (parts_none _) hTa (tab_lt hTa)).mono ?_
  clear hTa
  rintro e w5 ⟨hB, hE⟩
  rw [Tz.rightB_C, St.he] at hE
  rcases hE with ⟨-, rfl⟩ | ⟨h5, -⟩ | ⟨h5, -⟩
  rotate_left
  · cases h5
  · cases h5
  have hal := hB.alloc hB.size (.cells nilMd 26)
  have HK5 := Lib.hid (HK4.out.kept hal)
  have HB5 := Lib.hid (HB4.out.trans (hal.mono HB4.out.size))
  clear hB hal HK4 HB4
  go_upto_region 6 with (refine wpList_lay_made rfl _ _ rfl nilMd rfl nil_ones w5.heap.size rfl rfl rfl ?_)
  generalize (w5.alloc (.cells nilMd 26)) = v5 at *
  generalize w5.heap.size = D5 at *
  clear w5
  go_wp2_with fail
  have hE0 := (Below.refl v5.heap.size v5).alloc (Nat.le_refl _) (.cells #[.int .u8 2, .int .u64 0, .int .u64 0, .int .u64 0, .int .u64 0, .int .i64 0, .int .i64 0, .int .i64 0, .int .i64 0] 39)
  have hE1 := hE0.alloc hE0.size (.cells St.lC 39)
  have hE2 := hE1.alloc hE1.size (.cells St.lD 41)
  have hE3 := hE2.alloc hE2.size (.cells #[.slice (some ⟨v5.heap.size + 1, 0, none⟩) 3 3, .slice (some ⟨v5.heap.size + 1 + 1, 0, none⟩) 1 1] 34)
  have hNw := Lt.nodes_lit (v5.alloc (.cells #[.int .u8 2, .int .u64 0, .int .u64 0, .int .u64 0, .int .u64 0, .int .i64 0, .int .i64 0, .int .i64 0, .int .i64 0] 39)) St.lN (Lt.okN_all (by decide +kernel)) (by decide) St.lC St.lC_eq
  have hPw := Lt.parts_lit ((v5.alloc (.cells #[.int .u8 2, .int .u64 0, .int .u64 0, .int .u64 0, .int .u64 0, .int .i64 0, .int .i64 0, .int .i64 0, .int .i64 0] 39)).alloc (.cells St.lC 39)) St.lR (by decide) (by decide) St.lD St.lD_eq
  rw [show (v5.alloc (.cells #[.int .u8 2, .int .u64 0, .int .u64 0, .int .u64 0, .int .u64 0, .int .i64 0, .int .i64 0, .int .i64 0, .int .i64 0] 39)).heap.size = v5.heap.size + 1 from by simp] at hNw
  rw [show ((v5.alloc (.cells #[.int .u8 2, .int .u64 0, .int .u64 0, .int .u64 0, .int .u64 0, .int .i64 0, .int .i64 0, .int .i64 0, .int .i64 0] 39)).alloc (.cells St.lC 39)).heap.size = v5.heap.size + 1 + 1 from by simp] at hPw
  have HNw := Lib.hid (((hNw.kept ((Below.refl _ _).alloc (Nat.le_refl _) (.cells St.lD 41)))).kept ((Below.refl _ _).alloc (Nat.le_refl _) (.cells #[.slice (some ⟨v5.heap.size + 1, 0, none⟩) 3 3, .slice (some ⟨v5.heap.size + 1 + 1, 0, none⟩) 1 1] 34)))
  have HPw := Lib.hid (hPw.kept ((Below.refl _ _).alloc (Nat.le_refl _) (.cells #[.slice (some ⟨v5.heap.size + 1, 0, none⟩) 3 3, .slice (some ⟨v5.heap.size + 1 + 1, 0, none⟩) 1 1] 34)))
  have HK6 := Lib.hid (HK5.out.kept hE3)
  have HB6 := Lib.hid (HB5.out.trans (hE3.mono HB5.out.size))
  clear hE0 hE1 hE2 hE3 hNw hPw HK5 HB5
  unfold St.lC St.lD at HNw HPw HK6 HB6
  generalize ((((v5.alloc _).alloc _).alloc _).alloc _) = v6 at *
  have hTa := HT.out.below HB6.out (tab_lt HT.out)
  refine (spotsOf_any _ _ St.lN St.lR v6 HNw.out HPw.out hTa (tab_lt hTa)).mono ?_
  clear hTa
  rintro e w7 ⟨hB, hE⟩
  rw [Tz.rightB_C, St.hl] at hE
  rcases hE with ⟨h5, -⟩ | ⟨-, -, rfl⟩ | ⟨-, h5, -⟩
  · cases h5
  rotate_left
  · exact absurd h5 (by have := St.pl; omega)
  have hal := hB.alloc hB.size (.cells nilMd 26)
  have HK7 := Lib.hid (HK6.out.kept hal)
  have HB7 := Lib.hid (HB6.out.trans (hal.mono HB6.out.size))
  clear hB hal HK6 HB6 HNw HPw
  go_upto_region 9 with (refine wpList_lay_made rfl _ _ rfl nilMd rfl nil_ones w7.heap.size rfl rfl rfl ?_)
  generalize (w7.alloc (.cells nilMd 26)) = x0 at *
  generalize w7.heap.size = D9 at *
  clear w7
  have q0 : x0.cell? ⟨D1, 1, none⟩ = some (.slice (some ⟨fa1, 0, none⟩) 1 fc1) := HK7.out.c (⟨D1, 1, none⟩, .slice (some ⟨fa1, 0, none⟩) 1 fc1) (List.mem_iff_getElem?.2 ⟨32, rfl⟩)
  go_wp2_with fail
  have hlit := UAt.litc x0 [1] #[.int .u64 1] rfl
  have hb0 := (Below.refl x0.heap.size x0).alloc (Nat.le_refl _) (.cells #[.int .u64 1] 35)
  refine (numbers_yes _ _ [1] _ ((HK7.out.u (.slice (some ⟨fa1, 0, none⟩) 1 fc1, [1]) (List.mem_iff_getElem?.2 ⟨11, rfl⟩)).kept hb0) hlit (by decide)).mono ?_
  rintro e x1 ⟨rfl, hq⟩
  have hc0 := hb0.trans (hq.mono hb0.size)
  have HL1 := Lib.hid (HK7.out.kept hc0)
  have HC1 := Lib.hid (HB7.out.trans (hc0.mono HB7.out.size))
  clear hlit hb0 hq hc0 HK7 HB7 q0
  have q0 : x1.cell? ⟨D1, 2, none⟩ = some (.slice (some ⟨la1, 0, none⟩) 1 lc1) := HL1.out.c (⟨D1, 2, none⟩, .slice (some ⟨la1, 0, none⟩) 1 lc1) (List.mem_iff_getElem?.2 ⟨31, rfl⟩)
  go_wp2_with fail
  have hlit := UAt.litc x1 [2] #[.int .u64 2] rfl
  have hb0 := (Below.refl x1.heap.size x1).alloc (Nat.le_refl _) (.cells #[.int .u64 2] 35)
  refine (numbers_yes _ _ [2] _ ((HL1.out.u (.slice (some ⟨la1, 0, none⟩) 1 lc1, [2]) (List.mem_iff_getElem?.2 ⟨10, rfl⟩)).kept hb0) hlit (by decide)).mono ?_
  rintro e x2 ⟨rfl, hq⟩
  have hc0 := hb0.trans (hq.mono hb0.size)
  have HL2 := Lib.hid (HL1.out.kept hc0)
  have HC2 := Lib.hid (HC1.out.trans (hc0.mono HC1.out.size))
  clear hlit hb0 hq hc0 HL1 HC1 q0
  have q0 : x2.cell? ⟨D1, 3, none⟩ = some (.slice va1 2 vc1) := HL2.out.c (⟨D1, 3, none⟩, .slice va1 2 vc1) (List.mem_iff_getElem?.2 ⟨30, rfl⟩)
  go_wp2_with fail
  have hlit := UAt.litc x2 [2, 1] #[.int .u64 2, .int .u64 1] rfl
  have hb0 := (Below.refl x2.heap.size x2).alloc (Nat.le_refl _) (.cells #[.int .u64 2, .int .u64 1] 35)
  refine (numbers_yes _ _ [2, 1] _ ((HL2.out.u (.slice va1 2 vc1, [2, 1]) (List.mem_iff_getElem?.2 ⟨9, rfl⟩)).kept hb0) hlit (by decide)).mono ?_
  rintro e x3 ⟨rfl, hq⟩
  have hc0 := hb0.trans (hq.mono hb0.size)
  have HL3 := Lib.hid (HL2.out.kept hc0)
  have HC3 := Lib.hid (HC2.out.trans (hc0.mono HC2.out.size))
  clear hlit hb0 hq hc0 HL2 HC2 q0
  have q0 : x3.cell? ⟨D2, 1, none⟩ = some (.slice (some ⟨fa2, 0, none⟩) 1 fc2) := HL3.out.c (⟨D2, 1, none⟩, .slice (some ⟨fa2, 0, none⟩) 1 fc2) (List.mem_iff_getElem?.2 ⟨24, rfl⟩)
  have q1 : x3.cell? ⟨D1, 4, none⟩ = some (.slice (some ⟨ea1, 0, none⟩) 1 ec1) := HL3.out.c (⟨D1, 4, none⟩, .slice (some ⟨ea1, 0, none⟩) 1 ec1) (List.mem_iff_getElem?.2 ⟨29, rfl⟩)
  have q2 : x3.cell? ⟨ea1, 0, none⟩ = some (.bool true) := HL3.out.c (⟨ea1, 0, none⟩, .bool true) (List.mem_iff_getElem?.2 ⟨27, rfl⟩)
  go_wp2_with fail
  have hlit := UAt.litc x3 [1] #[.int .u64 1] rfl
  have hb0 := (Below.refl x3.heap.size x3).alloc (Nat.le_refl _) (.cells #[.int .u64 1] 35)
  refine (numbers_yes _ _ [1] _ ((HL3.out.u (.slice (some ⟨fa2, 0, none⟩) 1 fc2, [1]) (List.mem_iff_getElem?.2 ⟨8, rfl⟩)).kept hb0) hlit (by decide)).mono ?_
  rintro e x4 ⟨rfl, hq⟩
  have hc0 := hb0.trans (hq.mono hb0.size)
  have HL4 := Lib.hid (HL3.out.kept hc0)
  have HC4 := Lib.hid (HC3.out.trans (hc0.mono HC3.out.size))
  clear hlit hb0 hq hc0 HL3 HC3 q0 q1 q2
  have q0 : x4.cell? ⟨D2, 2, none⟩ = some (.slice (some ⟨la2, 0, none⟩) 1 lc2) := HL4.out.c (⟨D2, 2, none⟩, .slice (some ⟨la2, 0, none⟩) 1 lc2) (List.mem_iff_getElem?.2 ⟨23, rfl⟩)
  go_wp2_with fail
  have hlit := UAt.litc x4 [6] #[.int .u64 6] rfl
  have hb0 := (Below.refl x4.heap.size x4).alloc (Nat.le_refl _) (.cells #[.int .u64 6] 35)
  refine (numbers_yes _ _ [6] _ ((HL4.out.u (.slice (some ⟨la2, 0, none⟩) 1 lc2, [6]) (List.mem_iff_getElem?.2 ⟨7, rfl⟩)).kept hb0) hlit (by decide)).mono ?_
  rintro e x5 ⟨rfl, hq⟩
  have hc0 := hb0.trans (hq.mono hb0.size)
  have HL5 := Lib.hid (HL4.out.kept hc0)
  have HC5 := Lib.hid (HC4.out.trans (hc0.mono HC4.out.size))
  clear hlit hb0 hq hc0 HL4 HC4 q0
  have q0 : x5.cell? ⟨D2, 3, none⟩ = some (.slice va2 3 vc2) := HL5.out.c (⟨D2, 3, none⟩, .slice va2 3 vc2) (List.mem_iff_getElem?.2 ⟨22, rfl⟩)
  go_wp2_with fail
  have hlit := UAt.litc x5 [2, 4, 0] #[.int .u64 2, .int .u64 4, .int .u64 0] rfl
  have hb0 := (Below.refl x5.heap.size x5).alloc (Nat.le_refl _) (.cells #[.int .u64 2, .int .u64 4, .int .u64 0] 35)
  refine (numbers_yes _ _ [2, 4, 0] _ ((HL5.out.u (.slice va2 3 vc2, [2, 4, 0]) (List.mem_iff_getElem?.2 ⟨6, rfl⟩)).kept hb0) hlit (by decide)).mono ?_
  rintro e x6 ⟨rfl, hq⟩
  have hc0 := hb0.trans (hq.mono hb0.size)
  have HL6 := Lib.hid (HL5.out.kept hc0)
  have HC6 := Lib.hid (HC5.out.trans (hc0.mono HC5.out.size))
  clear hlit hb0 hq hc0 HL5 HC5 q0
  have q0 : x6.cell? ⟨D3, 1, none⟩ = some (.slice (some ⟨fa3, 0, none⟩) 2 fc3) := HL6.out.c (⟨D3, 1, none⟩, .slice (some ⟨fa3, 0, none⟩) 2 fc3) (List.mem_iff_getElem?.2 ⟨16, rfl⟩)
  have q1 : x6.cell? ⟨D2, 4, none⟩ = some (.slice (some ⟨ea2, 0, none⟩) 1 ec2) := HL6.out.c (⟨D2, 4, none⟩, .slice (some ⟨ea2, 0, none⟩) 1 ec2) (List.mem_iff_getElem?.2 ⟨21, rfl⟩)
  have q2 : x6.cell? ⟨ea2, 0, none⟩ = some (.bool false) := HL6.out.c (⟨ea2, 0, none⟩, .bool false) (List.mem_iff_getElem?.2 ⟨19, rfl⟩)
  go_wp2_with fail
  have hlit := UAt.litc x6 [1, 2] #[.int .u64 1, .int .u64 2] rfl
  have hb0 := (Below.refl x6.heap.size x6).alloc (Nat.le_refl _) (.cells #[.int .u64 1, .int .u64 2] 35)
  refine (numbers_yes _ _ [1, 2] _ ((HL6.out.u (.slice (some ⟨fa3, 0, none⟩) 2 fc3, [1, 2]) (List.mem_iff_getElem?.2 ⟨5, rfl⟩)).kept hb0) hlit (by decide)).mono ?_
  rintro e x7 ⟨rfl, hq⟩
  have hc0 := hb0.trans (hq.mono hb0.size)
  have HL7 := Lib.hid (HL6.out.kept hc0)
  have HC7 := Lib.hid (HC6.out.trans (hc0.mono HC6.out.size))
  clear hlit hb0 hq hc0 HL6 HC6 q0 q1 q2
  have q0 : x7.cell? ⟨D3, 2, none⟩ = some (.slice (some ⟨la3, 0, none⟩) 2 lc3) := HL7.out.c (⟨D3, 2, none⟩, .slice (some ⟨la3, 0, none⟩) 2 lc3) (List.mem_iff_getElem?.2 ⟨15, rfl⟩)
  go_wp2_with fail
  have hlit := UAt.litc x7 [1, 2] #[.int .u64 1, .int .u64 2] rfl
  have hb0 := (Below.refl x7.heap.size x7).alloc (Nat.le_refl _) (.cells #[.int .u64 1, .int .u64 2] 35)
  refine (numbers_yes _ _ [1, 2] _ ((HL7.out.u (.slice (some ⟨la3, 0, none⟩) 2 lc3, [1, 2]) (List.mem_iff_getElem?.2 ⟨4, rfl⟩)).kept hb0) hlit (by decide)).mono ?_
  rintro e x8 ⟨rfl, hq⟩
  have hc0 := hb0.trans (hq.mono hb0.size)
  have HL8 := Lib.hid (HL7.out.kept hc0)
  have HC8 := Lib.hid (HC7.out.trans (hc0.mono HC7.out.size))
  clear hlit hb0 hq hc0 HL7 HC7 q0
  have q0 : x8.cell? ⟨D3, 3, none⟩ = some (.slice va3 2 vc3) := HL8.out.c (⟨D3, 3, none⟩, .slice va3 2 vc3) (List.mem_iff_getElem?.2 ⟨14, rfl⟩)
  go_wp2_with fail
  have hlit := UAt.litc x8 [0, 0] #[.int .u64 0, .int .u64 0] rfl
  have hb0 := (Below.refl x8.heap.size x8).alloc (Nat.le_refl _) (.cells #[.int .u64 0, .int .u64 0] 35)
  refine (numbers_yes _ _ [0, 0] _ ((HL8.out.u (.slice va3 2 vc3, [0, 0]) (List.mem_iff_getElem?.2 ⟨3, rfl⟩)).kept hb0) hlit (by decide)).mono ?_
  rintro e x9 ⟨rfl, hq⟩
  have hc0 := hb0.trans (hq.mono hb0.size)
  have HL9 := Lib.hid (HL8.out.kept hc0)
  have HC9 := Lib.hid (HC8.out.trans (hc0.mono HC8.out.size))
  clear hlit hb0 hq hc0 HL8 HC8 q0
  have q0 : x9.cell? ⟨D3, 4, none⟩ = some (.slice (some ⟨ea3, 0, none⟩) 2 ec3) := HL9.out.c (⟨D3, 4, none⟩, .slice (some ⟨ea3, 0, none⟩) 2 ec3) (List.mem_iff_getElem?.2 ⟨13, rfl⟩)
  have q1 : x9.cell? ⟨ea3, 0, none⟩ = some (.bool false) := HL9.out.c (⟨ea3, 0, none⟩, .bool false) (List.mem_iff_getElem?.2 ⟨11, rfl⟩)
  have q2 : x9.cell? ⟨ea3, 1, none⟩ = some (.bool false) := HL9.out.c (⟨ea3, 1, none⟩, .bool false) (List.mem_iff_getElem?.2 ⟨10, rfl⟩)
  have q3 : x9.cell? ⟨D3, 5, none⟩ = some (.slice (some ⟨na3, 0, none⟩) 2 nc3) := HL9.out.c (⟨D3, 5, none⟩, .slice (some ⟨na3, 0, none⟩) 2 nc3) (List.mem_iff_getElem?.2 ⟨12, rfl⟩)
  have q4 : x9.cell? ⟨na3, 0, none⟩ = some (.bool false) := HL9.out.c (⟨na3, 0, none⟩, .bool false) (List.mem_iff_getElem?.2 ⟨9, rfl⟩)
  have q5 : x9.cell? ⟨na3, 1, none⟩ = some (.bool true) := HL9.out.c (⟨na3, 1, none⟩, .bool true) (List.mem_iff_getElem?.2 ⟨8, rfl⟩)
  have q6 : x9.cell? ⟨D4, 0, none⟩ = some (.slice sa4 0 sc4) := HL9.out.c (⟨D4, 0, none⟩, .slice sa4 0 sc4) (List.mem_iff_getElem?.2 ⟨7, rfl⟩)
  have q7 : x9.cell? ⟨D4, 4, none⟩ = some (.slice (some ⟨ea4, 0, none⟩) 1 ec4) := HL9.out.c (⟨D4, 4, none⟩, .slice (some ⟨ea4, 0, none⟩) 1 ec4) (List.mem_iff_getElem?.2 ⟨3, rfl⟩)
  have q8 : x9.cell? ⟨ea4, 0, none⟩ = some (.bool true) := HL9.out.c (⟨ea4, 0, none⟩, .bool true) (List.mem_iff_getElem?.2 ⟨1, rfl⟩)
  have hTz := HT.out.below HC9.out (tab_lt HT.out)
  have HTz := Lib.hid hTz
  clear hTz
  go_wp2_with fail
  refine (awake8_any _ HTz.out).mono ?_
  rintro e xz ⟨rfl, hq⟩
  have HCz := Lib.hid (HC9.out.trans (hq.mono HC9.out.size))
  clear hq
  go_wp2_with fail
  go_ret
  exact ⟨rfl, HCz.out⟩
end Go.Proofs.YtojndkdhjhcphaaDoor
