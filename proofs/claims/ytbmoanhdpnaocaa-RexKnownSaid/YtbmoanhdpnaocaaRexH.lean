/- addSet, group, atom, piece. -/
import Derived.Test.YtbmoanhdpnaocaaRexF
import Derived.Test.YtbmoanhdpnaocaaRexG
namespace Go.Proofs.Ytbmoanhdpnaocaa
open Go.RowKit Sets Tr Rx
theorem add_lit (B : Nat) (s : ByteArray) (p o : Nat) (ns : List Nd) (ps : List (Int × Bool)) (nv pv : Value) (k : Nat) (a b mn mx : Int) (w : World) (h : RdAt w B s p o ns ps nv pv) (hn : ns.length ≤ 1000) :
    Calls Try.prog 23 #[.pointer (some ⟨B, 0, none⟩), .agg #[.int .u8 k, .int .u64 0, .int .u64 0, .int .u64 0, .int .u64 0, .int .i64 a, .int .i64 b, .int .i64 mn, .int .i64 mx]] w fun e w' =>
      e = .returned (.int .i64 (ns.length : Nat)) ∧ (∃ nv', RdAt w' B s p o (ns ++ [⟨k, 0, a, b, mn, mx⟩]) ps nv' pv) ∧ Below B w w' := by
  have e : (nd9 ⟨k, 0, a, b, mn, mx⟩).toArray = #[.int .u8 k, .int .u64 0, .int .u64 0, .int .u64 0, .int .u64 0, .int .i64 a, .int .i64 b, .int .i64 mn, .int .i64 mx] := by simp [nd9, wd_zero]
  rw [← e]
  exact add_any B s p o ns ps nv pv _ w h hn
set_option maxHeartbeats 800000 in
theorem addSet_any (B : Nat) (s : ByteArray) (p o : Nat) (ns : List Nd) (ps : List (Int × Bool)) (nv pv : Value) (S : Nat) (w : World) (h : RdAt w B s p o ns ps nv pv) (hn : ns.length ≤ 1000) :
    Calls Try.prog 36 #[.pointer (some ⟨B, 0, none⟩), setV S] w fun e w' =>
      e = .returned (.int .i64 (ns.length : Nat)) ∧ (∃ nv', RdAt w' B s p o (ns ++ [⟨2, S, 0, 0, 0, 0⟩]) ps nv' pv) ∧ Below B w w' := by
  have hal := (Below.refl w.heap.size w).alloc (Nat.le_refl _) (.cells #[.int .u64 (wd S 0), .int .u64 (wd S 1), .int .u64 (wd S 2), .int .u64 (wd S 3)] 34)
  have hB := h.row.lt
  have HA := Lib.hid (add_any B s p o ns ps nv pv ⟨2, S, 0, 0, 0, 0⟩ _ (h.below hal) hn)
  have HB := Lib.hid (hal.mono (by omega : B ≤ w.heap.size))
  clear hal h
  unfold setV
  go_enter Try.func36, Try.ntmps36
  go_wp2_with fail
  refine HA.out.mono ?_
  rintro e w' ⟨rfl, hR, hb⟩
  have HR := Lib.hid hR
  clear hR
  go_wp2_with fail
  go_ret
  exact ⟨rfl, HR.out, HB.out.trans hb⟩
def GP (B : Nat) (s : ByteArray) (o : Nat) (ps : List (Int × Bool)) (pv : Value) (w : World) (r : G) (e : Ending) (w' : World) : Prop :=
  match r with
  | .ok n p ns => e = .returned (.int .i64 n) ∧ (∃ nv, RdAt w' B s p o ns ps nv pv) ∧ Below B w w'
  | .bad lg p => e = .panicked [{ v := pnc lg p, recovered := false }] ∧ Below B w w'
/-- what is promised of a function that reads as md says, with fuel f -/
def Con (f : Nat) (md : Md) (fid : FuncId) : Prop :=
  ∀ (B : Nat) (s : ByteArray) (o p c : Nat) (ns : List Nd) (ps : List (Int × Bool)) (nv pv : Value) (w : World), RdAt w B s p o ns ps nv pv → In (by' s) p ns (md.g + c) → s.size ≤ 200 → o ≤ 16 → 5 * (s.size - p) + md.c < f →
    Calls Try.prog fid #[.pointer (some ⟨B, 0, none⟩)] w (GP B s o ps pv w (go (by' s) f md o p ns))
theorem GP.cast {B : Nat} {s : ByteArray} {o : Nat} {ps : List (Int × Bool)} {pv : Value} {w : World} {r r' : G} {e : Ending} {w' : World} (h : r' = r) (k : GP B s o ps pv w r' e w') : GP B s o ps pv w r e w' := h ▸ k
theorem Rx.In.len {l : List Nat} {p : Nat} {ns : List Nd} {c : Nat} (h : In l p ns c) : ns.length ≤ 1000 := by have := h.fit; omega
theorem Rx.In.sz {s : ByteArray} {p : Nat} {ns : List Nd} {c : Nat} (h : In (by' s) p ns c) : p ≤ s.size := by have := h.le; rw [by_len] at this; exact this
theorem But.belowW {B : Nat} {s : ByteArray} {p o : Nat} {nv pv : Value} {w w' : World} (h : But B w w') (hR : Row w B s p o nv pv) : Below B w w' := h.belowB hR.lt
set_option maxHeartbeats 1600000 in
theorem piece_any (f : Nat) (HA : Con f .ato 32) : Con (f + 1) .pie 28 := by
  intro B s o p c ns ps nv pv w h hin hs ho hf
  have hA := HA B s o p c ns ps nv pv w h hin hs ho (by simp only [Md.c] at *; omega)
  have hg := go_good (by_lt s) f .ato o p ns c hin trivial
  rw [go]
  clear HA h
  cases hr : go (by' s) f .ato o p ns with
  | bad lg q =>
    rw [hr] at hA
    have hA := Lib.hid hA
    clear hr hg
    go_enter Try.func28, Try.ntmps28
    go_wp2_with fail
    refine hA.out.mono ?_
    rintro e w' ⟨rfl, hb⟩
    exact ⟨rfl, rfl, hb⟩
  | ok n p1 ns1 =>
    rw [hr] at hA hg
    obtain ⟨hp1, hn, hin1⟩ := hg
    have hA := Lib.hid hA
    have HIn := Lib.hid hin1
    have hle := hin1.sz
    have hlen := hin1.len
    have HT := Lib.hid (fun w' nv (hR : Row w' B s p1 o nv pv) => times_any B s p1 o nv pv w' hR hle hs)
    clear hr
    simp only [G.bind]
    cases ht : times (by' s) p1 with
    | bad q =>
      rw [ht] at HT
      clear ht
      go_enter Try.func28, Try.ntmps28
      go_wp2_with fail
      refine hA.out.mono ?_
      rintro e w1 ⟨rfl, ⟨nv1, hR1⟩, hb1⟩
      have HR1 := Lib.hid hR1
      clear hR1
      go_wp2_with fail
      refine (HT.out _ nv1 HR1.out.row).mono ?_
      rintro e w2 ⟨rfl, hb2⟩
      exact ⟨rfl, rfl, hb1.trans (hb2.belowW HR1.out.row)⟩
    | ok x q =>
      rw [ht] at HT
      have hk := times_ok ht HIn.out.le
      clear ht
      cases x with
      | none =>
        go_enter Try.func28, Try.ntmps28
        go_wp2_with fail
        refine hA.out.mono ?_
        rintro e w1 ⟨rfl, ⟨nv1, hR1⟩, hb1⟩
        have HR1 := Lib.hid hR1
        clear hR1
        go_wp2_with fail
        refine (HT.out _ nv1 HR1.out.row).mono ?_
        rintro e w2 ⟨rfl, hR2, hb2⟩
        have HR2 := Lib.hid hR2
        clear hR2
        simp only [timV]
        go_wp2_with fail
        go_ret
        exact ⟨rfl, ⟨nv1, HR1.out.but HR2.out hb2⟩, hb1.trans (hb2.belowW HR1.out.row)⟩
      | some ab =>
        obtain ⟨a, b⟩ := ab
        go_enter Try.func28, Try.ntmps28
        go_wp2_with fail
        refine hA.out.mono ?_
        rintro e w1 ⟨rfl, ⟨nv1, hR1⟩, hb1⟩
        have HR1 := Lib.hid hR1
        clear hR1
        go_wp2_with fail
        refine (HT.out _ nv1 HR1.out.row).mono ?_
        rintro e w2 ⟨rfl, hR2, hb2⟩
        have HR2 := Lib.hid (HR1.out.but hR2 hb2)
        have HB2 := Lib.hid (hb1.trans (hb2.belowW HR1.out.row))
        clear hR2 hb2
        simp only [timV]
        go_wp2_with fail
        refine (add_lit B s q o ns1 ps nv1 pv 5 n 0 a b _ HR2.out hlen).mono ?_
        rintro e w3 ⟨rfl, hR3, hb3⟩
        have HR3 := Lib.hid hR3
        clear hR3
        go_wp2_with fail
        go_ret
        exact ⟨rfl, HR3.out, HB2.out.trans hb3⟩
theorem eq16 {o : Nat} (h : o ≠ 16) : ((o : Int) == 16) = false := by rw [beq_eq_false_iff_ne]; omega
theorem go_ato40 {l : List Nat} {f o p : Nat} {ns : List Nd} (h : pk l p = 40) : go l (f + 1) .ato o p ns = if o = 16 then .bad true p else (go l f .pat (o + 1) (p + 1) ns).bind fun n p ns => if pk l p = 41 then .ok n (p + 1) ns else .bad false p := by
  rw [go, if_pos h]
theorem go_ato91 {l : List Nat} {f o p : Nat} {ns : List Nd} (h0 : pk l p ≠ 40) (h : pk l p = 91) : go l (f + 1) .ato o p ns = (cls l (p + 1)).bind fun S p => addS S p ns := by
  rw [go, if_neg h0, if_pos h]
theorem go_ato46 {l : List Nat} {f o p : Nat} {ns : List Nd} (h0 : pk l p ≠ 40) (h1 : pk l p ≠ 91) (h : pk l p = 46) : go l (f + 1) .ato o p ns = addS full (p + 1) ns := by
  rw [go, if_neg h0, if_neg h1, if_pos h]
theorem go_atoS {l : List Nat} {f o p : Nat} {ns : List Nd} (h0 : pk l p ≠ 40) (h1 : pk l p ≠ 91) (h : pk l p ≠ 46) : go l (f + 1) .ato o p ns = (single l marks p).bind fun c p => addS (2 ^ c) p ns := by
  rw [go, if_neg h0, if_neg h1, if_neg h]
/-- behind a ( -/
def grp (l : List Nat) (f o p : Nat) (ns : List Nd) : G := if o = 16 then .bad true p else (go l f .pat (o + 1) (p + 1) ns).bind fun n p ns => if pk l p = 41 then .ok n (p + 1) ns else .bad false p
theorem wrap_nat (p : Nat) (h : p ≤ 1000) : wrap64 (p : Int) = (p : Int) := by unfold wrap64; omega
set_option maxHeartbeats 1600000 in
theorem group_any (f : Nat) (HP : Con f .pat 18) (B : Nat) (s : ByteArray) (o p c : Nat) (ns : List Nd) (ps : List (Int × Bool)) (nv pv : Value) (w : World) (h : RdAt w B s (p + 1) o ns ps nv pv) (hin : In (by' s) (p + 1) ns (Md.pat.g + c)) (hs : s.size ≤ 200) (ho : o ≤ 16)
    (hf : 5 * (s.size - (p + 1)) + Md.pat.c < f) : Calls Try.prog 35 #[.pointer (some ⟨B, 0, none⟩)] w (GP B s o ps pv w (grp (by' s) f o p ns)) := by
  obtain ⟨c0, c1, c2, -, -⟩ := h.row.cells
  have f2 := h.row.frozen 2
  have hB := h.row.lt
  have H := Lib.hid h
  clear h
  unfold grp
  by_cases h16 : o = 16
  · rw [if_pos h16]
    subst h16
    have hp : wrap64 (p : Int) = (p : Int) := wrap_nat p (by have := hin.sz; omega)
    go_enter Try.func35, Try.ntmps35
    go_wp2_with fail
    refine ⟨rfl, ?_, Below.refl _ _⟩
    first | rfl | (rw [hp]; rfl)
  · rw [if_neg h16]
    have g16 := eq16 h16
    have hRow1 : RdAt (w.setCell ⟨B, 2, none⟩ (.int .i64 ((o + 1 : Nat) : Int))) B s (p + 1) (o + 1) ns ps nv pv :=
      let b := But.set0 B w 2 (.int .i64 ((o + 1 : Nat) : Int))
      ⟨H.out.row.putO (o + 1), (H.out.but H.out.row (.refl _ _) |>.on |> fun on => own_kept on fun g hg => b.block g (on.lt g hg).2 (fun e => by have := (on.lt g hg).1; omega)), (H.out.op |> fun on => own_kept on fun g hg => b.block g (on.lt g hg).2 (fun e => by have := (on.lt g hg).1; omega))⟩
    have HP1 := HP B s (o + 1) (p + 1) c ns ps nv pv _ hRow1 hin hs (by omega) hf
    have hBw : Below B w (w.setCell ⟨B, 2, none⟩ (.int .i64 ((o + 1 : Nat) : Int))) := (But.set0 B w 2 _).belowB hB
    have HBw := Lib.hid hBw
    have hg := go_good (by_lt s) f .pat (o + 1) (p + 1) ns c hin trivial
    clear HP hRow1 hBw h16
    cases hr : go (by' s) f .pat (o + 1) (p + 1) ns with
    | bad lg q =>
      rw [hr] at HP1
      have HP1 := Lib.hid HP1
      clear hr hg
      go_enter Try.func35, Try.ntmps35
      go_wp2_with fail
      refine HP1.out.mono ?_
      rintro e w' ⟨rfl, hb⟩
      exact ⟨rfl, rfl, HBw.out.trans hb⟩
    | ok n p1 ns1 =>
      rw [hr] at HP1 hg
      obtain ⟨hp1, hn, hin1⟩ := hg
      have hle := hin1.sz
      have HP1 := Lib.hid HP1
      clear hr hin1
      simp only [G.bind]
      by_cases h41 : pk (by' s) p1 = 41
      · rw [if_pos h41]
        go_enter Try.func35, Try.ntmps35
        go_wp2_with fail
        refine HP1.out.mono ?_
        rintro e w1 ⟨rfl, ⟨nv1, hR1⟩, hb1⟩
        have HR1 := Lib.hid hR1
        clear hR1
        go_wp2_with fail
        refine (need_yes B s p1 (o + 1) nv1 pv 41 _ HR1.out.row hs (by decide) h41).mono ?_
        rintro e w2 ⟨rfl, hR2, hb2⟩
        have HR2 := Lib.hid (HR1.out.but hR2 hb2)
        have HB2 := Lib.hid ((HBw.out.trans hb1).trans (hb2.belowW HR1.out.row))
        obtain ⟨d0, d1, d2, -, -⟩ := hR2.cells
        have e2 := hR2.frozen 2
        clear hR2 hb1 hb2 c0 c1 c2 f2
        go_wp2_with fail
        go_ret
        refine ⟨rfl, ⟨nv1, ?_⟩, ?_⟩
        · have b := But.set0 B w2 2 (.int .i64 (o : Int))
          refine ⟨?_, own_kept HR2.out.on fun g hg => b.block g (HR2.out.on.lt g hg).2 (fun e => by have := (HR2.out.on.lt g hg).1; omega), own_kept HR2.out.op fun g hg => b.block g (HR2.out.op.lt g hg).2 (fun e => by have := (HR2.out.op.lt g hg).1; omega)⟩
          exact HR2.out.row.putO o
        · exact HB2.out.trans ((But.set0 B w2 2 _).belowB HR2.out.row.lt)
      · rw [if_neg h41]
        go_enter Try.func35, Try.ntmps35
        go_wp2_with fail
        refine HP1.out.mono ?_
        rintro e w1 ⟨rfl, ⟨nv1, hR1⟩, hb1⟩
        have HR1 := Lib.hid hR1
        clear hR1
        go_wp2_with fail
        refine (need_no B s p1 (o + 1) nv1 pv 41 _ HR1.out.row hle h41).mono ?_
        rintro e w2 ⟨rfl, hb2⟩
        exact ⟨rfl, rfl, (HBw.out.trans hb1).trans (hb2.belowW HR1.out.row)⟩
end Go.Proofs.Ytbmoanhdpnaocaa
