/- PurseNested: one purse's Run inside another one's. -/
import Derived.Test.YtbgafjfegjbblaaPPly
namespace Go.Proofs.Ytbgafjfegjbblaa
open Go.RowKit Dbl
/-- nothing that was there has turned but these blocks -/
structure ButS (S : List Nat) (w w' : World) : Prop where
  os : w'.os = w.os
  tape : w'.tape = w.tape
  output : w'.output = w.output
  size : w.heap.size ≤ w'.heap.size
  block : ∀ k, k < w.heap.size → k ∉ S → w'.heap[k]? = w.heap[k]?
theorem ButS.trans {S : List Nat} {a b c : World} (h : ButS S a b) (k : ButS S b c) : ButS S a c :=
  ⟨k.os.trans h.os, k.tape.trans h.tape, k.output.trans h.output, Nat.le_trans h.size k.size, fun i hi hn => (k.block i (Nat.lt_of_lt_of_le hi h.size) hn).trans (h.block i hi hn)⟩
theorem ButS.of_but {S : List Nat} {B : Nat} {w w' : World} (h : But B w w') (hB : B ∈ S) : ButS S w w' := ⟨h.os, h.tape, h.output, h.size, fun k hk hn => h.block k hk (fun e => hn (e ▸ hB))⟩
theorem ButS.of_below (S : List Nat) {w w' : World} (h : Below w.heap.size w w') : ButS S w w' := ⟨h.os, h.tape, h.output, h.size, fun k hk _ => h.block k hk⟩
theorem ButS.alloc (S : List Nat) (w : World) (o : Obj) : ButS S w (w.alloc o) := .of_below S ((Below.refl _ w).alloc (Nat.le_refl _) o)
theorem ButS.mono {S T : List Nat} {w w' : World} (h : ButS S w w') (hs : ∀ k ∈ S, k ∈ T) : ButS T w w' := ⟨h.os, h.tape, h.output, h.size, fun k hk hn => h.block k hk (fun e => hn (hs k e))⟩
theorem ButS.set {S : List Nat} (w : World) (B : Nat) (hB : B ∈ S) (i : Nat) (v : Value) : ButS S w (w.setCell ⟨B, i, none⟩ v) :=
  ⟨rfl, rfl, rfl, by simp, fun k _ hn => Below.heap_setCell w ⟨B, i, none⟩ v k (fun e => hn (e ▸ hB))⟩
theorem ButS.cell {S : List Nat} {w w' : World} (h : ButS S w w') {p : Addr} {v : Value} (hp : w.cell? p = some v) (hn : p.block ∉ S) : w'.cell? p = some v :=
  (World.cell?_of_block (w := w) (h.block p.block (World.block_lt_of_cell? w p hp) hn)).trans hp
theorem ButS.purse {S : List Nat} {w w' : World} (h : ButS S w w') {C b s : Nat} (hp : PurseAt w C b s) (hn : C ∉ S) : PurseAt w' C b s := hp.kept (h.block C hp.lt hn)
theorem ButS.below {A : Nat} {S : List Nat} {W w w' : World} (h : Below A W w) (k : ButS S w w') (hA : ∀ b ∈ S, A ≤ b) (hw : A ≤ w.heap.size) : Below A W w' :=
  h.trans ⟨k.os, k.tape, k.output, k.size, fun i hi => k.block i (by omega) (fun hm => by have := hA i hm; omega)⟩
/-- what a nested Run's function knows: where its purses and numbers lie -/
structure Env (w : World) (kq kn kp km P Q a b : Nat) (n m : Int) : Prop where
  cq : w.cell? ⟨kq, 0, none⟩ = some (.pointer (some ⟨Q, 0, none⟩))
  cn : w.cell? ⟨kn, 0, none⟩ = some (.int .i64 n)
  cp : w.cell? ⟨kp, 0, none⟩ = some (.pointer (some ⟨P, 0, none⟩))
  cm : w.cell? ⟨km, 0, none⟩ = some (.int .i64 m)
  pp : PurseAt w P a 0
  pq : PurseAt w Q b 0
  ne : P ≠ Q
  n2 : n ≤ 9223372036854775807
  m2 : m ≤ 9223372036854775807
theorem ne_ptr {w : World} {B b s k : Nat} {q : Option Addr} (h : PurseAt w B b s) (hc : w.cell? ⟨k, 0, none⟩ = some (.pointer q)) : k ≠ B := by
  rintro rfl; rw [h.budget] at hc; simp at hc
theorem ne_int {w : World} {B b s k : Nat} {i : IntKind} {q : Int} (h : PurseAt w B b s) (hc : w.cell? ⟨k, 0, none⟩ = some (.int i q)) : k ≠ B := by
  rintro rfl; rw [h.budget] at hc; simp at hc
theorem Env.kept {w w' : World} {kq kn kp km P Q a b : Nat} {n m : Int} (h : Env w kq kn kp km P Q a b n m) (hb : Below w.heap.size w w') : Env w' kq kn kp km P Q a b n m :=
  ⟨(ButS.of_below [] hb).cell h.cq (by simp), (ButS.of_below [] hb).cell h.cn (by simp), (ButS.of_below [] hb).cell h.cp (by simp), (ButS.of_below [] hb).cell h.cm (by simp),
    (ButS.of_below [] hb).purse h.pp (by simp), (ButS.of_below [] hb).purse h.pq (by simp), h.ne, h.n2, h.m2⟩
/-- the innermost function: q is overspent -/
theorem clos31_q {w : World} {kq kn kp km P Q a b : Nat} {n m : Int} (h : Env w kq kn kp km P Q a b n m) (ho : ¬ more 0 n ≤ cap b) :
    Calls Try.prog 31 #[.pointer (some ⟨kq, 0, none⟩), .pointer (some ⟨kn, 0, none⟩), .pointer (some ⟨kp, 0, none⟩), .pointer (some ⟨km, 0, none⟩)] w fun e w' =>
      e = .panicked [{ v := ovr Q, recovered := false }] ∧ PurseAt w' Q b (more 0 n) ∧ PurseAt w' P a 0 ∧ ButS [P, Q] w w' := by
  have HS := Lib.hid (spend_any Q b 0 n w h.pq (Nat.zero_le _) (Nat.zero_le _) h.n2)
  rw [spendEnd_over ho] at HS
  have hq := h.cq
  have hn := h.cn
  have HE := Lib.hid h
  clear h ho
  go_enter Try.func31, Try.ntmps31
  go_wp2_with fail
  refine HS.out.mono ?_
  rintro e w' ⟨rfl, hP, hB⟩
  exact ⟨rfl, rfl, hP, hB.purse HE.out.pp HE.out.ne, .of_but hB (by simp)⟩
/-- the innermost function: q is not overspent; p ends it -/
theorem clos31_p {w : World} {kq kn kp km P Q a b : Nat} {n m : Int} (h : Env w kq kn kp km P Q a b n m) (ho : more 0 n ≤ cap b) :
    Calls Try.prog 31 #[.pointer (some ⟨kq, 0, none⟩), .pointer (some ⟨kn, 0, none⟩), .pointer (some ⟨kp, 0, none⟩), .pointer (some ⟨km, 0, none⟩)] w fun e w' =>
      e = spendEnd P (more 0 m) (cap a) ∧ PurseAt w' Q b (more 0 n) ∧ PurseAt w' P a (more 0 m) ∧ ButS [P, Q] w w' := by
  have HS := Lib.hid (spend_any Q b 0 n w h.pq (Nat.zero_le _) (Nat.zero_le _) h.n2)
  rw [spendEnd_in ho] at HS
  have hq := h.cq
  have hn := h.cn
  have HE := Lib.hid h
  clear h ho
  by_cases hi : more 0 m ≤ cap a
  · rw [spendEnd_in hi]
    go_enter Try.func31, Try.ntmps31
    go_wp2_with fail
    refine HS.out.mono ?_
    rintro e w1 ⟨rfl, hQ, hB⟩
    have cp := hB.cell HE.out.cp (ne_ptr HE.out.pq HE.out.cp)
    have cm := hB.cell HE.out.cm (ne_int HE.out.pq HE.out.cm)
    have pp := hB.purse HE.out.pp HE.out.ne
    have HS2 := Lib.hid (spend_any P a 0 m w1 pp (Nat.zero_le _) (Nat.zero_le _) HE.out.m2)
    rw [spendEnd_in hi] at HS2
    clear hi
    go_wp2_with fail
    refine HS2.out.mono ?_
    rintro e w2 ⟨rfl, hP, hB2⟩
    go_wp2_with fail
    go_end0
    exact ⟨rfl, hB2.purse hQ (Ne.symm HE.out.ne), hP, (ButS.of_but hB (by simp)).trans (.of_but hB2 (by simp))⟩
  · rw [spendEnd_over hi]
    go_enter Try.func31, Try.ntmps31
    go_wp2_with fail
    refine HS.out.mono ?_
    rintro e w1 ⟨rfl, hQ, hB⟩
    have cp := hB.cell HE.out.cp (ne_ptr HE.out.pq HE.out.cp)
    have cm := hB.cell HE.out.cm (ne_int HE.out.pq HE.out.cm)
    have pp := hB.purse HE.out.pp HE.out.ne
    have HS2 := Lib.hid (spend_any P a 0 m w1 pp (Nat.zero_le _) (Nat.zero_le _) HE.out.m2)
    rw [spendEnd_over hi] at HS2
    clear hi
    go_wp2_with fail
    refine HS2.out.mono ?_
    rintro e w2 ⟨rfl, hP, hB2⟩
    exact ⟨rfl, rfl, hB2.purse hQ (Ne.symm HE.out.ne), hP, (ButS.of_but hB (by simp)).trans (.of_but hB2 (by simp))⟩
theorem call31 (a b c d : Value) (w : World) : (callFunc 31 #[a, b, c, d]).run Try.prog w = .ok (.enter 31 #[a, b, c, d]) w := by simp [go_sem]
theorem call30 (a b c d e : Value) (w : World) : (callFunc 30 #[a, b, c, d, e]).run Try.prog w = .ok (.enter 30 #[a, b, c, d, e]) w := by simp [go_sem]
theorem notover (B b : Nat) (w : World) (h : PurseAt w B b 0) :
    Calls Try.prog 17 #[.pointer (some ⟨B, 0, none⟩)] w fun e w' => e = .returned (.bool false) ∧ w = w' := over_any B b 0 w h (by decide)
theorem run31_q {w : World} {kq kn kp km P Q a b : Nat} {n m : Int} (h : Env w kq kn kp km P Q a b n m) (ho : ¬ more 0 n ≤ cap b) :
    Calls Try.prog 12 #[.pointer (some ⟨Q, 0, none⟩), .func (.func 31) #[] #[.pointer (some ⟨kq, 0, none⟩), .pointer (some ⟨kn, 0, none⟩), .pointer (some ⟨kp, 0, none⟩), .pointer (some ⟨km, 0, none⟩)]] w fun e w' =>
      e = .returned (.bool false) ∧ PurseAt w' Q b (more 0 n) ∧ PurseAt w' P a 0 ∧ ButS [P, Q] w w' := by
  have hb := (Below.refl w.heap.size w).alloc (Nat.le_refl _) (.cells #[.pointer (some ⟨Q, 0, none⟩)] 22)
  have hE := h.kept hb
  refine runs_in _ _ _ w _ (notover Q b _ hE.pq) (call31 _ _ _ _) ?_
  refine (clos31_q hE ho).mono ?_
  rintro e w' ⟨rfl, hQ, hP, hB⟩
  refine ⟨Q, b, more 0 n, Q, b, more 0 n, [], rfl, rfl, rfl, hQ, hQ, ?_, ?_⟩
  · refine hB.cell (p := ⟨w.heap.size, 0, none⟩) (by rw [World.cell?_alloc_at _ _ _ _ rfl]; rfl) ?_
    have := h.pp.lt; have := h.pq.lt
    simp; omega
  · rw [if_pos rfl]
    exact ⟨rfl, hQ, hP, (ButS.of_below _ hb).trans hB⟩
theorem run31_in {w : World} {kq kn kp km P Q a b : Nat} {n m : Int} (h : Env w kq kn kp km P Q a b n m) (ho : more 0 n ≤ cap b) (hi : more 0 m ≤ cap a) :
    Calls Try.prog 12 #[.pointer (some ⟨Q, 0, none⟩), .func (.func 31) #[] #[.pointer (some ⟨kq, 0, none⟩), .pointer (some ⟨kn, 0, none⟩), .pointer (some ⟨kp, 0, none⟩), .pointer (some ⟨km, 0, none⟩)]] w fun e w' =>
      e = .returned (.bool true) ∧ PurseAt w' Q b (more 0 n) ∧ PurseAt w' P a (more 0 m) ∧ ButS [P, Q] w w' := by
  have hb := (Below.refl w.heap.size w).alloc (Nat.le_refl _) (.cells #[.pointer (some ⟨Q, 0, none⟩)] 22)
  have hE := h.kept hb
  refine runs_in _ _ _ w _ (notover Q b _ hE.pq) (call31 _ _ _ _) ?_
  refine (clos31_p hE ho).mono ?_
  rintro e w' ⟨rfl, hQ, hP, hB⟩
  rw [spendEnd_in hi]
  exact ⟨rfl, hQ, hP, (ButS.of_below _ hb).trans hB⟩
theorem run31_p {w : World} {kq kn kp km P Q a b : Nat} {n m : Int} (h : Env w kq kn kp km P Q a b n m) (ho : more 0 n ≤ cap b) (hi : ¬ more 0 m ≤ cap a) :
    Calls Try.prog 12 #[.pointer (some ⟨Q, 0, none⟩), .func (.func 31) #[] #[.pointer (some ⟨kq, 0, none⟩), .pointer (some ⟨kn, 0, none⟩), .pointer (some ⟨kp, 0, none⟩), .pointer (some ⟨km, 0, none⟩)]] w fun e w' =>
      e = .panicked [{ v := ovr P, recovered := false }, { v := ovr P, recovered := true }] ∧ PurseAt w' Q b (more 0 n) ∧ PurseAt w' P a (more 0 m) ∧ ButS [P, Q] w w' := by
  have hb := (Below.refl w.heap.size w).alloc (Nat.le_refl _) (.cells #[.pointer (some ⟨Q, 0, none⟩)] 22)
  have hE := h.kept hb
  refine runs_in _ _ _ w _ (notover Q b _ hE.pq) (call31 _ _ _ _) ?_
  refine (clos31_p hE ho).mono ?_
  rintro e w' ⟨rfl, hQ, hP, hB⟩
  rw [spendEnd_over hi]
  refine ⟨Q, b, more 0 n, P, a, more 0 m, [], rfl, rfl, rfl, hQ, hP, ?_, ?_⟩
  · refine hB.cell (p := ⟨w.heap.size, 0, none⟩) (by rw [World.cell?_alloc_at _ _ _ _ rfl]; rfl) ?_
    have := h.pp.lt; have := h.pq.lt
    simp; omega
  · rw [if_neg h.ne]
    exact ⟨rfl, hQ, hP, (ButS.of_below _ hb).trans hB⟩
/-- an int variable of the call's own -/
def IntAt (w : World) (k : Nat) (v : Int) : Prop := w.heap[k]? = some (.cells #[.int .i64 v] 3 (0, 0))
theorem IntAt.c {w : World} {k : Nat} {v : Int} (h : IntAt w k v) : w.cell? ⟨k, 0, none⟩ = some (.int .i64 v) := by unfold IntAt at h; simp [World.cell?, h]
theorem IntAt.f {w : World} {k : Nat} {v : Int} (h : IntAt w k v) : w.frozen? ⟨k, 0, none⟩ = false := by unfold IntAt at h; simp [World.frozen?, h]
theorem IntAt.lt {w : World} {k : Nat} {v : Int} (h : IntAt w k v) : k < w.heap.size := (Array.getElem?_eq_some_iff.1 h).1
theorem IntAt.put {w : World} {k : Nat} {v : Int} (h : IntAt w k v) (u : Int) : IntAt (w.setCell ⟨k, 0, none⟩ (.int .i64 u)) k u := by
  unfold IntAt at *
  simp [World.setCell, Array.getElem?_modify, h]
theorem PurseAt.set {w : World} {B b s k : Nat} {v : Value} (h : PurseAt w B b s) (hn : B ≠ k) : PurseAt (w.setCell ⟨k, 0, none⟩ v) B b s := h.kept (Below.heap_setCell w ⟨k, 0, none⟩ v B hn)
theorem clos30_q {w : World} {kq kn kp km ki P Q a b : Nat} {n m : Int} (h : Env w kq kn kp km P Q a b n m) (hI : IntAt w ki 0) (ho : ¬ more 0 n ≤ cap b) :
    Calls Try.prog 30 #[.pointer (some ⟨kq, 0, none⟩), .pointer (some ⟨kn, 0, none⟩), .pointer (some ⟨kp, 0, none⟩), .pointer (some ⟨km, 0, none⟩), .pointer (some ⟨ki, 0, none⟩)] w fun e w' =>
      e = .returned (.tuple #[]) ∧ PurseAt w' Q b (more 0 n) ∧ PurseAt w' P a 0 ∧ IntAt w' ki 2 ∧ ButS [P, Q, ki] w w' := by
  have hmf : ∀ (fn : Fn) (first cap : Array Value) (w : World), (Instr.makeFunc fn first cap).run Try.prog w = .ok (.func fn first cap) w := fun _ _ _ _ => rfl
  have HR := Lib.hid (run31_q h ho)
  have hq := h.cq
  have HE := Lib.hid h
  have HI := Lib.hid hI
  clear h ho hI
  go_enter Try.func30, Try.ntmps30
  go_wp2_with fail
  refine HR.out.mono ?_
  rintro e w1 ⟨rfl, hQ, hP, hB⟩
  have nP := ne_int HE.out.pp HI.out.c
  have nQ := ne_int HE.out.pq HI.out.c
  have hI1 : IntAt w1 ki 0 := (hB.block ki HI.out.lt (by simp; omega)).trans HI.out
  have c1 := hI1.c
  have f1 := hI1.f
  have HI1 := Lib.hid hI1
  clear hI1
  go_wp2_with fail
  go_end0
  exact ⟨rfl, hQ.set (Ne.symm nQ), hP.set (Ne.symm nP), HI1.out.put 2, (hB.mono (by simp)).trans (.set w1 ki (by simp) 0 _)⟩
theorem clos30_in {w : World} {kq kn kp km ki P Q a b : Nat} {n m : Int} (h : Env w kq kn kp km P Q a b n m) (hI : IntAt w ki 0) (ho : more 0 n ≤ cap b) (hi : more 0 m ≤ cap a) :
    Calls Try.prog 30 #[.pointer (some ⟨kq, 0, none⟩), .pointer (some ⟨kn, 0, none⟩), .pointer (some ⟨kp, 0, none⟩), .pointer (some ⟨km, 0, none⟩), .pointer (some ⟨ki, 0, none⟩)] w fun e w' =>
      e = .returned (.tuple #[]) ∧ PurseAt w' Q b (more 0 n) ∧ PurseAt w' P a (more 0 m) ∧ IntAt w' ki 1 ∧ ButS [P, Q, ki] w w' := by
  have hmf : ∀ (fn : Fn) (first cap : Array Value) (w : World), (Instr.makeFunc fn first cap).run Try.prog w = .ok (.func fn first cap) w := fun _ _ _ _ => rfl
  have HR := Lib.hid (run31_in h ho hi)
  have hq := h.cq
  have HE := Lib.hid h
  have HI := Lib.hid hI
  clear h ho hI hi
  go_enter Try.func30, Try.ntmps30
  go_wp2_with fail
  refine HR.out.mono ?_
  rintro e w1 ⟨rfl, hQ, hP, hB⟩
  have nP := ne_int HE.out.pp HI.out.c
  have nQ := ne_int HE.out.pq HI.out.c
  have hI1 : IntAt w1 ki 0 := (hB.block ki HI.out.lt (by simp; omega)).trans HI.out
  have c1 := hI1.c
  have f1 := hI1.f
  have HI1 := Lib.hid hI1
  clear hI1
  go_wp2_with fail
  go_end0
  exact ⟨rfl, hQ.set (Ne.symm nQ), hP.set (Ne.symm nP), HI1.out.put 1, (hB.mono (by simp)).trans (.set w1 ki (by simp) 0 _)⟩
theorem clos30_p {w : World} {kq kn kp km ki P Q a b : Nat} {n m : Int} (h : Env w kq kn kp km P Q a b n m) (hI : IntAt w ki 0) (ho : more 0 n ≤ cap b) (hi : ¬ more 0 m ≤ cap a) :
    Calls Try.prog 30 #[.pointer (some ⟨kq, 0, none⟩), .pointer (some ⟨kn, 0, none⟩), .pointer (some ⟨kp, 0, none⟩), .pointer (some ⟨km, 0, none⟩), .pointer (some ⟨ki, 0, none⟩)] w fun e w' =>
      e = .panicked [{ v := ovr P, recovered := false }, { v := ovr P, recovered := true }] ∧ PurseAt w' Q b (more 0 n) ∧ PurseAt w' P a (more 0 m) ∧ IntAt w' ki 0 ∧ ButS [P, Q, ki] w w' := by
  have hmf : ∀ (fn : Fn) (first cap : Array Value) (w : World), (Instr.makeFunc fn first cap).run Try.prog w = .ok (.func fn first cap) w := fun _ _ _ _ => rfl
  have HR := Lib.hid (run31_p h ho hi)
  have hq := h.cq
  have HE := Lib.hid h
  have HI := Lib.hid hI
  clear h ho hI hi
  go_enter Try.func30, Try.ntmps30
  go_wp2_with fail
  refine HR.out.mono ?_
  rintro e w1 ⟨rfl, hQ, hP, hB⟩
  have nP := ne_int HE.out.pp HI.out.c
  have nQ := ne_int HE.out.pq HI.out.c
  have hI1 : IntAt w1 ki 0 := (hB.block ki HI.out.lt (by simp; omega)).trans HI.out
  exact ⟨rfl, rfl, hQ, hP, hI1, hB.mono (by simp)⟩
theorem run30_q {w : World} {kq kn kp km ki P Q a b : Nat} {n m : Int} (h : Env w kq kn kp km P Q a b n m) (hI : IntAt w ki 0) (ho : ¬ more 0 n ≤ cap b) :
    Calls Try.prog 12 #[.pointer (some ⟨P, 0, none⟩), .func (.func 30) #[] #[.pointer (some ⟨kq, 0, none⟩), .pointer (some ⟨kn, 0, none⟩), .pointer (some ⟨kp, 0, none⟩), .pointer (some ⟨km, 0, none⟩), .pointer (some ⟨ki, 0, none⟩)]] w fun e w' =>
      e = .returned (.bool true) ∧ PurseAt w' Q b (more 0 n) ∧ PurseAt w' P a 0 ∧ IntAt w' ki 2 ∧ ButS [P, Q, ki] w w' := by
  have hb := (Below.refl w.heap.size w).alloc (Nat.le_refl _) (.cells #[.pointer (some ⟨P, 0, none⟩)] 22)
  have hE := h.kept hb
  have hI' : IntAt (w.alloc (.cells #[.pointer (some ⟨P, 0, none⟩)] 22)) ki 0 := (hb.block ki hI.lt).trans hI
  refine runs_in _ _ _ w _ (notover P a _ hE.pp) (call30 _ _ _ _ _) ?_
  refine (clos30_q hE hI' ho).mono ?_
  rintro e w' ⟨rfl, hQ, hP, hI2, hB⟩
  exact ⟨rfl, hQ, hP, hI2, (ButS.of_below _ hb).trans hB⟩
theorem run30_in {w : World} {kq kn kp km ki P Q a b : Nat} {n m : Int} (h : Env w kq kn kp km P Q a b n m) (hI : IntAt w ki 0) (ho : more 0 n ≤ cap b) (hi : more 0 m ≤ cap a) :
    Calls Try.prog 12 #[.pointer (some ⟨P, 0, none⟩), .func (.func 30) #[] #[.pointer (some ⟨kq, 0, none⟩), .pointer (some ⟨kn, 0, none⟩), .pointer (some ⟨kp, 0, none⟩), .pointer (some ⟨km, 0, none⟩), .pointer (some ⟨ki, 0, none⟩)]] w fun e w' =>
      e = .returned (.bool true) ∧ PurseAt w' Q b (more 0 n) ∧ PurseAt w' P a (more 0 m) ∧ IntAt w' ki 1 ∧ ButS [P, Q, ki] w w' := by
  have hb := (Below.refl w.heap.size w).alloc (Nat.le_refl _) (.cells #[.pointer (some ⟨P, 0, none⟩)] 22)
  have hE := h.kept hb
  have hI' : IntAt (w.alloc (.cells #[.pointer (some ⟨P, 0, none⟩)] 22)) ki 0 := (hb.block ki hI.lt).trans hI
  refine runs_in _ _ _ w _ (notover P a _ hE.pp) (call30 _ _ _ _ _) ?_
  refine (clos30_in hE hI' ho hi).mono ?_
  rintro e w' ⟨rfl, hQ, hP, hI2, hB⟩
  exact ⟨rfl, hQ, hP, hI2, (ButS.of_below _ hb).trans hB⟩
theorem run30_p {w : World} {kq kn kp km ki P Q a b : Nat} {n m : Int} (h : Env w kq kn kp km P Q a b n m) (hI : IntAt w ki 0) (ho : more 0 n ≤ cap b) (hi : ¬ more 0 m ≤ cap a) :
    Calls Try.prog 12 #[.pointer (some ⟨P, 0, none⟩), .func (.func 30) #[] #[.pointer (some ⟨kq, 0, none⟩), .pointer (some ⟨kn, 0, none⟩), .pointer (some ⟨kp, 0, none⟩), .pointer (some ⟨km, 0, none⟩), .pointer (some ⟨ki, 0, none⟩)]] w fun e w' =>
      e = .returned (.bool false) ∧ PurseAt w' Q b (more 0 n) ∧ PurseAt w' P a (more 0 m) ∧ IntAt w' ki 0 ∧ ButS [P, Q, ki] w w' := by
  have hb := (Below.refl w.heap.size w).alloc (Nat.le_refl _) (.cells #[.pointer (some ⟨P, 0, none⟩)] 22)
  have hE := h.kept hb
  have hI' : IntAt (w.alloc (.cells #[.pointer (some ⟨P, 0, none⟩)] 22)) ki 0 := (hb.block ki hI.lt).trans hI
  refine runs_in _ _ _ w _ (notover P a _ hE.pp) (call30 _ _ _ _ _) ?_
  refine (clos30_p hE hI' ho hi).mono ?_
  rintro e w' ⟨rfl, hQ, hP, hI2, hB⟩
  refine ⟨P, a, more 0 m, P, a, more 0 m, [{ v := ovr P, recovered := true }], rfl, rfl, rfl, hP, hP, ?_, ?_⟩
  · refine hB.cell (p := ⟨w.heap.size, 0, none⟩) (by rw [World.cell?_alloc_at _ _ _ _ rfl]; rfl) ?_
    have := h.pp.lt; have := h.pq.lt; have := hI.lt
    simp; omega
  · rw [if_pos rfl]
    exact ⟨rfl, hQ, hP, hI2, (ButS.of_below _ hb).trans hB⟩
end Go.Proofs.Ytbgafjfegjbblaa
