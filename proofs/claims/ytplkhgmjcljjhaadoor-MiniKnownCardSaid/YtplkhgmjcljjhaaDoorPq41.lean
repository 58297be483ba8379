/- Both. -/
import Derived.Test.YtplkhgmjcljjhaaDoorPq31
import Derived.Test.YtplkhgmjcljjhaaDoorPq39
import Derived.Test.YtplkhgmjcljjhaaDoorPq40
import Derived.Test.YtplkhgmjcljjhaaDoorPq21
namespace Go.Proofs.YtplkhgmjcljjhaaDoor
open Go.RowKit Sets Nf Cls Df Dbl DfPr
namespace Df
theorem wp_neq_rows {o : Oper} {a : Act} {w : World} {K : Act → World → Prop} {Q : Exit → Act → World → Prop} (ty t : TypeId) (x y : Operand) (ho : o.op = .binOp .neq ty x y t) (xs ys : Array Value) (hx : a.eval x = .agg xs) (hy : a.eval y = .agg ys) (hg : Tryd.prog.eqGuardType Tryd.prog.depth ty = false)
    (r : Bool) (hr : ∀ w, (Op.equalIn 10000 ty (.agg xs) (.agg ys)).run Tryd.prog w = .ok r w) (h : K (a.put o.dst (.bool (!r))) w) : o.wp Tryd.prog a w K Q := by
  unfold Oper.wp execOp
  simp only [ho, hx, hy, Sem.run_bind, run_eqGuard_agg w .neq ty x y _ _ hg, run_neq_struct, hr, Result.andThen_ok, Sem.run_pure]
  exact h
theorem purse_apart {w : World} {B b t k o : Nat} {v : Value} (h : PurseAt w B b t) (hc : w.cell? ⟨k, o, none⟩ = some v) (hv : (∀ x, v ≠ .float .f64 x) ∧ ∀ x, v ≠ .int .u64 x) : B ≠ k := fun e => by
  unfold PurseAt at h
  subst e
  rw [cell_of_row w B o _ _ _ h] at hc
  have ho : o < 2 := by have := (Array.getElem?_eq_some_iff.1 hc).1; simpa using this
  have : o = 0 ∨ o = 1 := by omega
  rcases this with rfl | rfl
  · simp at hc; exact hv.1 _ hc.symm
  · simp at hc; exact hv.2 _ hc.symm
section
variable {p : Option (Nat × Nat)} {t0 : Nat} {w W : World}
theorem cell_belp (hpay : PayAt w p t0) (hb : BelP p w.heap.size w W) {k o : Nat} {v : Value} (hc : w.cell? ⟨k, o, none⟩ = some v) (hv : (∀ x, v ≠ .float .f64 x) ∧ ∀ x, v ≠ .int .u64 x) : W.cell? ⟨k, o, none⟩ = some v :=
  (World.cell?_of_block (w := w) (hb.block k (World.block_lt_of_cell? _ _ hc) (fun q hq => purse_apart (hpay q hq) hc hv))).trans hc
theorem nums_belp (hpay : PayAt w p t0) (hb : BelP p w.heap.size w W) {a : Option Addr} {l : List Int} (h : NumsIn w a l) : NumsIn W a l := fun i hi => by
  obtain ⟨b, o, e, hc⟩ := h i hi
  exact ⟨b, o, e, cell_belp hpay hb hc ⟨(fun x h => by cases h), (fun x h => by injection h with h; cases h)⟩⟩
theorem dat_belp (hpay : PayAt w p t0) (hb : BelP p w.heap.size w W) {x : Dx} {d : Dm} (h : DAt w x d) : DAt W x d := by
  refine ⟨fun i hi => ?_, fun i hi => ?_⟩
  · obtain ⟨b, o, y, c, e, hc, hn⟩ := h.nx i hi
    exact ⟨b, o, y, c, e, cell_belp hpay hb hc ⟨(fun x h => by cases h), (fun x h => by cases h)⟩, nums_belp hpay hb hn⟩
  · obtain ⟨b, o, e, hc⟩ := h.fl i hi
    exact ⟨b, o, e, cell_belp hpay hb hc ⟨(fun x h => by cases h), (fun x h => by cases h)⟩⟩
theorem row_belp (hpay : PayAt w p t0) (hb : BelP p w.heap.size w W) {k : Nat} {cs : Array Value} {t : TypeId} (hc : w.heap[k]? = some (.cells cs t (0, 0))) (ht : t ≠ 162) : W.heap[k]? = some (.cells cs t (0, 0)) :=
  (hb.block k (Array.getElem?_eq_some_iff.1 hc).1 (fun q hq e => by
    have h := hpay q hq
    unfold PurseAt at h
    rw [e, hc] at h
    injection h with h
    injection h with _ h
    exact ht h)).trans hc
end
def OkP (a b : Dm) (nc : Nat) (s : Nat × Nat) : Prop := (s.1 < a.R.length ∧ s.2 < b.R.length) ∧ Rc (intoP a b) nc (0, 0) s
theorem okp_few (a b : Dm) (nc : Nat) (L : List (Nat × Nat)) (hn : L.Nodup) (h : ∀ s ∈ L, OkP a b nc s) : L.length ≤ a.R.length * b.R.length := by
  have hu : ∀ s ∈ L, s ∈ (List.range a.R.length).flatMap fun i => (List.range b.R.length).map fun j => (i, j) := fun s hs => by
    obtain ⟨i, j⟩ := s
    have h1 := (h _ hs).1
    exact List.mem_flatMap.2 ⟨i, List.mem_range.2 h1.1, List.mem_map.2 ⟨j, List.mem_range.2 h1.2, rfl⟩⟩
  have := nodup_len L _ hn hu
  refine Nat.le_trans this ?_
  rw [List.length_flatMap]
  simp only [List.length_map, List.length_range]
  rw [List.map_const', List.length_range, List.sum_replicate_nat]
  exact Nat.le_refl _
/-- What Both tells of two right automata with one partition. -/
def BoEnd (a b : Dm) (how nc : Nat) (p : Option (Nat × Nat)) (t0 : Nat) (w : World) (e : Ending) (w' : World) : Prop :=
  BelP p w.heap.size w w' ∧
  ((∃ L z d, e = .returned (.tuple #[.agg (dvC z d), .int .i64 0]) ∧ d.of = a.of ∧ d.n = (nc : Int) ∧ OwnDm w.heap.size w' z d ∧ Done (intoP a b) (finP how a b) (0, 0) (OkP a b nc) L d ∧ PayAt w' p (t0 + L.length) ∧ Aff p (t0 + L.length)) ∨
   (∃ (q : Nat × Nat) (L : List (Nat × Nat)), p = some q ∧ e = .panicked [{ v := ovr q.1, recovered := false }] ∧ L.Nodup ∧ (∀ x ∈ L, OkP a b nc x) ∧ cap q.2 + 1 = t0 + L.length ∧ PurseAt w' q.1 q.2 (t0 + L.length)))
set_option maxHeartbeats 12800000 in
set_option maxRecDepth 100000 in
theorem both_ok (x y : Dx) (a b : Dm) (how : Nat) (p : Option (Nat × Nat)) (t0 : Nat) (w : World) (hA : DAt w x a) (hB : DAt w y b) (hfa : DFine a) (hfb : DFine b) (hra : DRt a) (hrb : DRt b) (hof : a.of = b.of) (hn : a.n = b.n) (hh : how = 1 ∨ how = 2 ∨ how = 3)
    (hsm : a.R.length * b.R.length ≤ 90000) (hpay : PayAt w p t0) (hlow : ∀ q, p = some q → q.1 < w.heap.size) (hcap : Aff p t0) (ht0 : t0 ≤ 1000) :
    ∃ nc : Nat, a.n = nc ∧ Calls Tryd.prog 23 #[.agg (dvC x a), .agg (dvC y b), .int .u8 how, payV p] w (BoEnd a b how nc p t0 w) := by
  obtain ⟨nc, hnc, hnc2, hofn⟩ := pright_is hra.pr
  refine ⟨nc, hnc, ?_⟩
  have HA := Lib.hid hA
  have HB := Lib.hid hB
  have HFA := Lib.hid hfa
  have HFB := Lib.hid hfb
  have HRA := Lib.hid hra
  have HRB := Lib.hid hrb
  have HOF := Lib.hid hof
  have HN := Lib.hid hn
  have HNC := Lib.hid hnc
  have HNC2 := Lib.hid hnc2
  have HOFN := Lib.hid hofn
  have HH := Lib.hid hh
  have HSM := Lib.hid hsm
  have HPAY := Lib.hid hpay
  have HLOW := Lib.hid hlow
  have HCAP := Lib.hid hcap
  have HTT := Lib.hid ht0
  have HDA := Lib.hid ((dright_iff a).2 hra)
  have HDB := Lib.hid ((dright_iff b).2 hrb)
  have hmf : ∀ (fn : Fn) (first cap : Array Value) (w : World), (Instr.makeFunc fn first cap).run Tryd.prog w = .ok (.func fn first cap) w := fun _ _ _ _ => rfl
  have hz := zeroD
  clear hA hB hfa hfb hra hrb hof hn hnc hnc2 hofn hh hsm hpay hlow hcap ht0
  unfold payV
  go_enter Tryd.func23, Tryd.ntmps23
  go_upto_region 1 with fail
  obtain ⟨s, hs⟩ : ∃ s, Hid (w.heap.size = s) := ⟨_, Lib.hid rfl⟩
  obtain ⟨w1, hw1⟩ : ∃ w1, Hid (w1 = ((((w.alloc (.cells (dvC x a) 28)).alloc (.cells (dvC y b) 28)).alloc (.cells #[.int .u8 how] 5)).alloc (.cells (dfC (fun _ => 0) 0 nilS nilS) 28))) := ⟨_, Lib.hid rfl⟩
  rw [← hw1.out]
  have g0 : w1.heap[w.heap.size]? = some (.cells (dvC x a) 28 (0, 0)) := by rw [hw1.out]; exact keep1 (keep1 (keep1 (new1 w _ rfl) _) _) _
  have g1 : w1.heap[w.heap.size + 1]? = some (.cells (dvC y b) 28 (0, 0)) := by rw [hw1.out]; exact keep1 (keep1 (new1 _ _ (by simp)) _) _
  have g2 : w1.heap[w.heap.size + 1 + 1]? = some (.cells #[.int .u8 how] 5 (0, 0)) := by rw [hw1.out]; exact keep1 (new1 _ _ (by simp)) _
  have g3 : w1.heap[w.heap.size + 1 + 1 + 1]? = some (.cells (dfC (fun _ => 0) 0 nilS nilS) 28 (0, 0)) := by rw [hw1.out]; exact new1 _ _ (by simp)
  have g5 : w1.heap.size = w.heap.size + 1 + 1 + 1 + 1 := by rw [hw1.out]; simp
  have g6 : Below w.heap.size w w1 := by rw [hw1.out]; exact ((((Below.refl _ _).alloc (Nat.le_refl _) _).alloc (by simp) _).alloc (by simp; omega) _).alloc (by simp; omega) _
  rw [hs.out] at g0 g1 g2 g3 g5 g6 HLOW ⊢
  have HX1 : Hid (BoxD w1 s x a) := Lib.hid ⟨g0⟩
  have HY1 : Hid (BoxD w1 (s + 1) y b) := Lib.hid ⟨g1⟩
  have HW1 := Lib.hid g2
  have HR1 := Lib.hid g3
  have HB1 := Lib.hid g6
  have HSZ := Lib.hid g5
  clear g0 g1 g2 g3 g5 g6 hw1
  have HRD := Lib.hid (fun (w2 : World) (hb : Below w1.heap.size w1 w2) => dright_any x a w2 ((HA.out.kept (hs.out ▸ HB1.out)).kept hb) HFA.out)
  have HRE := Lib.hid (fun (w2 : World) (hb : Below w1.heap.size w1 w2) => dright_any y b w2 ((HB.out.kept (hs.out ▸ HB1.out)).kept hb) HFB.out)
  rw [HDA.out] at HRD
  rw [HDB.out] at HRE
  have hd1 : decide ((how : Int) < 1) = false := decide_eq_false (by have := HH.out; omega)
  have hd1' : decide (how < 1) = false := decide_eq_false (by have := HH.out; omega)
  have hd2 : decide ((3 : Int) < (how : Int)) = false := decide_eq_false (by have := HH.out; omega)
  have hd2' : decide (3 < how) = false := decide_eq_false (by have := HH.out; omega)
  have HB0 := Lib.hid (Below.refl w1.heap.size w1)
  have HPQ : Hid (partC b.of b.n = partC a.of a.n) := Lib.hid (by rw [HOF.out, HN.out])
  have HPE := Lib.hid (partEq a.of a.n)
  go_upto_region 3 with (first
    | (refine wpList_load_df rfl _ rfl s x a rfl HX1.out ?_)
    | (go_at_call 12; refine (HRD.out _ HB0.out).mono ?_; rintro e w2 ⟨rfl, hb2⟩; have HB2 := Lib.hid hb2; have HY2 := Lib.hid (HY1.out.stay hb2); clear hb2 HRD)
    | (refine BigFrame.wpList_want rfl (fun K' hK' => ?_); refine wp_load_row 28 _ rfl (s + 1) rfl 28 (dvC y b) (0, 0) _ HY2.out.row Tryd.underlying28 rfl (sizeDf _ _ _ _) ?_; refine hK' _ _ ?_; clear hK' K')
    | (go_at_call 12; refine (HRE.out _ HB2.out).mono ?_; rintro e w3 ⟨rfl, hb3⟩; have HB3 := Lib.hid (HB2.out.trans (hb3.mono HB2.out.size)); have HX3 := Lib.hid (HX1.out.stay HB3.out); have HY3 := Lib.hid (HY1.out.stay HB3.out); have HW3 : Hid (w3.heap[s + 1 + 1]? = some (.cells #[.int .u8 how] 5 (0, 0))) := Lib.hid ((HB3.out.block _ (Array.getElem?_eq_some_iff.1 HW1.out).1).trans HW1.out); have cw : w3.cell? ⟨s + 1 + 1, 0, none⟩ = some (.int .u8 how) := (by rw [cell_of_row w3 (s + 1 + 1) 0 _ _ _ HW3.out]; rfl); clear hb3)
    | (refine BigFrame.wpList_want rfl (fun K' hK' => ?_); refine wp_load_mid 24 _ rfl s 0 rfl (partC a.of a.n).toList _ (partC_mid _ _ _ _ _ _ HX3.out.row) Tryd.underlying24 rfl (sizePL _ _) ?_; rw [Array.toArray_toList]; refine hK' _ _ ?_; clear hK' K')
    | (refine BigFrame.wpList_want rfl (fun K' hK' => ?_); refine wp_load_mid 24 _ rfl (s + 1) 0 rfl (partC b.of b.n).toList _ (partC_mid _ _ _ _ _ _ HY3.out.row) Tryd.underlying24 rfl (sizePL _ _) ?_; rw [Array.toArray_toList, HPQ.out]; refine hK' _ _ ?_; clear hK' K')
    | (refine BigFrame.wpList_want rfl (fun K' hK' => ?_); refine wp_neq_rows 24 _ _ _ rfl (partC a.of a.n) (partC a.of a.n) rfl rfl (by kernel_rfl) true (fun w => HPE.out w) ?_; refine hK' _ _ ?_; clear hK' K'))
  clear cw hd1 hd1' hd2 hd2' HRE HB0 HPE
  have HRR3 : Hid (w3.heap[s + 1 + 1 + 1]? = some (.cells (dfC (fun _ => 0) 0 nilS nilS) 28 (0, 0))) := Lib.hid ((HB3.out.block _ (Array.getElem?_eq_some_iff.1 HR1.out).1).trans HR1.out)
  have HBB : Hid (Below s w w3) := Lib.hid (HB1.out.trans (HB3.out.mono (by have := HSZ.out; omega)))
  have HS3 : Hid (s + 1 + 1 + 1 + 1 ≤ w3.heap.size) := Lib.hid (by rw [← HSZ.out]; exact HB3.out.size)
  clear HX1 HY1 HW1 HR1 HB1 HSZ HB2 HY2 HB3
  clear w2 w1
  have HPAY3 : Hid (PayAt w3 p t0) := Lib.hid (fun q hq => (HPAY.out q hq).kept (HBB.out.block _ (HLOW.out q hq)))
  have HDA3 := Lib.hid (HA.out.kept (hs.out ▸ HBB.out))
  have HDB3 := Lib.hid (HB.out.kept (hs.out ▸ HBB.out))
  have hfl1 := HRA.out.fl
  have hfl2 := HRB.out.fl
  have HAU := Lib.hid (auto_any (fun W => BelP p w3.heap.size w3 W) (intoP a b) (finP how a b) nc (a.R.length * b.R.length) (0, 0) (OkP a b nc) (.pointer (some ⟨s, 0, none⟩)) (.pointer (some ⟨s + 1, 0, none⟩)) (.pointer (some ⟨s + 1 + 1, 0, none⟩)) (.pointer (some ⟨s, 0, none⟩)) (.pointer (some ⟨s + 1, 0, none⟩)) a.of p t0 w3
    (BelP.refl _ _ _) (fun W W' hW hb => hW.trans hb)
    ⟨⟨HRA.out.pos, HRB.out.pos⟩, .start⟩
    (fun t c ht hc => ⟨⟨(HRA.out.cls HNC.out ht.1.1 hc).2.2, (HRB.out.cls (HN.out ▸ HNC.out) ht.1.2 hc).2.2⟩, .step ht.2 hc⟩)
    (fun t _ => rfl) (fun L hL hx => okp_few a b nc L hL hx) HSM.out HNC2.out
    HPAY3.out (fun q hq => by have h1 := HLOW.out q hq; have h2 := HS3.out; omega) HCAP.out HTT.out
    (fun W t hW ht => (both1_any t (.pointer (some ⟨s, 0, none⟩)) (.pointer (some ⟨s + 1, 0, none⟩)) W).mono fun e W' ⟨he, hG, hbl⟩ => ⟨.pointer (some ⟨s, 0, none⟩), .pointer (some ⟨W.heap.size, 0, none⟩), .pointer (some ⟨s + 1, 0, none⟩), he, hbl, fun W'' c hW'' hc hk =>
      both11_any s W.heap.size (s + 1) c nc x y a b t W'' ⟨row_belp HPAY3.out hW'' HX3.out.row (by decide)⟩ ⟨(hk _ (Nat.le_refl _) hG.lt).trans hG.row⟩ ⟨row_belp HPAY3.out hW'' HY3.out.row (by decide)⟩
        (dat_belp HPAY3.out hW'' HDA3.out) (dat_belp HPAY3.out hW'' HDB3.out) HRA.out HRB.out HNC.out (HN.out ▸ HNC.out) ht.1.1 ht.1.2 hc⟩)
    (fun W t hW ht => both2_any (s + 1 + 1) s (s + 1) how x y a b t W (by rw [cell_of_row W (s + 1 + 1) 0 _ _ _ (row_belp HPAY3.out hW HW3.out (by decide))]; rfl) HH.out ⟨row_belp HPAY3.out hW HX3.out.row (by decide)⟩ ⟨row_belp HPAY3.out hW HY3.out.row (by decide)⟩
      (dat_belp HPAY3.out hW HDA3.out) (dat_belp HPAY3.out hW HDB3.out) (by rw [hfl1]; exact ht.1.1) (by rw [hfl2]; exact ht.1.2)))
  unfold DfPr.payV at HAU
  clear hfl1 hfl2
  have HPAN : Hid (∀ (q : Nat × Nat) (L : List (Nat × Nat)) (w7 : World), BelP p w3.heap.size w3 w7 → p = some q → L.Nodup → (∀ t ∈ L, OkP a b nc t) → cap q.2 + 1 = t0 + L.length → PurseAt w7 q.1 q.2 (t0 + L.length) → BoEnd a b how nc p t0 w (.panicked [{ v := ovr q.1, recovered := false }]) w7) := Lib.hid (fun q L w7 hb hpq hnd hok hc hpu => by
    refine ⟨(BelP.of_below (hs.out ▸ HBB.out : Below w.heap.size w w3)).trans ⟨hb.os, hb.tape, hb.output, hb.size, fun k hk hq => hb.block k (by have h1 := HS3.out; have h2 := hs.out; omega) hq⟩, .inr ⟨q, L, hpq, rfl, hnd, hok, hc, hpu⟩⟩)
  go_wp2_with (first
    | (refine wpList_load_mid rfl 24 _ rfl s 0 rfl (partC a.of a.n).toList _ (partC_mid _ _ _ _ _ _ HX3.out.row) Tryd.underlying24 rfl (sizePL _ _) ?_; rw [Array.toArray_toList, HNC.out])
    | (go_at_call 50; refine HAU.out.mono ?_; rintro e w7 ⟨hbl, (⟨L, R, F, nv, fv, vs, rfl, ho, hmk, hlen, hpa, haf⟩ | ⟨q, L, hpq, rfl, hnd, hok, hc, hpu⟩)⟩; rotate_left; exact ⟨rfl, HPAN.out q L w7 hbl hpq hnd hok hc hpu⟩; obtain ⟨a1, c1, rfl, -⟩ := own_slice ho.nx; obtain ⟨b1, d1, rfl, -⟩ := own_slice ho.fl; have HO7 := Lib.hid ho; have HMK := Lib.hid hmk; have HLEN := Lib.hid hlen; have HPA := Lib.hid hpa; have HAF := Lib.hid haf; have HBL := Lib.hid hbl; have HR7 : Hid (w7.heap[s + 1 + 1 + 1]? = some (.cells (dfC (fun _ => 0) 0 nilS nilS) 28 (0, 0))) := Lib.hid (row_belp HPAY3.out hbl HRR3.out (by decide)); clear ho hmk hlen hpa haf hbl)
    | (refine wpList_store_df rfl (.tmp 8) (.tmp 44) rfl (s + 1 + 1 + 1) a.of nc a1 b1 R.length F.length c1 d1 _ rfl rfl HR7.out (dfC_size _ _ _ _) ?_))
  obtain ⟨z, hz⟩ : ∃ z : Dx, Hid (z = ⟨a1, c1, b1, d1⟩) := ⟨_, Lib.hid rfl⟩
  obtain ⟨d, hd⟩ : ∃ d : Dm, Hid (d = ⟨a.of, nc, R, F⟩) := ⟨_, Lib.hid rfl⟩
  have HDV : Hid (dfC a.of nc (.slice a1 R.length c1) (.slice b1 F.length d1) = dvC z d) := Lib.hid (by rw [hz.out, hd.out]; rfl)
  refine bodyPost_ret (v := .tuple #[.agg (dvC z d), .int .i64 0]) (by rw [← HDV.out]; exact res_cell_tmp (p := 8) (q := 9) Tryd.results23 _ _ (s + 1 + 1 + 1) 28 _ (0, 0) _ (.int .i64 0) rfl rfl (setRow_heap w7 _ _ _ _ _ HR7.out) Tryd.underlying28 rfl (sizeDf _ _ _ _)) rfl ?_
  have hbu := But.setRow (s + 1 + 1 + 1) w7 (dfC a.of nc (.slice a1 R.length c1) (.slice b1 F.length d1))
  have hbl := HBL.out
  have hwq : w.heap.size = s := hs.out
  refine ⟨((BelP.of_below (hs.out ▸ HBB.out : Below w.heap.size w w3)).trans ⟨hbl.os, hbl.tape, hbl.output, hbl.size, fun k hk hq => hbl.block k (by have h1 := HS3.out; omega) hq⟩).trans ⟨hbu.os, hbu.tape, hbu.output, hbu.size, fun k hk _ => setRow_other _ _ _ _ (by omega)⟩, .inl ⟨L, z, d, rfl, by rw [hd.out], by rw [hd.out], ⟨vs, ?_⟩, ⟨⟨nc, by rw [hd.out], ?_, ?_⟩, ?_, ?_⟩, fun q hq => ?_, HAF.out⟩⟩
  · have ho := HO7.out.kept (w' := w7.setRow (s + 1 + 1 + 1) (dfC a.of nc (.slice a1 R.length c1) (.slice b1 F.length d1))) fun k cs t hc ht => hbu.block k (Array.getElem?_eq_some_iff.1 hc).1 (fun e => by
      rw [e, HR7.out] at hc; injection hc with hc; injection hc with _ hc; subst hc
      rcases ht with h | h | h <;> exact absurd h (by decide))
    rw [hz.out, hd.out]
    have hle : w.heap.size ≤ w3.heap.size := by have h1 := HS3.out; omega
    exact ⟨own_mono ho.nx hle, ho.len, fun i hi => own_mono (ho.each i hi) hle, own_mono ho.fl hle⟩
  · intro c hc; rw [hd.out]; exact HOFN.out c hc
  · rw [hd.out]; exact HMK.out
  · rw [hd.out]; exact HLEN.out
  · rw [hd.out]; show prightB a.of nc = true; rw [← HNC.out]; exact HRA.out.pr
  · have h1 := HPA.out q hq
    exact h1.kept (hbu.block _ h1.lt (by have := HLOW.out q hq; omega))
end Df
end Go.Proofs.YtplkhgmjcljjhaaDoor
