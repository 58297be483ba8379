/- node: as often as. -/
import Derived.Test.YtcgllipcnmlkbaaDoorPk8
namespace Go.Proofs.YtcgllipcnmlkbaaDoor
open Go.RowKit Sets Tr Rx Sp
set_option maxHeartbeats 6400000 in
set_option maxRecDepth 100000 in
theorem node_one (W0 : World) (nv : Value) (N : List Nd) (hN : NodesAt W0 nv N) (hs : ∀ i, i < N.length → sound (N.getD i default) = true) (i : Nat) (t : T) (hi : Is N (.one i t)) (hC : NodeC W0 nv N t) : NodeC W0 nv N (.one i t) := by
  intro B sv fv S F w h hb hWB hl hsm hn hT hg
  have hi1 : i < N.length := hi.1
  obtain ⟨na, nc, hnv⟩ : ∃ a c, nv = .slice a N.length c := by obtain ⟨-, -, a, c, e, -⟩ := hN; exact ⟨a, c, e⟩
  subst hnv
  obtain ⟨q, o, rfl, hr0, hok⟩ := (nodes_kept hN hb).at hi1
  have hsx := hs i hi1
  have HR0 := Lib.hid (range_kept hr0 ((Below.refl w.heap.size w).alloc (Nat.le_refl _) (.cells #[.int .u64 0, .int .u64 0, .bool false] 80)))
  have HI := Lib.hid (NoI.make (N.getD i default) h hb hWB hT)
  have hB := h.row.lt
  obtain ⟨c0, c1, c2⟩ := h.row.cells
  have hk := one_kind hi.2.1
  have hm5 := sound5 hsx hk.1
  have hm : mk (abs N (.one i t)) = tim (mk (abs N t)) (N.getD i default).mn (N.getD i default).mx := rfl
  rw [hm] at hn ⊢
  have HTm := Lib.hid (timesP_any W0 N t (N.getD i default) B _ sv fv S F _ hC HI.out.at_ HI.out.b0 hWB hl hsm hk.2 hm5 hn HI.out.tab hg)
  have hk5 := hk.1
  clear hm hi hm5 hk hC hN hs hsx hn hok h hb hT hsm hl
  generalize N.getD i default = x at *
  have hdi : decide ((i : Int) < (N.length : Int)) = true := decide_eq_true (by omega)
  have hdi2 : decide (i < N.length) = true := decide_eq_true hi1
  clear hr0 hWB
  obtain ⟨bx0, bx5, bx6, bx7, bx8⟩ := HI.out.bx.c4
  rw [hk5] at bx0
  clear hk5
  obtain ⟨r, hr⟩ : ∃ y, y = tim (mk (abs N t)) x.mn x.mx := ⟨_, rfl⟩
  rw [← hr] at HTm ⊢
  clear hr
  obtain ⟨f2, l2, e2, hf2, hl2, he2⟩ : ∃ f2 l2 e2, f2 = r.fi <<< S.length ∧ l2 = r.la <<< S.length ∧ e2 = r.em := ⟨_, _, _, rfl, rfl, rfl⟩
  have hen : enV S.length r = .agg (en3 f2 l2 e2) := by rw [hf2, hl2, he2]; rfl
  rw [hen] at HTm ⊢
  clear hf2 hl2 he2 hen
  show Calls Tryd.prog 32 #[.pointer (some ⟨B, 0, none⟩), .int .i64 i] w _
  go_enter Tryd.func32, Tryd.ntmps32
  go_wp2_with (first
      | (refine wpList_load_node rfl _ rfl q (o + i * 9) x rfl HR0.out ?_)
      | (refine wpList_store_node_at rfl _ _ rfl x (w.heap.size + 1) (by simp) rfl rfl ?_)
      | (refine wpList_load_node rfl _ rfl (w.heap.size + 1) 0 x rfl HI.out.bx.range ?_)
      | (go_at_call 48; refine HTm.out.mono ?_; rintro e w3 ⟨rfl, sv3, fv3, hM3, hF3⟩; have HM3 := Lib.hid hM3; have HF3 := Lib.hid hF3; have HE3 := Lib.hid (HI.out.er.fr HI.out.at_ hF3); clear hM3 hF3)
      | (refine wpList_put_ends rfl _ _ rfl w.heap.size 0 0 false f2 l2 e2 rfl rfl HE3.out ?_; intro hE7; have HE7 := Lib.hid hE7; clear hE7))
  have hfin := HI.out.fin (f := f2) (l := l2) (e := e2) hB HM3.out HF3.out
  exact bodyPost_ret (v := .agg (en3 f2 l2 e2)) (results_cell_row (p := 4) Tryd.results32 _ _ w.heap.size 80 _ (0, 0) _ rfl HE7.out Tryd.underlying80 rfl (sizeEnds _ _ _)) rfl ⟨rfl, sv3, fv3, hfin.1, hfin.2⟩
end Go.Proofs.YtcgllipcnmlkbaaDoor
