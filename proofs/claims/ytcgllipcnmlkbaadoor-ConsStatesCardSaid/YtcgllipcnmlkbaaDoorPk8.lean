/- node. -/
import Derived.Test.YtcgllipcnmlkbaaDoorPkV
namespace Go.Proofs.YtcgllipcnmlkbaaDoor
open Go.RowKit Sets Tr Rx Sp
theorem nodes_kept {W0 w : World} {v : Value} {N : List Nd} (h : NodesAt W0 v N) (hb : Below W0.heap.size W0 w) : NodesAt w v N := h.kept hb
theorem sound_kind {x : Nd} (h : sound x = true) : x.k = 1 ∨ x.k = 2 ∨ x.k = 3 ∨ x.k = 4 ∨ x.k = 5 := by
  unfold sound at h
  split at h
  · exact .inl (by assumption)
  · split at h
    · exact .inr (.inl (by assumption))
    · split at h
      · rename_i h3; rcases h3 with h3 | h3
        · exact .inr (.inr (.inl h3))
        · exact .inr (.inr (.inr (.inl h3)))
      · split at h
        · exact .inr (.inr (.inr (.inr (by assumption))))
        · cases h
/-- the start of node: the node is read, the box of ends laid -/
structure NoI (W0 : World) (w : World) (B : Nat) (nv sv fv : Value) (S F : List Nat) (x : Nd) (w1 : World) : Prop where
  at_ : MkAt w1 B nv sv fv S F
  fr : Fr B w sv fv w1 sv fv
  er : ERow w1 w.heap.size 0 0 false
  bx : BoxAt w1 (w.heap.size + 1) x
  b0 : Below W0.heap.size W0 w1
  tab : Tab w1
theorem NoI.make {W0 w : World} {B : Nat} {nv sv fv : Value} {S F : List Nat} (x : Nd) (h : MkAt w B nv sv fv S F) (hb : Below W0.heap.size W0 w) (hWB : W0.heap.size ≤ B) (hT : Tab w) :
    NoI W0 w B nv sv fv S F x ((w.alloc (.cells #[.int .u64 0, .int .u64 0, .bool false] 80)).alloc (.cells (nd9 x).toArray 96)) := by
  have hB := h.row.lt
  have hal1 := (Below.refl w.heap.size w).alloc (Nat.le_refl _) (.cells #[.int .u64 0, .int .u64 0, .bool false] 80)
  have hal2 := hal1.alloc (by simp) (.cells (nd9 x).toArray 96)
  have hbx := BoxAt.new (w.alloc (.cells #[.int .u64 0, .int .u64 0, .bool false] 80)) x
  rw [show (w.alloc (.cells #[.int .u64 0, .int .u64 0, .bool false] 80)).heap.size = w.heap.size + 1 from by simp] at hbx
  exact ⟨h.below hal2, Fr.of_below sv fv hal2 hB, (ERow.new w 0 0 false).below ((Below.refl _ _).alloc (Nat.le_refl _) _), hbx, hb.trans (hal2.mono (by omega)), hT.below hal2 (by omega)⟩
theorem NoI.fin {W0 w w1 w2 : World} {B f l : Nat} {e : Bool} {nv sv fv sv2 fv2 : Value} {S F S2 F2 : List Nat} {x : Nd} (h : NoI W0 w B nv sv fv S F x w1) (hB : B < w.heap.size) (hM : MkAt w2 B nv sv2 fv2 S2 F2) (hF : Fr B w1 sv fv w2 sv2 fv2) :
    MkAt (w2.setRow w.heap.size (en3 f l e)) B nv sv2 fv2 S2 F2 ∧ Fr B w sv fv (w2.setRow w.heap.size (en3 f l e)) sv2 fv2 := by
  have he := h.er.fr h.at_ hF
  have ho := hM.off he (by decide) (by decide)
  exact ⟨hM.other _ _ (by omega) ho.1 ho.2, (h.fr.trans hF).setRow _ (Nat.le_refl _) hB⟩
theorem leaf_mk {N : List Nd} {i : Nat} (h : kids (N.getD i default) = []) (hs : sound (N.getD i default) = true) :
    ((N.getD i default).k = 1 ∧ mk (abs N (.leaf i)) = zero) ∨ ((N.getD i default).k = 2 ∧ mk (abs N (.leaf i)) = ⟨[(N.getD i default).s], [0], 1, 1, false⟩) := by
  have hk := leaf_kind h
  rcases sound_kind hs with h1 | h1 | h1 | h1 | h1
  · exact .inl ⟨h1, by simp only [abs]; rw [if_pos h1]; rfl⟩
  · exact .inr ⟨h1, by simp only [abs]; rw [if_neg (by omega)]; rfl⟩
  · exact absurd (.inl h1) hk.1
  · exact absurd (.inr h1) hk.1
  · exact absurd h1 hk.2
theorem up_one (n x : Nat) : enV n ⟨[x], [0], 1, 1, false⟩ = .agg (en3 (2 ^ n) (2 ^ n) false) := by unfold enV; simp [Nat.shiftLeft_eq]
theorem wpList_store_node_at {ops : Array Oper} {rest : List Oper} {o : Oper} {a : Act} {w : World} {Q : Exit → Act → World → Prop} (hgd : o.guard = none) (x y : Operand)
    (ho : o.op = .store 96 x y) (X : Nd) (g : Nat) (hg : w.heap.size = g) (hx : a.eval x = .pointer (some ⟨g, 0, none⟩)) (hy : a.eval y = .agg (nd9 X).toArray)
    (h : wpList Tryd.prog ops Q rest (a.put o.dst undef) (w.alloc (.cells (nd9 X).toArray 96))) : wpList Tryd.prog ops Q (o :: rest) a (w.alloc (.cells zero9 96)) := by
  subst hg
  exact wpList_store_node hgd x y ho X hx hy h
theorem wpList_lay_ends_at {ops : Array Oper} {rest : List Oper} {o : Oper} {a : Act} {w : World} {Q : Exit → Act → World → Prop} (hgd : o.guard = none) (x y : Operand)
    (ho : o.op = .store 80 x y) (f l : Nat) (e : Bool) (g : Nat) (hg : w.heap.size = g) (hx : a.eval x = .pointer (some ⟨g, 0, none⟩)) (hy : a.eval y = .agg (en3 f l e))
    (h : wpList Tryd.prog ops Q rest (a.put o.dst undef) (w.alloc (.cells #[.int .u64 f, .int .u64 l, .bool e] 80))) : wpList Tryd.prog ops Q (o :: rest) a (w.alloc (.cells #[.int .u64 0, .int .u64 0, .bool false] 80)) := by
  subst hg
  exact wpList_lay_ends hgd x y ho f l e hx hy h
set_option maxHeartbeats 6400000 in
set_option maxRecDepth 100000 in
theorem node_leaf (W0 : World) (nv : Value) (N : List Nd) (hN : NodesAt W0 nv N) (hs : ∀ i, i < N.length → sound (N.getD i default) = true) (i : Nat) (hi : Is N (.leaf i)) : NodeC W0 nv N (.leaf i) := by
  intro B sv fv S F w h hb hWB hl hsm hn hT hg
  have hi1 : i < N.length := hi.1
  obtain ⟨na, nc, rfl⟩ : ∃ a c, nv = .slice a N.length c := by obtain ⟨-, -, a, c, e, -⟩ := hN; exact ⟨a, c, e⟩
  obtain ⟨q, o, rfl, hr0, hok⟩ := (nodes_kept hN hb).at hi1
  have hlm := leaf_mk hi.2 (hs i hi1)
  have HR0 := Lib.hid (range_kept hr0 ((Below.refl w.heap.size w).alloc (Nat.le_refl _) (.cells #[.int .u64 0, .int .u64 0, .bool false] 80)))
  have HI := Lib.hid (NoI.make (N.getD i default) h hb hWB hT)
  have hB := h.row.lt
  obtain ⟨c0, c1, c2⟩ := h.row.cells
  generalize N.getD i default = x at *
  have HL := Lib.hid hl
  have HN := Lib.hid hn
  have hdi : decide ((i : Int) < (N.length : Int)) = true := decide_eq_true (by omega)
  have hdi2 : decide (i < N.length) = true := decide_eq_true hi1
  clear hr0 h hb hT hsm hl hn hN hs hi hok hWB
  obtain ⟨bx0, bx5, bx6, bx7, bx8⟩ := HI.out.bx.c4
  obtain ⟨s0, s1, s2, s3⟩ := HI.out.bx.sets
  show Calls Tryd.prog 32 #[.pointer (some ⟨B, 0, none⟩), .int .i64 i] w _
  go_enter Tryd.func32, Tryd.ntmps32
  rcases hlm with ⟨hk, hm⟩ | ⟨hk, hm⟩
  · rw [hm] at HN ⊢
    rw [hk] at bx0
    have HK := Lib.hid hk
    clear hm hk
    go_wp2_with (first
      | (refine wpList_load_node rfl _ rfl q (o + i * 9) x rfl HR0.out ?_)
      | (refine wpList_store_node_at rfl _ _ rfl x (w.heap.size + 1) (by simp) rfl rfl ?_)
      | (refine wpList_put_ends rfl _ _ rfl w.heap.size 0 0 false 0 0 true rfl rfl HI.out.er ?_; intro hE7; have HE7 := Lib.hid hE7; clear hE7))
    have hfin := HI.out.fin (f := 0) (l := 0) (e := true) hB HI.out.at_ (Fr.refl sv fv HI.out.at_.row.lt)
    refine bodyPost_ret (v := .agg (en3 0 0 true)) (results_cell_row (p := 4) Tryd.results32 _ _ w.heap.size 80 _ (0, 0) _ rfl HE7.out Tryd.underlying80 rfl (sizeEnds _ _ _)) rfl ⟨by rw [enV_zero], sv, fv, ?_, hfin.2⟩
    show MkAt _ B _ sv fv (S ++ []) (F ++ up S.length [])
    rw [List.append_nil, show up S.length [] = [] from rfl, List.append_nil]
    exact hfin.1
  · rw [hm] at HN ⊢
    rw [hk] at bx0
    have HP := Lib.hid (place_any B _ sv fv S F x.s _ HI.out.at_ (by have := HN.out; simp at this; omega) (by have := HN.out; rw [HL.out]; simp at this; omega))
    unfold setV at HP
    have HE := Lib.hid (up_one S.length x.s)
    rw [HE.out]
    obtain ⟨p2, hp2⟩ : ∃ y, y = 2 ^ S.length := ⟨_, rfl⟩
    rw [← hp2] at HP ⊢
    clear hm hk hp2
    go_wp2_with (first
      | (refine wpList_load_node rfl _ rfl q (o + i * 9) x rfl HR0.out ?_)
      | (refine wpList_store_node_at rfl _ _ rfl x (w.heap.size + 1) (by simp) rfl rfl ?_)
      | (go_at_call 46; refine HP.out.mono ?_; rintro e w3 ⟨rfl, sv3, fv3, hM3, hF3⟩; have HM3 := Lib.hid hM3; have HF3 := Lib.hid hF3; have HE3 := Lib.hid (HI.out.er.fr HI.out.at_ hF3); clear hM3 hF3)
      | (refine wpList_put_ends rfl _ _ rfl w.heap.size 0 0 false p2 p2 false rfl rfl HE3.out ?_; intro hE7; have HE7 := Lib.hid hE7; clear hE7))
    have hfin := HI.out.fin (f := p2) (l := p2) (e := false) hB HM3.out HF3.out
    refine bodyPost_ret (v := .agg (en3 p2 p2 false)) (results_cell_row (p := 4) Tryd.results32 _ _ w.heap.size 80 _ (0, 0) _ rfl HE7.out Tryd.underlying80 rfl (sizeEnds _ _ _)) rfl ⟨rfl, sv3, fv3, ?_, hfin.2⟩
    have e : up S.length [0] = [0] := by unfold up; simp
    rw [e]
    exact hfin.1
end Go.Proofs.YtcgllipcnmlkbaaDoor
