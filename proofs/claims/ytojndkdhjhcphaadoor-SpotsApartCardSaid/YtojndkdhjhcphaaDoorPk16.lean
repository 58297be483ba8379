/- of: a constraint's places, by its text. -/
import Derived.Test.YtojndkdhjhcphaaDoorPk14
import Derived.Test.YtojndkdhjhcphaaDoorPkO
namespace Go.Proofs.YtojndkdhjhcphaaDoor
open Go.RowKit Sets Tr Rx Sp
theorem tab_lt {w : World} (h : Tab w) : 0 < w.heap.size := World.block_lt_of_cell? _ _ (h 0 (by decide))
theorem wpList_lay_made {ops : Array Oper} {rest : List Oper} {o : Oper} {a : Act} {w : World} {Q : Exit → Act → World → Prop} (hgd : o.guard = none) (x y : Operand)
    (ho : o.op = .store 26 x y) (cs : Array Value) (hs : cs.size = 6) (h1 : cs.all (·.oneCell') = true) (g : Nat) (hg : w.heap.size = g) (hx : a.eval x = .pointer (some ⟨g, 0, none⟩)) (hy : a.eval y = .agg cs)
    (h : wpList Tryd.prog ops Q rest (a.put o.dst undef) (w.alloc (.cells cs 26))) : wpList Tryd.prog ops Q (o :: rest) a (w.alloc (.cells #[.slice none 0 0, .slice none 0 0, .slice none 0 0, .slice none 0 0, .slice none 0 0, .slice none 0 0] 26)) := by
  subst hg
  refine wpList_put_made hgd x y ho w.heap.size nilMd cs hs h1 rfl hx hy (heap_alloc_new w _) (fun _ => ?_)
  have e1 : (w.alloc (.cells #[.slice none 0 0, .slice none 0 0, .slice none 0 0, .slice none 0 0, .slice none 0 0, .slice none 0 0] 26)).setRow w.heap.size cs = w.alloc (.cells cs 26) := World.setRow_alloc_new _ _ _ _
  rw [e1]
  exact h
theorem made_slices {B : Nat} {w : World} {sv a b fv c d : Value} {m : Sp.Md} (h : MadeAt B w sv a b fv c d m) : (mdV sv a b fv c d).all (·.oneCell') = true := by
  obtain ⟨a1, b1, e1⟩ := own_slice h.s
  obtain ⟨a2, b2, e2⟩ := own_slice h.fi
  obtain ⟨a3, b3, e3⟩ := own_slice h.la
  obtain ⟨a4, b4, e4⟩ := own_slice h.f
  obtain ⟨a5, b5, e5⟩ := own_slice h.em
  obtain ⟨a6, b6, e6⟩ := own_slice h.nt
  rw [e1, e2, e3, e4, e5, e6]
  unfold mdV
  simp [Value.oneCell']
theorem MadeAt.kept {B : Nat} {w w' : World} {sv a b fv c d : Value} {m : Sp.Md} (h : MadeAt B w sv a b fv c d m) (k : Below w.heap.size w w') : MadeAt B w' sv a b fv c d m :=
  ⟨own_kept h.s fun g hg => k.block g (h.s.lt g hg).2, own_kept h.fi fun g hg => k.block g (h.fi.lt g hg).2, own_kept h.la fun g hg => k.block g (h.la.lt g hg).2, own_kept h.f fun g hg => k.block g (h.f.lt g hg).2, own_kept h.em fun g hg => k.block g (h.em.lt g hg).2, own_kept h.nt fun g hg => k.block g (h.nt.lt g hg).2⟩
theorem MadeAt.row {B D : Nat} {w : World} {cs o : Array Value} {fr : Nat × Nat} {sv a b fv c d : Value} {m : Sp.Md} (h : MadeAt B w sv a b fv c d m) (hD : w.heap[D]? = some (.cells o 26 fr)) : MadeAt B (w.setRow D cs) sv a b fv c d m := by
  have hk : ∀ {A s n : Nat} {e : TypeId} {v : Value} {xs : List Value}, w.ownsRow A e s v n xs → e ≠ 26 → (w.setRow D cs).ownsRow A e s v n xs := fun h5 h6 => own_kept h5 fun g hg => setRow_other _ _ _ _ (off_row h5 hD h6 g hg)
  exact ⟨hk h.s (by decide), hk h.fi (by decide), hk h.la (by decide), hk h.f (by decide), hk h.em (by decide), hk h.nt (by decide)⟩
theorem MadeAt.mono {B A : Nat} {w : World} {sv a b fv c d : Value} {m : Sp.Md} (h : MadeAt B w sv a b fv c d m) (hA : A ≤ B) : MadeAt A w sv a b fv c d m :=
  ⟨own_mono h.s hA, own_mono h.fi hA, own_mono h.la hA, own_mono h.f hA, own_mono h.em hA, own_mono h.nt hA⟩
theorem spotsOf_any (nv pv : Value) (N : List Nd) (R : List (Int × Bool)) (w : World) (hN : NodesAt w nv N) (hP : PartsAt w pv R) (hT : Tab w) (hg : 0 < w.heap.size) :
    Calls Tryd.prog 8 #[.agg #[nv, pv]] w (OfEnd N R w) := by
  cases hr : rightB N R
  · exact of_wrong nv pv N R w hN hP hr
  · by_cases hp : plOf N R ≤ 63
    · exact of_right nv pv N R w hN hP hr hp hT hg
    · exact of_long nv pv N R w hN hP hr (by omega)
set_option maxHeartbeats 6400000 in
set_option maxRecDepth 100000 in
theorem ofText_any (s : ByteArray) (x : Nat) (N : List Nd) (R : List (Int × Bool)) (w : World) (hc : cons (by' s) = .ok x N R) (hr : rightB N R = true) (hp : plOf N R ≤ 63) (hT : Tab w) (hg : 0 < w.heap.size) :
    Calls Tryd.prog 7 #[.string s] w fun e w' => Below w.heap.size w w' ∧ ∃ sv a b fv c d, e = .returned (.agg (mdV sv a b fv c d)) ∧ MadeAt w.heap.size w' sv a b fv c d (Sp.md (parts N R)) := by
  have hal := (Below.refl w.heap.size w).alloc (Nat.le_refl _) (.cells nilMd 26)
  have HPa := Lib.hid (parse_any s (w.alloc (.cells nilMd 26)))
  have HB := Lib.hid hal
  have HT := Lib.hid (hT.below hal hg)
  have HRB := Lib.hid hr
  have HPL := Lib.hid hp
  have HG := Lib.hid hg
  have HD : Hid ((w.alloc (.cells nilMd 26)).heap[w.heap.size]? = some (.cells nilMd 26 (0, 0))) := Lib.hid (heap_alloc_new w _)
  unfold nilMd mdV at *
  clear hal hT hg hr hp
  go_enter Tryd.func7, Tryd.ntmps7
  go_wp2_with fail
  refine HPa.out.mono ?_
  clear HPa
  intro e w1 hP
  unfold PO at hP
  rw [hc] at hP
  obtain ⟨⟨nv, pv, rfl, hN, hPP⟩, hB1⟩ := hP
  obtain ⟨na, nc, hnv⟩ : ∃ a c, nv = .slice a N.length c := by obtain ⟨-, -, a, c, e, -⟩ := hN; exact ⟨a, c, e⟩
  obtain ⟨pa, pc, hpv⟩ : ∃ a c, pv = .slice a R.length c := by obtain ⟨-, -, a, c, e, -⟩ := hPP; exact ⟨a, c, e⟩
  subst hnv hpv
  have hsr := World.setRow_alloc_new w1 #[.slice none 0 0, .slice none 0 0] #[.slice na N.length nc, .slice pa R.length pc] 34
  have h0 : (w1.alloc (.cells #[.slice none 0 0, .slice none 0 0] 34)).heap[w1.heap.size]? = some (.cells #[.slice none 0 0, .slice none 0 0] 34 (0, 0)) := heap_alloc_new w1 _
  have H0 := Lib.hid h0
  have HSR := Lib.hid hsr
  have ha := (Below.refl w1.heap.size w1).alloc (Nat.le_refl _) (.cells #[.slice na N.length nc, .slice pa R.length pc] 34)
  have HN := Lib.hid (hN.kept ha)
  have HP := Lib.hid (hPP.kept ha)
  have hs1 : w.heap.size + 1 ≤ w1.heap.size := by have := hB1.size; simp at this; omega
  have HB1 := Lib.hid ((HB.out.trans (hB1.mono (by simp))).trans (ha.mono (by omega)))
  have HD1 := Lib.hid ((ha.block w.heap.size (by omega)).trans ((hB1.block w.heap.size (by simp)).trans HD.out))
  have HT1 := Lib.hid ((HT.out.below hB1 (by have := HG.out; simp <;> omega)).below ha (by have := HG.out; omega))
  have HS : Hid ((w1.alloc (.cells #[.slice na N.length nc, .slice pa R.length pc] 34)).heap.size = w1.heap.size + 1) := Lib.hid (by simp)
  clear hN hPP hB1 h0 hsr ha HB HT HD
  go_wp2_with (refine wpList_put_tree rfl _ _ rfl w1.heap.size _ _ _ _ _ _ rfl rfl (.slice none 0 0) (.slice none 0 0) H0.out ?_; rw [HSR.out])
  generalize w1.alloc (.cells #[.slice na N.length nc, .slice pa R.length pc] 34) = w2 at *
  clear H0 HSR
  refine (spotsOf_any _ _ N R w2 HN.out HP.out HT1.out (tab_lt HT1.out)).mono ?_
  rintro e w3 ⟨hB3, hE⟩
  rw [HRB.out] at hE
  rcases hE with ⟨h5, -⟩ | ⟨-, h5, -⟩ | ⟨-, -, sv, a, b, fv, c, d, rfl, hM⟩
  · cases h5
  · exact absurd HPL.out (by omega)
  have hs2 := HS.out
  have HM := Lib.hid (hM.mono (A := w.heap.size) (by omega))
  have HD3 := Lib.hid ((hB3.block w.heap.size (by omega)).trans HD1.out)
  have HB3 := Lib.hid (HB1.out.trans (hB3.mono (by omega)))
  have HOne := Lib.hid (made_slices hM)
  clear hM hB3 hs2 HN HP HB1 HD1 HT1
  have hal3 := (Below.refl w3.heap.size w3).alloc (Nat.le_refl _) (.cells (mdV sv a b fv c d) 26)
  have HM4 := Lib.hid (HM.out.kept hal3)
  have HD4 := Lib.hid ((hal3.block w.heap.size (Array.getElem?_eq_some_iff.1 HD3.out).1).trans HD3.out)
  have HB4 := Lib.hid (HB3.out.trans (hal3.mono HB3.out.size))
  have HR4 : Hid ((w3.alloc (.cells (mdV sv a b fv c d) 26)).heap[w3.heap.size]? = some (.cells (mdV sv a b fv c d) 26 (0, 0))) := Lib.hid (heap_alloc_new w3 _)
  clear hal3
  go_wp2_with (first
    | (refine wpList_lay_made rfl _ _ rfl (mdV sv a b fv c d) rfl HOne.out w3.heap.size rfl rfl rfl ?_)
    | (refine wpList_get_made rfl _ rfl w3.heap.size (mdV sv a b fv c d) rfl rfl HR4.out ?_)
    | (refine wpList_put_made rfl _ _ rfl w.heap.size nilMd (mdV sv a b fv c d) rfl HOne.out rfl rfl rfl HD4.out ?_; intro hE7; have HE7 := Lib.hid hE7; clear hE7))
  exact bodyPost_ret (v := .agg (mdV sv a b fv c d)) (results_cell_row (p := 2) Tryd.results7 _ _ w.heap.size 26 _ (0, 0) _ rfl HE7.out Tryd.underlying26 rfl (by show _ = some 6; kernel_rfl)) rfl ⟨HB4.out.trans ⟨rfl, rfl, rfl, by simp [World.setRow], fun k hk => setRow_other _ _ _ _ (by omega)⟩, sv, a, b, fv, c, d, rfl, HM4.out.row HD4.out⟩
end Go.Proofs.YtojndkdhjhcphaaDoor
