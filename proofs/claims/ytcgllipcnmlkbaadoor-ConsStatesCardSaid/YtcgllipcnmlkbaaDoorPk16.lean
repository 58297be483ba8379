/- of: a constraint's places, by its text. -/
import Derived.Test.YtcgllipcnmlkbaaDoorPk14
import Derived.Test.YtcgllipcnmlkbaaDoorPkO
namespace Go.Proofs.YtcgllipcnmlkbaaDoor
open Go.RowKit Sets Tr Rx Sp
theorem tab_lt {w : World} (h : Tab w) : 0 < w.heap.size := World.block_lt_of_cell? _ _ (h 0 (by decide))
theorem wpList_lay_made {ops : Array Oper} {rest : List Oper} {o : Oper} {a : Act} {w : World} {Q : Exit → Act → World → Prop} (hgd : o.guard = none) (x y : Operand)
    (ho : o.op = .store 46 x y) (cs : Array Value) (hs : cs.size = 6) (h1 : cs.all (·.oneCell') = true) (g : Nat) (hg : w.heap.size = g) (hx : a.eval x = .pointer (some ⟨g, 0, none⟩)) (hy : a.eval y = .agg cs)
    (h : wpList Tryd.prog ops Q rest (a.put o.dst undef) (w.alloc (.cells cs 46))) : wpList Tryd.prog ops Q (o :: rest) a (w.alloc (.cells #[.slice none 0 0, .slice none 0 0, .slice none 0 0, .slice none 0 0, .slice none 0 0, .slice none 0 0] 46)) := by
  subst hg
  refine wpList_put_made hgd x y ho w.heap.size nilMd cs hs h1 rfl hx hy (heap_alloc_new w _) (fun _ => ?_)
  have e1 : (w.alloc (.cells #[.slice none 0 0, .slice none 0 0, .slice none 0 0, .slice none 0 0, .slice none 0 0, .slice none 0 0] 46)).setRow w.heap.size cs = w.alloc (.cells cs 46) := World.setRow_alloc_new _ _ _ _
  rw [e1]
  exact h
theorem made_slices {B : Nat} {w : World} {sv a b fv c d : Value} {m : Sp.Md} (h : MadeAt B w sv a b fv c d m) : (mdV sv a b fv c d).all (·.oneCell') = true := by
  obtain ⟨a1, b1, e1⟩ := own_slice h.s
  obtain ⟨a2, b2, e2⟩ := own_slice h.fi
  obtain ⟨a3, b3, e3⟩ := own_slice h.la
  obtain ⟨a4, b4, e4⟩ := own_slice h.f
  obtain ⟨a5, b5, e5⟩ := own_slice h.em
  obtain ⟨a6, b6, e6⟩ := own_slice h.nt
  rw [e1, e2, e3, e4, e5, e6]
  unfold mdV
  simp [Value.oneCell']
theorem MadeAt.kept {B : Nat} {w w' : World} {sv a b fv c d : Value} {m : Sp.Md} (h : MadeAt B w sv a b fv c d m) (k : Below w.heap.size w w') : MadeAt B w' sv a b fv c d m :=
  ⟨own_kept h.s fun g hg => k.block g (h.s.lt g hg).2, own_kept h.fi fun g hg => k.block g (h.fi.lt g hg).2, own_kept h.la fun g hg => k.block g (h.la.lt g hg).2, own_kept h.f fun g hg => k.block g (h.f.lt g hg).2, own_kept h.em fun g hg => k.block g (h.em.lt g hg).2, own_kept h.nt fun g hg => k.block g (h.nt.lt g hg).2⟩
theorem MadeAt.row {B D : Nat} {w : World} {cs o : Array Value} {fr : Nat × Nat} {sv a b fv c d : Value} {m : Sp.Md} (h : MadeAt B w sv a b fv c d m) (hD : w.heap[D]? = some (.cells o 46 fr)) : MadeAt B (w.setRow D cs) sv a b fv c d m := by
  have hk : ∀ {A s n : Nat} {e : TypeId} {v : Value} {xs : List Value}, w.ownsRow A e s v n xs → e ≠ 46 → (w.setRow D cs).ownsRow A e s v n xs := fun h5 h6 => own_kept h5 fun g hg => setRow_other _ _ _ _ (off_row h5 hD h6 g hg)
  exact ⟨hk h.s (by decide), hk h.fi (by decide), hk h.la (by decide), hk h.f (by decide), hk h.em (by decide), hk h.nt (by decide)⟩
theorem MadeAt.mono {B A : Nat} {w : World} {sv a b fv c d : Value} {m : Sp.Md} (h : MadeAt B w sv a b fv c d m) (hA : A ≤ B) : MadeAt A w sv a b fv c d m :=
  ⟨own_mono h.s hA, own_mono h.fi hA, own_mono h.la hA, own_mono h.f hA, own_mono h.em hA, own_mono h.nt hA⟩
theorem spotsOf_any (nv pv : Value) (N : List Nd) (R : List (Int × Bool)) (w : World) (hN : NodesAt w nv N) (hP : PartsAt w pv R) (hT : Tab w) (hg : 0 < w.heap.size) :
    Calls Tryd.prog 21 #[.agg #[nv, pv]] w (OfEnd N R w) := by
  cases hr : rightB N R
  · exact of_wrong nv pv N R w hN hP hr
  · by_cases hp : plOf N R ≤ 63
    · exact of_right nv pv N R w hN hP hr hp hT hg
    · exact of_long nv pv N R w hN hP hr (by omega)
end Go.Proofs.YtcgllipcnmlkbaaDoor
