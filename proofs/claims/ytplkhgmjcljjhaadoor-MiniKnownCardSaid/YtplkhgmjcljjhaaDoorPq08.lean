/- Several texts in one. -/
import Derived.Test.YtplkhgmjcljjhaaDoorPq07
namespace Go.Proofs.YtplkhgmjcljjhaaDoor
open Go.RowKit Go.Shelf Sets Nf
attribute [local go_sem] Oper.semAt_some
namespace Nf
def hasS (L : List (Nat × Nat)) (c k : Nat) : Bool := (L.getD k (0, 0)).1.testBit c
def rdL (L : List (Nat × Nat)) (g c : Nat) : Nat := ofN ((listN g).filter (hasS L c))
theorem rdL_rd (m : Mc) (q c : Nat) : rdL m.sp q c = rd m q c := rfl
def RdI (s n6 : Nat) (sa : Option Addr) (sc : Nat) (L : List (Nat × Nat)) (c g : Nat) (w : World) (pre : List (In g)) (W : World) : Prop :=
  SetB W (s + 1 + 1 + 1 + 1) (ofN ((pre.map Subtype.val).filter (hasS L c))) ∧ SetB W (s + 1 + 1 + 1) 0 ∧ Below s w W ∧ W.cell? ⟨s, 0, none⟩ = some (.slice sa L.length sc) ∧ W.cell? ⟨s + 1 + 1, 0, none⟩ = some (.int .u8 c) ∧ n6 ≤ W.heap.size
end Nf
end Go.Proofs.YtplkhgmjcljjhaaDoor
namespace Go.Proofs.YtplkhgmjcljjhaaDoor
open Go.RowKit Go.Shelf Sets Nf
attribute [local go_sem] Oper.semAt_some
namespace Nf
/-- what has come to all from the spots pre -/
def orG (G : List Nat) (l : List Nat) : Nat := l.foldl (fun a k => a ||| G.getD k 0) 0
theorem orG_snoc (G l : List Nat) (k : Nat) : orG G (l ++ [k]) = orG G l ||| G.getD k 0 := by simp [orG]
theorem orG_bh (G : List Nat) (q : Nat) : orG G (listN q) = bh G q := rfl
/-- the words below i turned -/
def mixW (A T i : Nat) : Array Value := #[.int .u64 (wd (if 0 < i then A ||| T else A) 0), .int .u64 (wd (if 1 < i then A ||| T else A) 1), .int .u64 (wd (if 2 < i then A ||| T else A) 2), .int .u64 (wd (if 3 < i then A ||| T else A) 3)]
theorem wpListIn_load_mid {F : Fence} {n l : Nat} {P : Program} {ops : Array Oper} {rest : List Oper} {o : Oper} {a : Act} {w : World} {Q : Exit → Act → World → Prop} (hF : F.round = some l) (hgd : o.guard = none) (ty : TypeId) (x : Operand) (ho : o.op = .load ty x)
    (b q : Nat) (hx : a.eval x = .pointer (some ⟨b, q, none⟩)) (cs : List Value) (d : TypeDesc) (hc : w.rangeAt b q cs) (hu : P.underlying ty = some d) (hd : d.isRow = true) (hi : (P.info? ty).map (·.size) = some cs.length)
    (h : wpListIn F n P ops Q rest (a.put o.dst (.agg cs.toArray)) w) : wpListIn F n P ops Q (o :: rest) a w := by
  refine wpListIn_plain hgd fun K hK => ⟨fun f hf => (by unfold Oper.about at hf; simp only [ho] at hf; cases hf), ?_⟩
  rw [hF, Oper.semAt_some l _ o (fun c e => by rw [ho] at e; cases e)]
  unfold execOp
  simp only [ho, hx, run_loadAt_mid w b q ty cs d hc hu hd hi, Sem.run_bind, Sem.run_pure, Result.andThen_ok]
  exact hK _ _ h
theorem mix_zero (A T : Nat) : mixW A T 0 = setC A := rfl
theorem mix_four (A T : Nat) : mixW A T 4 = setC (A ||| T) := rfl
theorem mix_get (A T i : Nat) (hi : i < 4) : (mixW A T i)[i]? = some (.int .u64 (wd A i)) := by
  have : i = 0 ∨ i = 1 ∨ i = 2 ∨ i = 3 := by omega
  rcases this with rfl | rfl | rfl | rfl <;> rfl
theorem mix_set (A T i : Nat) (hi : i < 4) : (mixW A T i).setIfInBounds i (.int .u64 (wd (A ||| T) i)) = mixW A T (i + 1) := by
  have : i = 0 ∨ i = 1 ∨ i = 2 ∨ i = 3 := by omega
  rcases this with rfl | rfl | rfl | rfl <;> rfl
def BhI (s n6 ga : Nat) (G : List Nat) (gg : Nat) (w : World) (pre : List (In gg)) (W : World) : Prop :=
  SetB W (s + 1 + 1 + 1) (orG G (pre.map Subtype.val)) ∧ SetB W (s + 1 + 1) 0 ∧ Below s w W ∧ W.cell? ⟨s, 0, none⟩ = some (.slice (some ⟨ga, 0, none⟩) G.length G.length) ∧ n6 ≤ W.heap.size
end Nf
end Go.Proofs.YtplkhgmjcljjhaaDoor
