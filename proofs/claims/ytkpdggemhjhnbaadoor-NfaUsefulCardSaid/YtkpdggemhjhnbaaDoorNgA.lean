/- way: what lies in memory. -/
import Derived.Test.YtkpdggemhjhnbaaDoorNfZ
import Derived.Test.YtkpdggemhjhnbaaDoorNfX
import Derived.Test.YtkpdggemhjhnbaaDoorNfT
import Derived.Test.YtkpdggemhjhnbaaDoorFirst
import Derived.Laws.BytesString
namespace Go.Proofs.YtkpdggemhjhnbaaDoor
open Go.RowKit Sets Nf
namespace Nf
theorem first_full (S : Nat) (hS : S < 2 ^ 256) (h0 : S ≠ 0) : ∃ c, c < 256 ∧ S.testBit c = true ∧ ∀ w : World, Tab w → 0 < w.heap.size →
    Calls Tryd.prog 51 #[.agg (setC S)] w fun e w' => e = .returned (.tuple #[.int .u8 c, .bool true]) ∧ Below w.heap.size w w' := by
  obtain ⟨k, hk⟩ := Nat.exists_testBit_of_ne_zero h0
  have hex : ∃ c, S.testBit c = true ∧ ∀ d, d < c → S.testBit d = false := by
    have : ∀ n, (∃ c, c < n ∧ S.testBit c = true) → ∃ c, S.testBit c = true ∧ ∀ d, d < c → S.testBit d = false := by
      intro n
      induction n with
      | zero => rintro ⟨c, h, -⟩; omega
      | succ n ih =>
        rintro ⟨c, hc, hb⟩
        by_cases h : ∃ c, c < n ∧ S.testBit c = true
        · exact ih h
        · refine ⟨c, hb, fun d hd => ?_⟩
          cases hdb : S.testBit d with
          | false => rfl
          | true => exact absurd ⟨d, by omega, hdb⟩ h
    exact this (k + 1) ⟨k, by omega, hk⟩
  obtain ⟨c, h1, h2⟩ := hex
  have hc : c < 256 := by
    rcases Nat.lt_or_ge c 256 with h | h
    · exact h
    · rw [Nat.testBit_lt_two_pow (Nat.lt_of_lt_of_le hS (Nat.pow_le_pow_right (by decide) h))] at h1; cases h1
  exact ⟨c, hc, h1, fun w hT hg => first_some S c w hc h1 h2 hT hg⟩
def b1 (c : Nat) : ByteArray := ⟨#[UInt8.ofNat c]⟩
theorem bs_b1 {c : Nat} (h : c < 256) : bs (b1 c) = [c] := by
  unfold bs b1
  simp
  omega
theorem bs_app (s t : ByteArray) : bs (s ++ t) = bs s ++ bs t := by
  unfold bs
  rw [ByteArray.data_append, Array.toList_append, List.map_append]
theorem convert_b1 (w : World) (g c : Nat) (hc : c < 256) (h : w.cell? ⟨g, 0, none⟩ = some (.int .u8 c)) :
    (convert 49 9 (.slice (some ⟨g, 0, none⟩) 1 1)).run Tryd.prog w = .ok (.string (b1 c)) w := by
  refine run_convert_bytes_back (P := Tryd.prog) w 49 9 5 ⟨g, 0, none⟩ 1 [UInt8.ofNat c] Tryd.underlying49 Tryd.underlying5 Tryd.underlying9 (fun j hj => ?_)
  have : j = 0 := by simpa using hj
  subst this
  rw [Addr.add_lit, Nat.zero_add, h]
  have : (UInt8.ofNat c).toNat = c := by simp; omega
  simp [this]
def nI (L : List Nat) : List Int := L.map fun k : Nat => (k : Int)
theorem nI_len (L : List Nat) : (nI L).length = L.length := List.length_map _
theorem nI_get (L : List Nat) (i : Nat) (h : i < L.length) : (nI L).getD i 0 = ((L.getD i 0 : Nat) : Int) := by
  unfold nI
  rw [List.getD_eq_getElem?_getD, List.getElem?_map, List.getElem?_eq_getElem h, List.getD_eq_getElem?_getD, List.getElem?_eq_getElem h]; rfl
/-- The memory of a search: texts in block g1, what is seen in g2, what is to do in v. -/
structure WyI (w0 : World) (s g1 g2 : Nat) (x : Ma) (m : Mc) (v : Value) (L : List Nat) (T : Nat → ByteArray) (S : Nat → Bool) (W : World) : Prop where
  box : BoxM W s x m
  tx : W.rowIs g1 9 m.sp.length (fun k => .string (T k))
  sn : W.rowIs g2 4 m.sp.length (fun k => .bool (S k))
  todo : OwnN s W v (nI L)
  l1 : s < g1
  l2 : s < g2
  below : Below s w0 W
theorem WyI.stay {w0 : World} {s g1 g2 : Nat} {x : Ma} {m : Mc} {v : Value} {L : List Nat} {T : Nat → ByteArray} {S : Nat → Bool} {W W' : World} (h : WyI w0 s g1 g2 x m v L T S W) (hb : Below W.heap.size W W') : WyI w0 s g1 g2 x m v L T S W' :=
  ⟨h.box.kept hb h.box.lt, World.rowIs.of_block h.tx (hb.block g1 (World.rowIs.lt h.tx)), World.rowIs.of_block h.sn (hb.block g2 (World.rowIs.lt h.sn)), own_stay h.todo hb, h.l1, h.l2, h.below.trans (hb.mono (Nat.le_of_lt h.box.lt))⟩
theorem row_type {w : World} {b : Nat} {t : TypeId} {n : Nat} {f : Nat → Value} (h : w.rowIs b t n f) : ∃ cs, w.heap[b]? = some (.cells cs t (0, 0)) := by
  obtain ⟨c, hb, -⟩ := h; exact ⟨c, hb⟩
theorem type_ne {w : World} {a b : Nat} {ca cb : Array Value} {ta tb : TypeId} (ha : w.heap[a]? = some (.cells ca ta (0, 0))) (hb : w.heap[b]? = some (.cells cb tb (0, 0))) (h : ta ≠ tb) : a ≠ b := fun e => by
  rw [e, hb] at ha
  injection ha with ha
  injection ha with _ h2
  exact h h2.symm
theorem WyI.setT {w0 : World} {s g1 g2 : Nat} {x : Ma} {m : Mc} {v : Value} {L : List Nat} {T : Nat → ByteArray} {S : Nat → Bool} {W : World} (h : WyI w0 s g1 g2 x m v L T S W) (k : Nat) (t : ByteArray) :
    WyI w0 s g1 g2 x m v L (fun j => if j = k then t else T j) S (W.setCell ⟨g1, k, none⟩ (.string t)) := by
  obtain ⟨c1, h1⟩ := row_type h.tx
  obtain ⟨c2, h2⟩ := row_type h.sn
  have hset : ∀ q, q ≠ g1 → (W.setCell ⟨g1, k, none⟩ (.string t)).heap[q]? = W.heap[q]? := fun q hq => Below.heap_setCell W ⟨g1, k, none⟩ _ q hq
  refine ⟨⟨(hset s (type_ne h.box.row h1 (by decide))).trans h.box.row⟩, (World.rowIs.set h.tx k (.string t)).congr (fun i _ => ?_), World.rowIs.of_block h.sn (hset g2 (type_ne h2 h1 (by decide))), own_kept h.todo (fun q hq => ?_), h.l1, h.l2, h.below.setCell (by have := h.l1; show s ≤ g1; omega) _⟩
  · by_cases e : i = k
    · simp [e]
    · simp [e]
  · obtain ⟨cs, hcs⟩ := own_type h.todo hq
    exact hset q (type_ne hcs h1 (by decide))
theorem WyI.setS {w0 : World} {s g1 g2 : Nat} {x : Ma} {m : Mc} {v : Value} {L : List Nat} {T : Nat → ByteArray} {S : Nat → Bool} {W : World} (h : WyI w0 s g1 g2 x m v L T S W) (k : Nat) (t : Bool) :
    WyI w0 s g1 g2 x m v L T (fun j => if j = k then t else S j) (W.setCell ⟨g2, k, none⟩ (.bool t)) := by
  obtain ⟨c1, h1⟩ := row_type h.tx
  obtain ⟨c2, h2⟩ := row_type h.sn
  have hset : ∀ q, q ≠ g2 → (W.setCell ⟨g2, k, none⟩ (.bool t)).heap[q]? = W.heap[q]? := fun q hq => Below.heap_setCell W ⟨g2, k, none⟩ _ q hq
  refine ⟨⟨(hset s (type_ne h.box.row h2 (by decide))).trans h.box.row⟩, World.rowIs.of_block h.tx (hset g1 (type_ne h1 h2 (by decide))), (World.rowIs.set h.sn k (.bool t)).congr (fun i _ => ?_), own_kept h.todo (fun q hq => ?_), h.l1, h.l2, h.below.setCell (by have := h.l2; show s ≤ g2; omega) _⟩
  · by_cases e : i = k
    · simp [e]
    · simp [e]
  · obtain ⟨cs, hcs⟩ := own_type h.todo hq
    exact hset q (type_ne hcs h2 (by decide))
theorem WyI.push {w0 : World} {s g1 g2 : Nat} {x : Ma} {m : Mc} {v v' : Value} {L : List Nat} {T : Nat → ByteArray} {S : Nat → Bool} {W W' : World} {k : Nat} (h : WyI w0 s g1 g2 x m v L T S W) (ho : OwnN s W' v' ((nI L) ++ [(k : Int)])) (hb : Below s W W') (ha : Ap W v W' v') :
    WyI w0 s g1 g2 x m v' (L ++ [k]) T S W' := by
  have hf := ha.fr h.todo s
  have hk : ∀ (q : Nat) (cs : Array Value) (t : TypeId), W.heap[q]? = some (.cells cs t (0, 0)) → t ≠ 3 → W'.heap[q]? = W.heap[q]? := fun q cs t hq ht => ha.block q (Array.getElem?_eq_some_iff.1 hq).1 (fun e => by
    obtain ⟨c2, h2⟩ := own_type h.todo e
    exact type_ne hq h2 ht rfl)
  obtain ⟨c1, h1⟩ := row_type h.tx
  obtain ⟨c2, h2⟩ := row_type h.sn
  exact ⟨⟨(hk _ _ _ h.box.row (by decide)).trans h.box.row⟩, World.rowIs.of_block h.tx (hk _ _ _ h1 (by decide)), World.rowIs.of_block h.sn (hk _ _ _ h2 (by decide)), by unfold nI at *; rw [List.map_append]; exact ho, h.l1, h.l2, h.below.trans hb⟩
end Nf
end Go.Proofs.YtkpdggemhjhnbaaDoor
