/- What is left of a search, told from memory; its list's top; trimmed machines. -/
import Derived.Test.YtghbgfkkdknmnaaDoorPqC3
import Derived.Test.YtghbgfkkdknmnaaDoorPqB6
import Derived.Test.YtghbgfkkdknmnaaDoorPqB2
namespace Go.Proofs.YtghbgfkkdknmnaaDoor
open Go.RowKit Sets Nf Fs
namespace Ft
theorem entQ_inj {T T' : Pr → Nat} : ∀ (K K' : List Pr) (i : Nat), entQ T i K = entQ T' i K' → K = K' ∧ ∀ k ∈ K, T k = T' k
  | [], [], _, _ => ⟨rfl, fun k hk => by cases hk⟩
  | [], _ :: _, _, h => by simp [entQ] at h
  | _ :: _, [], _, h => by simp [entQ] at h
  | a :: K, b :: K', i, h => by
    simp only [entQ, List.cons.injEq, MapEntry.mk.injEq, and_true, Value.int.injEq, true_and, Value.agg.injEq] at h
    obtain ⟨⟨h1, h2⟩, h3⟩ := h
    obtain ⟨h4, h5⟩ := entQ_inj K K' (i + 1) h3
    have e : a = b := by
      have e1 := congrArg (fun c : Array Value => c[0]?) h1
      have e2 := congrArg (fun c : Array Value => c[1]?) h1
      simp [prC] at e1 e2
      exact Prod.ext (by omega) (by omega)
    subst e
    refine ⟨by rw [h4], fun k hk => ?_⟩
    rcases List.mem_cons.1 hk with rfl | hk
    · exact Int.ofNat.inj h2
    · exact h5 k hk
theorem MapP.one {w : World} {g : Nat} {T T' : Pr → Nat} (h : MapP w g T) (h' : MapP w g T') : T = T' := by
  obtain ⟨K, h1, h2, h3⟩ := h.ex
  obtain ⟨K', h1', h2', h3'⟩ := h'.ex
  rw [h1] at h1'
  injection h1' with h1'
  injection h1' with e1 e2
  have e3 : entQ T 0 K = entQ T' 0 K' := by simpa using congrArg Array.toList e1
  obtain ⟨e4, e5⟩ := entQ_inj K K' 0 e3
  subst e4
  funext p
  by_cases hp : p ∈ K
  · exact e5 p hp
  · rw [h3 p hp, h3' p hp]
section
variable {w w1 w2 : World} {s mb gF gM gB gO : Nat} {x : Ma} {m : Mc} {v v1 v2 sv sv' : Value} {S S' : St}
theorem SeAt.left (h : SeAt s mb gF gM gB gO x m sv S w) (h' : SeAt s mb gF gM gB gO x m sv' S' w) : leftS S = leftS S' := by
  have e1 := h.mapB.one h'.mapB
  have hr := h.row
  rw [h'.row] at hr
  injection hr with hr
  injection hr with hr _
  have e2 : sv = sv' := by
    have := congrArg (fun c : Array Value => c[9]?) hr
    simp [seC] at this
    exact this.symm
  subst e2
  obtain ⟨a, c, e3, -⟩ := own_slice h.own
  obtain ⟨a', c', e4, -⟩ := own_slice h'.own
  rw [e3] at e4
  injection e4 with _ e5 _
  unfold leftS sumS
  rw [e1, e5]
end
open Classical in
noncomputable def leftW (s mb gF gM gB gO : Nat) (x : Ma) (m : Mc) (w : World) : Nat := if h : ∃ n sv S, SeAt s mb gF gM gB gO x m sv S w ∧ leftS S = n then h.choose else 0
section
variable {w w1 w2 : World} {s mb gF gM gB gO : Nat} {x : Ma} {m : Mc} {v v1 v2 sv sv' : Value} {S S' : St} {op : List Pr} {p : Pr}
theorem leftW_eq (h : SeAt s mb gF gM gB gO x m sv S w) : leftW s mb gF gM gB gO x m w = leftS S := by
  unfold leftW
  have hex : ∃ n sv S, SeAt s mb gF gM gB gO x m sv S w ∧ leftS S = n := ⟨_, sv, S, h, rfl⟩
  rw [dif_pos hex]
  obtain ⟨sv2, S2, h2, e⟩ := hex.choose_spec
  rw [← e]
  exact h2.left h
/-- The pair on top. -/
theorem SeAt.top (h : SeAt s mb gF gM gB gO x m sv S w) (ho : S.op = op ++ [p]) : ∃ g c, sv = .slice (some ⟨g, 0, none⟩) (op.length + 1) c ∧ g < w.heap.size ∧ w.rangeAt g (op.length * 2) (prC p).toList ∧ w.ownsRow s 62 2 (.slice (some ⟨g, 0, none⟩) op.length c) op.length (rowsP op) ∧ op.length + 1 ≤ c := by
  have hown := h.own
  have hlen : S.op.length = op.length + 1 := by rw [ho]; simp
  rcases hown.2 with ⟨-, h0⟩ | ⟨g, cap, cur, h1, h2, h3, h4, h5, h6, h7⟩
  · omega
  · refine ⟨g, cap, by rw [h1, hlen], (Array.getElem?_eq_some_iff.1 h3).1, fun j u hu => ?_, ⟨rowsP_length op, .inr ⟨g, cap, cur, rfl, h2, h3, by omega, h5, h6, ?_⟩⟩, by omega⟩
    · have hj : j < 2 := by have := (List.getElem?_eq_some_iff.1 hu).1; simpa [prC] using this
      rw [cell_of_row w g _ _ _ _ h3, ← Array.getElem?_toList]
      have h8 : (cur.toList.take (S.op.length * 2))[op.length * 2 + j]? = (rowsP S.op)[op.length * 2 + j]? := by rw [h7]
      rw [List.getElem?_take_of_lt (by omega)] at h8
      rw [h8, rowsP_get S.op op.length p (by rw [ho]; simp) j hj]
      exact hu
    · have h8 := congrArg (fun l => l.take (op.length * 2)) h7
      simp only [List.take_take] at h8
      rw [Nat.min_eq_left (by omega)] at h8
      rw [h8, ho, rowsP_snoc, List.take_append_of_le_length (by rw [rowsP_length]; exact Nat.le_refl _), List.take_of_length_le (by rw [rowsP_length]; exact Nat.le_refl _)]
/-- It is popped. -/
theorem SeAt.pop (h : SeAt s mb gF gM gB gO x m sv S w) (hs : s ≤ w.heap.size) {sv2 : Value} (ho : w.ownsRow s 62 2 sv2 op.length (rowsP op)) (hb : sv2.ownBlock = sv.ownBlock) : SeAt s mb gF gM gB gO x m sv2 ⟨S.B, S.O, op⟩ (w.setCell ⟨mb, 9, none⟩ sv2) ∧ Fz mb gB gO w sv (w.setCell ⟨mb, 9, none⟩ sv2) sv2 := by
  have hset : ∀ q, q ≠ mb → (w.setCell ⟨mb, 9, none⟩ sv2).heap[q]? = w.heap[q]? := fun q hk => Below.heap_setCell w ⟨mb, 9, none⟩ sv2 q hk
  have hz : Fz mb gB gO w sv (w.setCell ⟨mb, 9, none⟩ sv2) sv2 := ⟨rfl, rfl, rfl, by simp, fun q _ h1 _ _ _ => hset q h1, fun g hg => .inl (by rw [← hb]; exact hg)⟩
  refine ⟨h.push hs ?_ hz (hset gB h.neB.symm) (hset gO h.neO.symm) (own_kept ho (fun g hg => hset g (h.own_ne g (by rw [← hb]; exact hg)).1)), hz⟩
  rw [heap_setCell_same _ _ _ _ _ _ h.row]; rfl
end
theorem left_len2 (U : Nat) (l : List Int) : (leftL U l).length ≤ l.length := by
  unfold leftL
  rw [List.length_map]
  exact List.length_filter_le _ _
theorem rise_i64 {n : Nat} {l : List Int} (h : rise n l = true) (hn : n ≤ 1000) : ∀ k ∈ l, i64 k := fun k hk => by
  have := ((rise_iff n l).1 h).1 k hk
  unfold i64; omega
theorem trim_many (m : Mc) (U : Nat) : (trimM m U).sp.length ≤ m.sp.length := by
  unfold trimM
  rw [List.length_map]
  unfold kept
  refine Nat.le_trans (List.length_filter_le _ _) ?_
  rw [List.length_range]; exact Nat.le_refl _
theorem trim_fine {m : Mc} (hf : Fine m) (hr : Rt m) (U : Nat) : Fine (trimM m U) := by
  have hR := trim_right (U := U) hr
  have hk : (kept U m.sp.length).length ≤ m.sp.length := by
    unfold kept
    refine Nat.le_trans (List.length_filter_le _ _) ?_
    rw [List.length_range]; exact Nat.le_refl _
  have h1 := hf.sp
  have h2 := hf.fi
  have h3 := hR.many
  refine ⟨by omega, ?_, by rw [hR.fol]; omega, by rw [hR.lal]; omega, fun l hl => ⟨?_, rise_i64 (hR.foR l hl) (by omega)⟩, rise_i64 hR.fiR (by omega), fun s hs => ?_⟩
  · show (leftL U m.fi).length ≤ 1000
    have := left_len2 U m.fi; omega
  · unfold trimM at hl
    obtain ⟨k, -, rfl⟩ := List.mem_map.1 hl
    refine Nat.le_trans (left_len2 U _) ?_
    rcases Nat.lt_or_ge k m.fo.length with h3 | h3
    · exact (hf.each _ (getD_mem h3)).1
    · rw [getD_ge h3]; exact Nat.zero_le _
  · unfold trimM at hs
    obtain ⟨k, hk, rfl⟩ := List.mem_map.1 hs
    exact hf.set _ (getD_mem (kept_mem.1 hk).1)
end Ft
end Go.Proofs.YtghbgfkkdknmnaaDoor
