/- Several texts in one. -/
import Derived.Test.YtdmnocjlmnkdhaaDoorPq02
import Derived.Laws.IdiomStrings
import Derived.Test.YtdmnocjlmnkdhaaDoorPq34
import Derived.Test.YtdmnocjlmnkdhaaDoorPq15
import Derived.Test.YtdmnocjlmnkdhaaDoorPq18
import Derived.Test.YtdmnocjlmnkdhaaDoorPq21
import Derived.Test.YtdmnocjlmnkdhaaDoorPq43
import Derived.Lib.ConvBytes
namespace Go.Proofs.YtdmnocjlmnkdhaaDoor
open Go.RowKit Sets
/-- The string of these bytes. -/
def strN (l : List Nat) : ByteArray := ⟨(l.map UInt8.ofNat).toArray⟩
theorem bytes_string {w : World} {v : Value} {l : List Nat} (h : BytesAt w v l) : (convert 28 9 v).run Tryd.prog w = .ok (.string (strN l)) w := by
  obtain ⟨hl, -, a, cap, rfl, hc⟩ := h
  by_cases h0 : l.length = 0
  · have hn : l = [] := List.length_eq_zero_iff.1 h0
    subst hn
    rw [run_convert_bytes_string w _ _ _ a _ cap Tryd.underlying28 Tryd.underlying5 Tryd.underlying9]
    cases a with
    | none => simp [Conv.bytesToString, strN]; rfl
    | some x =>
      exact run_bytesToString w x 0 cap [] rfl
  · obtain ⟨b, o, rfl, -⟩ := hc 0 (by omega)
    have := run_convert_bytes_back w _ _ _ ⟨b, o, none⟩ cap (l.map UInt8.ofNat) Tryd.underlying28 Tryd.underlying5 Tryd.underlying9 (fun j hj => by
      simp only [List.length_map] at hj
      obtain ⟨b', o', e, hq⟩ := hc j hj
      injection e with e
      injection e with e1 e2
      subst e1 e2
      rw [Addr.add_lit, hq]
      have hlt := hl _ (List.getElem_mem hj)
      rw [List.getD_eq_getElem?_getD, List.getElem?_eq_getElem hj, List.getElem_map, Option.getD_some]
      congr 2
      rw [UInt8.toNat_ofNat']
      omega)
    rw [List.length_map] at this
    exact this
end Go.Proofs.YtdmnocjlmnkdhaaDoor
namespace Go.Proofs.YtdmnocjlmnkdhaaDoor
open Go.RowKit Sets Nf Cls Df DfK
namespace Nc
theorem mem_stTo (m : Mc) (S : Nat) : S ∈ stTo m m.sp.length ↔ ∃ k, k < m.sp.length ∧ S = stN m k := by
  unfold stTo
  rw [mem_puts]
  simp
theorem stTo_len (m : Mc) : ∀ k, (stTo m k).length ≤ k
  | 0 => Nat.le_refl _
  | k + 1 => by
    have ih := stTo_len m k
    show (put (stTo m k) (stN m k)).length ≤ k + 1
    by_cases hm : stN m k ∈ stTo m k
    · rw [put_old hm]; omega
    · rw [put_new hm, List.length_append, List.length_singleton]; omega
theorem psame_right (L : List Nat) : prightB (cls (same L)) (nh (same L) 256 : Nat) = true := by
  unfold prightB; rw [rgo_cls _ (same_eqv L)]; simp
theorem psame_in (L : List Nat) (c : Nat) (hc : c < 256) : cls (same L) c < nh (same L) 256 := cls_lt_nh _ (same_eqv L) c 256 hc
theorem bs_strN (l : List Nat) (hl : ∀ c ∈ l, c < 256) : Nf.bs (strN l) = l := by
  unfold Nf.bs strN
  simp only [List.map_map]
  conv => rhs; rw [← List.map_id l]
  apply List.map_congr_left
  intro c hc
  show (UInt8.ofNat c).toNat = c
  rw [UInt8.toNat_ofNat']
  have := hl c hc
  omega
theorem size_strN (l : List Nat) : (strN l).size = l.length := by unfold strN; simp [ByteArray.size]
/-- Block g holds these bytes, and they may be written. -/
def RwB (w : World) (g : Nat) (L : List Nat) : Prop := ∀ j, j < L.length → w.cell? ⟨g, j, none⟩ = some (.int .u8 (L.getD j 0 : Nat)) ∧ w.frozen? ⟨g, j, none⟩ = false
theorem RwB.set {w : World} {g : Nat} {L : List Nat} (h : RwB w g L) (k x : Nat) (hk : k < L.length) : RwB (w.setCell ⟨g, k, none⟩ (.int .u8 (x : Nat))) g (L.set k x) := by
  intro j hj
  rw [List.length_set] at hj
  obtain ⟨h1, h2⟩ := h j hj
  refine ⟨?_, by rw [World.frozen?_setCell]; exact h2⟩
  by_cases e : k = j
  · subst e
    rw [World.cell?_setCell_same (h := h1), List.getD_eq_getElem?_getD, List.getElem?_set_self hk, Option.getD_some]
  · rw [World.cell?_setCell_other (h := fun (e2 : (⟨g, k, none⟩ : Addr) = ⟨g, j, none⟩) => by injection e2 with _ e2; exact e e2), h1, List.getD_eq_getElem?_getD, List.getD_eq_getElem?_getD, List.getElem?_set_ne e]
theorem RwB.bytes {w : World} {g cap : Nat} {L : List Nat} (h : RwB w g L) (hl : ∀ c ∈ L, c < 256) (hm : L.length ≤ maxLen) : BytesAt w (.slice (some ⟨g, 0, none⟩) L.length cap) L :=
  ⟨hl, hm, _, cap, rfl, fun i hi => ⟨g, 0, rfl, by rw [Nat.zero_add]; exact (h i hi).1⟩⟩
theorem convB (s : ByteArray) (w : World) : ∃ cap w1, (convert 9 28 (.string s)).run Tryd.prog w = .ok (.slice (some ⟨w.heap.size, 0, none⟩) s.size cap) w1 ∧ RwB w1 w.heap.size (Nf.bs s) ∧ Below w.heap.size w w1 ∧ w.heap.size < w1.heap.size := by
  have h1 := Lib.run_convert_string_bytes (P := Tryd.prog) w 9 28 5 s Tryd.underlying9 Tryd.underlying28 Tryd.underlying5
  refine ⟨_, _, h1, ?_, ?_, ?_⟩
  rotate_left
  · exact ⟨rfl, rfl, rfl, by rw [Lib.bytesWorld_size]; omega, fun k hk => Lib.bytesWorld_at_old w _ s k hk⟩
  · rw [Lib.bytesWorld_size]; omega
  intro j hj
  rw [Nf.bs_len] at hj
  rw [Lib.bytesWorld_cell w _ s j hj]
  refine ⟨?_, ?_⟩
  · have : (Nf.bs s).getD j 0 = (s.data.toList.getD j 0).toNat := by
      unfold Nf.bs
      have h2 : j < s.data.toList.length := hj
      rw [List.getD_eq_getElem?_getD, List.getD_eq_getElem?_getD, List.getElem?_map, List.getElem?_eq_getElem h2]; rfl
    rw [this]
  · have hc : j < (Lib.bytesCells w 5 s).size := by
      unfold Lib.bytesCells; rw [Array.size_append, Array.size_map]
      have : s.data.size = s.size := rfl
      omega
    unfold World.frozen?
    rw [Lib.bytesWorld_at_new]
    simp; omega
/-- No class is split by a spot's set. -/
def Alk (m : Mc) (of : Nat → Nat) : Prop := ∀ k c d, c < 256 → d < 256 → of c = of d → (stN m k).testBit c = (stN m k).testBit d
theorem alk_of (m : Mc) : Alk m (cls (same (stTo m m.sp.length))) := fun k c d _ _ e => by
  rcases Nat.lt_or_ge k m.sp.length with hk | hk
  · exact (same_iff _ c d).1 ((cls_eq _ (same_eqv _) c d).1 e) _ ((mem_stTo m _).2 ⟨k, hk, rfl⟩)
  · have : stN m k = 0 := by unfold stN; rw [getD_ge hk]
    rw [this]; simp
theorem rd_alk {m : Mc} {of : Nat → Nat} (h : Alk m of) (q : Nat) {c d : Nat} (hc : c < 256) (hd : d < 256) (e : of c = of d) : rd m q c = rd m q d := by
  unfold rd
  congr 1
  exact List.filter_congr (fun k _ => h k c d hc hd e)
/-- Bytes of the same classes. -/
structure Lik (of : Nat → Nat) (u v : List Nat) : Prop where
  len : u.length = v.length
  byte : ∀ k, k < u.length → u.getD k 0 < 256
  cls : ∀ k, k < u.length → of (u.getD k 0) = of (v.getD k 0)
theorem run_alk {m : Mc} {of : Nat → Nat} (h : Alk m of) : ∀ (u v : List Nat) (p : Nat × Nat), Lik of u v → (∀ c ∈ v, c < 256) → u.foldl (fun p c => (rd m p.2 c, bh (m.fo.map grp) (rd m p.2 c))) p = v.foldl (fun p c => (rd m p.2 c, bh (m.fo.map grp) (rd m p.2 c))) p
  | [], [], _, _, _ => rfl
  | [], _ :: _, _, hl, _ => by have := hl.len; simp at this
  | _ :: _, [], _, hl, _ => by have := hl.len; simp at this
  | c :: u, d :: v, p, hl, hv => by
    have h1 : c < 256 := hl.byte 0 (by simp)
    have h2 : of c = of d := hl.cls 0 (by simp)
    rw [List.foldl_cons, List.foldl_cons, rd_alk h p.2 h1 (hv d (List.mem_cons_self ..)) h2]
    refine run_alk h u v _ ⟨by have := hl.len; simpa using this, fun k hk => ?_, fun k hk => ?_⟩ (fun x hx => hv x (List.mem_cons_of_mem _ hx))
    · exact hl.byte (k + 1) (by simp; omega)
    · exact hl.cls (k + 1) (by simp; omega)
theorem takes_alk {m : Mc} {of : Nat → Nat} (h : Alk m of) {u v : List Nat} (hl : Lik of u v) (hv : ∀ c ∈ v, c < 256) : takesM m u = takesM m v := by
  have he : u = [] ↔ v = [] := by rw [← List.length_eq_zero_iff, ← List.length_eq_zero_iff, hl.len]
  unfold takesM runS
  rw [run_alk h u v _ hl hv]
  by_cases e : v = []
  · rw [if_pos e, if_pos (he.2 e)]
  · rw [if_neg e, if_neg (fun e2 => e (he.1 e2))]
theorem Lik.refl (of : Nat → Nat) {v : List Nat} (hv : ∀ c ∈ v, c < 256) : Lik of v v := ⟨rfl, fun _ hk => hv _ (getD_mem hk), fun _ _ => rfl⟩
theorem Lik.set {of : Nat → Nat} {u v : List Nat} (h : Lik of u v) (j y : Nat) (hy : y < 256) (ho : of y = of (u.getD j 0)) : Lik of (u.set j y) v := by
  have key : ∀ k, k < u.length → (u.set j y).getD k 0 < 256 ∧ of ((u.set j y).getD k 0) = of (v.getD k 0) := fun k hk => by
    by_cases e : j = k
    · subst e
      rw [List.getD_eq_getElem?_getD, List.getElem?_set_self hk, Option.getD_some]
      exact ⟨hy, ho.trans (h.cls j hk)⟩
    · rw [List.getD_eq_getElem?_getD, List.getElem?_set_ne e, ← List.getD_eq_getElem?_getD]
      exact ⟨h.byte k hk, h.cls k hk⟩
  refine ⟨by rw [List.length_set]; exact h.len, fun k hk => ?_, fun k hk => ?_⟩
  · rw [List.length_set] at hk; exact (key k hk).1
  · rw [List.length_set] at hk; exact (key k hk).2
theorem Lik.bytes {of : Nat → Nat} {u v : List Nat} (h : Lik of u v) : ∀ c ∈ u, c < 256 := fun c hc => by
  obtain ⟨k, hk, rfl⟩ := List.mem_iff_getElem.1 hc
  have := h.byte k hk
  rwa [List.getD_eq_getElem?_getD, List.getElem?_eq_getElem hk] at this
/-- A class's bytes. -/
theorem lst_mem (of : Nat → Nat) (k x : Nat) : x ∈ listN (clsSet of 256 k) ↔ x < 256 ∧ of x = k := by
  rw [mem_listN, clsSet_bit]
  simp
theorem lst_pos (of : Nat → Nat) {c : Nat} (hc : c < 256) : 0 < (listN (clsSet of 256 (of c))).length := List.length_pos_of_mem ((lst_mem of _ c).2 ⟨hc, rfl⟩)
theorem lst_get (of : Nat → Nat) (k i : Nat) (hi : i < (listN (clsSet of 256 k)).length) : (listN (clsSet of 256 k)).getD i 0 < 256 ∧ of ((listN (clsSet of 256 k)).getD i 0) = k := (lst_mem of k _).1 (getD_mem hi)
end Nc
end Go.Proofs.YtdmnocjlmnkdhaaDoor
