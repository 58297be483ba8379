/- Several texts in one. -/
import Derived.Test.YtlbaecjmfgahgaaDoorNfJ
import Derived.Test.YtlbaecjmfgahgaaDoorDfK
import Derived.Deep.OwnRows
import Derived.Test.YtlbaecjmfgahgaaDoorInv
namespace Go.Proofs.YtlbaecjmfgahgaaDoor
open Go.RowKit Sets Nf
namespace Nk
/-! The machines -/
def tM : Mc := ⟨[(ofN [97], 0), (ofN [98], 0)], [0], [[1], []], [false, true], true⟩
theorem some_trim : trimM someM (useN someM) = tM := by
  have : useN someM = 3 := by decide +kernel
  rw [this]; rfl
def k1 : Mc := ⟨someM.sp, someM.fi, [[2, 1], [], []], someM.la, someM.em⟩
def k2 : Mc := ⟨someM.sp, someM.fi, someM.fo, [false, true], someM.em⟩
def k3 : Mc := ⟨[(ofN [97], 3), (ofN [98], 0), (ofN [99], 0)], someM.fi, someM.fo, someM.la, someM.em⟩
def k4 : Mc := ⟨someM.sp, [3], someM.fo, someM.la, someM.em⟩
def k5 : Mc := ⟨someM.sp, [0, 0], someM.fo, someM.la, someM.em⟩
def zM (n : Nat) : Mc := ⟨List.replicate n (0, 0), [], List.replicate n [], List.replicate n false, false⟩
def k7 : Mc := ⟨[], [], [[]], [], false⟩
def threeM : Mc := ⟨[(ofN [98], 0), (ofN [97], 0), (ofN [98], 1)], [], [], [], false⟩
def nilM : Mc := ⟨[], [], [], [], false⟩
def nilA : Ma := ⟨none, 0, none, 0, none, 0, none, 0⟩
theorem wrong1 : rightM k1 = false := by decide +kernel
theorem wrong2 : rightM k2 = false := by decide +kernel
theorem wrong3 : rightM k3 = false := by decide +kernel
theorem wrong4 : rightM k4 = false := by decide +kernel
theorem wrong5 : rightM k5 = false := by decide +kernel
theorem wrong6 : rightM (zM 251) = false := by decide +kernel
theorem wrong7 : rightM k7 = false := by decide +kernel
theorem right_most : rightM (zM 250) = true := by decide +kernel
theorem right_nil : rightM nilM = true := by decide +kernel
theorem nil_none : takesM nilM (bs ⟨#[]⟩) = false := by decide +kernel
theorem some_a : takesM someM (bs ⟨#[97]⟩) = false := by decide +kernel
theorem some_abb : takesM someM (bs ⟨#[97, 98, 98]⟩) = false := by decide +kernel
theorem takes_wrong {m : Mc} (h : rightM m = false) (w : List Nat) : takesM m w = false := by
  rw [Bool.eq_false_iff]
  intro h2
  have := ((takes_iff m w).1 h2).1
  rw [(right_iff m).2 this] at h
  cases h
theorem three_sets : DfK.stTo threeM 3 = [ofN [98], ofN [97]] := by decide +kernel
theorem fine_of {m : Mc} (h1 : m.sp.length ≤ 1000) (h2 : m.fi.length ≤ 1000) (h3 : m.fo.length ≤ 1000) (h4 : m.la.length ≤ 1000) (h5 : (m.fo.all fun l => decide (l.length ≤ 1000) && l.all fun k => decide (-9223372036854775808 ≤ k) && decide (k ≤ 9223372036854775807)) = true)
    (h6 : (m.fi.all fun k => decide (-9223372036854775808 ≤ k) && decide (k ≤ 9223372036854775807)) = true) (h7 : (m.sp.all fun s => decide (s.1 < 2 ^ 256) && decide (s.2 < 256)) = true) : Fine m := by
  refine ⟨h1, h2, h3, h4, fun l hl => ?_, fun k hk => ?_, fun s hs => ?_⟩
  · have h := List.all_eq_true.1 h5 l hl
    rw [Bool.and_eq_true, decide_eq_true_iff, List.all_eq_true] at h
    refine ⟨h.1, fun k hk => ?_⟩
    have h8 := h.2 k hk
    rw [Bool.and_eq_true, decide_eq_true_iff, decide_eq_true_iff] at h8
    exact h8
  · have h8 := List.all_eq_true.1 h6 k hk
    rw [Bool.and_eq_true, decide_eq_true_iff, decide_eq_true_iff] at h8
    exact h8
  · have h8 := List.all_eq_true.1 h7 s hs
    rw [Bool.and_eq_true, decide_eq_true_iff, decide_eq_true_iff] at h8
    exact h8
theorem fine1 : Fine k1 := fine_of (by decide +kernel) (by decide +kernel) (by decide +kernel) (by decide +kernel) (by decide +kernel) (by decide +kernel) (by decide +kernel)
theorem fine2 : Fine k2 := fine_of (by decide +kernel) (by decide +kernel) (by decide +kernel) (by decide +kernel) (by decide +kernel) (by decide +kernel) (by decide +kernel)
theorem fine3 : Fine k3 := fine_of (by decide +kernel) (by decide +kernel) (by decide +kernel) (by decide +kernel) (by decide +kernel) (by decide +kernel) (by decide +kernel)
theorem fine4 : Fine k4 := fine_of (by decide +kernel) (by decide +kernel) (by decide +kernel) (by decide +kernel) (by decide +kernel) (by decide +kernel) (by decide +kernel)
theorem fine5 : Fine k5 := fine_of (by decide +kernel) (by decide +kernel) (by decide +kernel) (by decide +kernel) (by decide +kernel) (by decide +kernel) (by decide +kernel)
theorem fine7 : Fine k7 := fine_of (by decide +kernel) (by decide +kernel) (by decide +kernel) (by decide +kernel) (by decide +kernel) (by decide +kernel) (by decide +kernel)
theorem fineN : Fine nilM := fine_of (by decide +kernel) (by decide +kernel) (by decide +kernel) (by decide +kernel) (by decide +kernel) (by decide +kernel) (by decide +kernel)
theorem fineT : Fine threeM := fine_of (by decide +kernel) (by decide +kernel) (by decide +kernel) (by decide +kernel) (by decide +kernel) (by decide +kernel) (by decide +kernel)
theorem fineZ (n : Nat) (h : n ≤ 1000) : Fine (zM n) := by
  refine ⟨by simp [zM]; exact h, Nat.zero_le _, by simp [zM]; exact h, by simp [zM]; exact h, fun l hl => ?_, fun k hk => (by cases hk), fun s hs => ?_⟩
  · have : l = [] := List.eq_of_mem_replicate hl
    subst this
    exact ⟨Nat.zero_le _, fun k hk => (by cases hk)⟩
  · have : s = (0, 0) := List.eq_of_mem_replicate hs
    subst this
    exact ⟨by decide +kernel, by decide⟩
theorem mat_nil (W : World) : MAt W nilA nilM := ⟨fun _ hi => absurd hi (Nat.not_lt_zero _), fun _ hi => absurd hi (Nat.not_lt_zero _), fun _ hi => absurd hi (Nat.not_lt_zero _), fun _ hi => absurd hi (Nat.not_lt_zero _)⟩
/-! Memory -/
theorem own_nums {w : World} {B n : Nat} {a : Option Addr} {c : Nat} {l : List Int} (h : OwnN B w (.slice a n c) l) : NumsIn w a l := by
  obtain ⟨a', c', e, hn⟩ := h.nums
  injection e with e1
  rw [e1]; exact hn
theorem own_spots {w : World} {B c : Nat} {a : Option Addr} {L : List (Nat × Nat)} (h : w.ownsRow B 41 5 (.slice a L.length c) L.length (spL L)) : SpotsIn w a L := fun i hi => by
  obtain ⟨k, hk⟩ := own_addr h (by omega)
  rw [hk] at h
  refine ⟨k, 0, hk, fun j v hj => ?_⟩
  have hj5 : j < 5 := by have := (List.getElem?_eq_some_iff.1 hj).1; rwa [sp5_len] at this
  rw [Nat.zero_add, World.ownsRow.cellAt h (i * 5 + j) (by omega), spL_get _ _ hi _ hj5]
  exact hj
theorem own_bools {w : World} {B c : Nat} {a : Option Addr} {L : List Bool} (h : w.ownsRow B 4 1 (.slice a L.length c) L.length (bL L)) : BoolsIn w a L := fun i hi => by
  obtain ⟨k, hk⟩ := own_addr h (by omega)
  rw [hk] at h
  refine ⟨k, 0, hk, ?_⟩
  rw [Nat.zero_add, World.ownsRow.cellAt h i (by omega)]
  exact bL_get L i hi
theorem own_lists {w : World} {B c : Nat} {a : Option Addr} {L : List (List Int)} {vs : List Value} (hl : vs.length = L.length) (h : w.ownsRow B 23 1 (.slice a L.length c) L.length vs) (he : ∀ i, i < L.length → OwnN B w (vs.getD i (.slice none 0 0)) (L.getD i [])) : ListsIn w a L := fun i hi => by
  obtain ⟨k, hk⟩ := own_addr h (by omega)
  rw [hk] at h
  obtain ⟨a', c', e, hn⟩ := (he i hi).nums
  refine ⟨k, 0, a', c', hk, ?_, hn⟩
  rw [Nat.zero_add, World.ownsRow.cellAt h i (by omega)]
  rw [← e, List.getD_eq_getElem?_getD, List.getElem?_eq_getElem (by omega)]; rfl
/-- The blocks from D to w's end are in W as in V. -/
def Agr (D : Nat) (w V W : World) : Prop := ∀ k, D ≤ k → k < w.heap.size → W.heap[k]? = V.heap[k]?
theorem own_agr {D size n : Nat} {w V W : World} {e : TypeId} {v : Value} {xs : List Value} (ho : w.ownsRow D e size v n xs) (ha : Agr D w V W) (hv : ∀ g, v.ownBlock = some g → V.heap[g]? = w.heap[g]?) : W.ownsRow D e size v n xs :=
  own_kept ho fun g hg => (ha g (ho.lt g hg).1 (ho.lt g hg).2).trans (hv g hg)
theorem OwnM.agr {D : Nat} {w W : World} {x : Ma} {m : Mc} (h : OwnM D w x m) (ha : Agr D w w W) : OwnM D W x m := by
  obtain ⟨vs, h1, h2, h3⟩ := h.fo
  exact ⟨own_agr h.sp ha (fun _ _ => rfl), own_agr h.fi ha (fun _ _ => rfl), ⟨vs, h1, own_agr h2 ha (fun _ _ => rfl), fun i hi => own_agr (h3 i hi) ha (fun _ _ => rfl)⟩, own_agr h.la ha (fun _ _ => rfl)⟩
theorem off_own {D g i size n : Nat} {w : World} {T e : TypeId} {cs0 : Array Value} (h0 : w.heap[g]? = some (.cells cs0 T (0, 0))) (u : Value) {v : Value} {xs : List Value} (ho : w.ownsRow D e size v n xs) (he : e ≠ T) : ∀ k, v.ownBlock = some k → (w.setCell ⟨g, i, none⟩ u).heap[k]? = w.heap[k]? := fun k hk => by
  obtain ⟨cs, hc⟩ := own_type ho hk
  refine Below.heap_setCell w ⟨g, i, none⟩ u k (fun e2 => ?_)
  rw [show k = g from e2, h0] at hc
  injection hc with hc
  injection hc with _ hc
  exact he hc.symm
/-- Its first list of Follow written anew. -/
theorem falls_mat {D g q : Nat} {w W : World} {x : Ma} (h : OwnM D w x someM) (hg : x.oa = some ⟨g, 0, none⟩) (ha : Agr D w (w.setCell ⟨g, 0, none⟩ (.slice (some ⟨q, 0, none⟩) 2 2)) W) (hq : NumsIn W (some ⟨q, 0, none⟩) [2, 1]) : MAt W x k1 := by
  obtain ⟨vs, h1, h2, h3⟩ := h.fo
  have h2g := h2
  rw [hg] at h2g
  obtain ⟨cs0, h0⟩ := own_type h2g rfl
  have hlt := h2g.lt g rfl
  refine ⟨own_spots (own_agr h.sp ha (off_own h0 _ h.sp (by decide))), own_nums (own_agr h.fi ha (off_own h0 _ h.fi (by decide))), fun j hj => ?_, own_bools (own_agr h.la ha (off_own h0 _ h.la (by decide)))⟩
  have hcW : ∀ t, W.cell? ⟨g, t, none⟩ = (w.setCell ⟨g, 0, none⟩ (.slice (some ⟨q, 0, none⟩) 2 2)).cell? ⟨g, t, none⟩ := fun t => World.cell?_of_block (ha g hlt.1 hlt.2)
  have hcell := fun t (ht : t < 3) => World.ownsRow.cellAt h2g t (by show t < 3 * 1; omega)
  have hj3 : j < 3 := hj
  have hvl : vs.length = 3 := h1
  match j, hj3 with
  | 0, _ =>
    refine ⟨g, 0, _, 2, hg, ?_, hq⟩
    have h4 := hcell 0 (by decide)
    rw [List.getElem?_eq_getElem (by omega)] at h4
    rw [Nat.zero_add, hcW, World.cell?_setCell_same _ _ _ h4]; rfl
  | 1, _ =>
    have h4 := hcell 1 (by decide)
    have h5 := own_agr (h3 1 (by decide)) ha (off_own h0 _ (h3 1 (by decide)) (by decide))
    obtain ⟨a', c', e', hn⟩ := OwnN.nums h5
    refine ⟨g, 0, a', c', hg, ?_, hn⟩
    rw [Nat.zero_add, hcW, World.cell?_setCell_other _ _ _ _ (by intro h; injection h with _ h; omega), h4, List.getElem?_eq_getElem (by omega)]
    rw [List.getD_eq_getElem?_getD, List.getElem?_eq_getElem (by omega)] at e'
    exact congrArg some e'
  | 2, _ =>
    have h4 := hcell 2 (by decide)
    have h5 := own_agr (h3 2 (by decide)) ha (off_own h0 _ (h3 2 (by decide)) (by decide))
    obtain ⟨a', c', e', hn⟩ := OwnN.nums h5
    refine ⟨g, 0, a', c', hg, ?_, hn⟩
    rw [Nat.zero_add, hcW, World.cell?_setCell_other _ _ _ _ (by intro h; injection h with _ h; omega), h4, List.getElem?_eq_getElem (by omega)]
    rw [List.getD_eq_getElem?_getD, List.getElem?_eq_getElem (by omega)] at e'
    exact congrArg some e'
/-- Its first spot's tag written anew. -/
theorem tag_mat {D g : Nat} {w W : World} {x : Ma} (h : OwnM D w x someM) (hg : x.sa = some ⟨g, 0, none⟩) (ha : Agr D w (w.setCell ⟨g, 4, none⟩ (.int .u8 3)) W) : MAt W x k3 := by
  obtain ⟨vs, h1, h2, h3⟩ := h.fo
  have h2g := h.sp
  rw [hg] at h2g
  obtain ⟨cs0, h0⟩ := own_type h2g rfl
  have hlt := h2g.lt g rfl
  refine ⟨fun j hj => ?_, own_nums (own_agr h.fi ha (off_own h0 _ h.fi (by decide))), own_lists h1 (own_agr h2 ha (off_own h0 _ h2 (by decide))) (fun j hj => own_agr (h3 j hj) ha (off_own h0 _ (h3 j hj) (by decide))), own_bools (own_agr h.la ha (off_own h0 _ h.la (by decide)))⟩
  have hj3 : j < 3 := hj
  obtain ⟨b, o, e1, hr⟩ := own_spots h.sp j hj3
  rw [hg] at e1
  injection e1 with e1
  injection e1 with e1 e2
  subst e1; subst e2
  have hcW : ∀ t, W.cell? ⟨g, t, none⟩ = (w.setCell ⟨g, 4, none⟩ (.int .u8 3)).cell? ⟨g, t, none⟩ := fun t => World.cell?_of_block (ha g hlt.1 hlt.2)
  refine ⟨g, 0, hg, fun q v hq => ?_⟩
  have hq5 : q < 5 := by have := (List.getElem?_eq_some_iff.1 hq).1; rwa [sp5_len] at this
  rw [hcW]
  by_cases e : j = 0 ∧ q = 4
  · obtain ⟨rfl, rfl⟩ := e
    have hv : v = .int .u8 3 := by
      have : some (Value.int .u8 3) = some v := hq
      injection this with this
      exact this.symm
    have h4 := hr 4 _ rfl
    rw [hv]
    exact World.cell?_setCell_same _ _ _ h4
  · rw [World.cell?_setCell_other _ _ _ _ (by intro h; injection h with _ h; omega)]
    refine hr q v ?_
    rw [← hq]
    match j, hj3, q, hq5, e with
    | 0, _, 0, _, _ => rfl
    | 0, _, 1, _, _ => rfl
    | 0, _, 2, _, _ => rfl
    | 0, _, 3, _, _ => rfl
    | 0, _, 4, _, h => exact absurd ⟨rfl, rfl⟩ h
    | 1, _, _, _, _ => rfl
    | 2, _, _, _, _ => rfl
theorem short_mat {W : World} {x : Ma} (h : MAt W x someM) : MAt W x k2 := ⟨h.sp, h.fi, h.fo, fun i hi => by
  have hi2 : i < 2 := hi
  obtain ⟨b, o, e, hc⟩ := h.la i (by show i < 3; omega)
  refine ⟨b, o, e, hc.trans ?_⟩
  match i, hi2 with
  | 0, _ => rfl
  | 1, _ => rfl⟩
theorem first_mat {W : World} {x : Ma} (h : MAt W x someM) (a : Option Addr) (c : Nat) (l : List Int) (hn : NumsIn W a l) : MAt W ⟨x.sa, x.sc, a, c, x.oa, x.oc, x.la, x.lc⟩ ⟨someM.sp, l, someM.fo, someM.la, someM.em⟩ := ⟨h.sp, hn, h.fo, h.la⟩
end Nk
end Go.Proofs.YtlbaecjmfgahgaaDoor
namespace Go.Proofs.YtlbaecjmfgahgaaDoor
open Go.RowKit
namespace Rinv
/-- each operation waits for earlier ones alone; the slots are apart -/
def okE (l : List Oper) (m : Nat) (d : Nat → Nat) : Bool :=
  decide (l.length = m) &&
  (List.range m).all (fun i => ((l.getD i default).after.all fun e => !Region.binds .any e || decide (e.on < i))) &&
  (List.range m).all (fun i => decide ((l.getD i default).dst = some (d i)) && (List.range m).all fun j => decide (j = i) || decide (d j ≠ d i))
section
variable {P : Program} {Q : Exit → Act → World → Prop} {l : List Oper} {m : Nat} {d : Nat → Nat} {a : Act} {W : World} {R : Nat → Value → World → Prop}
theorem any_go6 (hok : okE l m d = true)
    (step : ∀ i, i < m → ∀ (X : Nat → Value) w', Below W.heap.size W w' → (∀ j, j < m → waits l i j → R j (X j) w') →
      wpOp P l.toArray Q i (fun a'' w'' => ∃ v, a'' = (putAll d X m a).put (some (d i)) v ∧ Below w'.heap.size w' w'' ∧ R i v w'') (putAll d X m a) w')
    (mono : ∀ i v w w', Below w.heap.size w w' → R i v w → R i v w')
    (fin : ∀ (X : Nat → Value) w', Below W.heap.size W w' → (∀ j, j < m → R j (X j) w') → Q .normal (putAll d X m a) w') :
    ∀ (fuel : Nat) (listed : Array Bool) (X : Nat → Value) (w' : World), listed.size = m → Below W.heap.size W w' →
      (∀ j, j < m → listed.getD j true = true → R j (X j) w') → ((List.range m).filter fun i => !listed.getD i true).length ≤ fuel → wpAny P .any l.toArray Q fuel listed (putAll d X m a) w' := by
  simp only [okE, Bool.and_eq_true, decide_eq_true_eq, List.all_eq_true, List.mem_range] at hok
  obtain ⟨⟨hlen, hord⟩, hdst⟩ := hok
  have hget : ∀ i, i < m → l.toArray[i]? = some (l.getD i default) := fun i hi => by
    rw [List.getElem?_toArray, List.getD_eq_getElem?_getD, List.getElem?_eq_getElem (by omega)]; rfl
  intro fuel
  induction fuel with
  | zero =>
    intro listed X w' hsz hB hR hf
    have hall : ∀ j, j < m → listed.getD j true = true := fun j hj => by
      have h := List.filter_eq_nil_iff.1 (List.length_eq_zero_iff.1 (Nat.le_zero.1 hf)) j (List.mem_range.2 hj)
      cases h2 : listed.getD j true with
      | true => rfl
      | false => rw [h2] at h; exact absurd rfl h
    refine ⟨?_, fin X w' hB (fun j hj => hR j hj (hall j hj))⟩
    refine List.filter_eq_nil_iff.2 (fun k hk => ?_)
    have hk' : k < m := by have := List.mem_range.1 hk; rw [List.size_toArray] at this; omega
    rw [hall k hk']; simp
  | succ fuel ih =>
    intro listed X w' hsz hB hR hf
    have hready : ∀ i, i ∈ Region.ready .any l.toArray listed ↔ i < m ∧ listed.getD i true = false ∧ ∀ e ∈ (l.getD i default).after, Region.binds .any e = true → listed.getD e.on false = true := fun i => by
      unfold Region.ready
      rw [List.mem_filter, List.mem_range]
      constructor
      · rintro ⟨h1, h2⟩
        have h1' : i < m := by rw [List.size_toArray] at h1; omega
        rw [hget i h1'] at h2
        simp only [Option.map_some, Option.getD_some, Bool.and_eq_true, Bool.not_eq_true', Array.all_eq_true_iff_forall_mem, Bool.or_eq_true] at h2
        exact ⟨h1', h2.1, fun e he hb => (h2.2 e he).resolve_left (by rw [hb]; decide)⟩
      · rintro ⟨h1, h2, h3⟩
        refine ⟨by rw [List.size_toArray]; omega, ?_⟩
        rw [hget i h1]
        simp only [Option.map_some, Option.getD_some, Bool.and_eq_true, Bool.not_eq_true', Array.all_eq_true_iff_forall_mem, Bool.or_eq_true]
        refine ⟨h2, fun e he => ?_⟩
        cases hb : Region.binds .any e
        · exact .inl rfl
        · exact .inr (h3 e he hb)
    have hfl : ∀ j, j < m → listed.getD j false = listed.getD j true := fun j hj => by
      simp [Array.getD_eq_getD_getElem?, Array.getElem?_eq_getElem (show j < listed.size from by omega)]
    refine ⟨fun hno => ?_, fun i hi => ?_⟩
    · refine fin X w' hB (fun j hj => hR j hj ?_)
      have : ∀ k, k < m → listed.getD k true = true := by
        intro k
        induction k using Nat.strongRecOn with
        | _ k ihk =>
          intro hk
          cases hkf : listed.getD k true with
          | true => rfl
          | false =>
            exfalso
            have : k ∈ Region.ready .any l.toArray listed := (hready k).2 ⟨hk, hkf, fun e he hb => by
              have h4 := hord k hk
              rw [Array.all_eq_true_iff_forall_mem] at h4
              have h5 := h4 e he
              rw [hb] at h5
              have h6 : e.on < k := by simpa using h5
              rw [hfl _ (by omega)]
              exact ihk _ h6 (by omega)⟩
            rw [hno] at this
            cases this
      exact this j hj
    · obtain ⟨h1, h2, h3⟩ := (hready i).1 hi
      have hdep : ∀ j, j < m → waits l i j → R j (X j) w' := fun j hj hw => by
        refine hR j hj ?_
        unfold waits at hw
        obtain ⟨e, he, hb⟩ := List.any_eq_true.1 hw
        have he : e ∈ (l.getD i default).after := by simpa using he
        simp only [Bool.and_eq_true, beq_iff_eq] at hb
        have := h3 e he hb.1
        rw [hb.2, hfl j (by omega)] at this
        exact this
      refine wpOp_mono (fun a'' w'' hh => ?_) (step i h1 X w' hB hdep)
      obtain ⟨v, rfl, hb, hr⟩ := hh
      rw [put_upd v m a h1 (fun j hj hn => (by
        have := (hdst i h1).2 j hj
        simp only [Bool.or_eq_true, decide_eq_true_eq] at this
        exact this.resolve_left hn))]
      have hlt : i < listed.size := by omega
      refine ih (listed.setIfInBounds i true) (upd X i v) w'' (by simpa using hsz) (hB.trans (hb.mono hB.size)) ?_ ?_
      · intro j hj hjl
        rw [getD_set hlt] at hjl
        unfold upd
        by_cases e : j = i
        · rw [if_pos e, e]; exact hr
        · rw [if_neg e]
          rw [if_neg e] at hjl
          exact mono j _ _ _ hb (hR j hj hjl)
      · have hsub : ((List.range m).filter fun k => !(listed.setIfInBounds i true).getD k true) = ((List.range m).filter fun k => !listed.getD k true).filter (fun k => decide (k ≠ i)) := by
          rw [List.filter_filter]
          refine List.filter_congr (fun k _ => ?_)
          rw [getD_set hlt]
          by_cases e : k = i
          · simp [e]
          · simp [e]
        rw [hsub]
        have hmem : i ∈ (List.range m).filter fun k => !listed.getD k true := List.mem_filter.2 ⟨List.mem_range.2 h1, by rw [h2]; rfl⟩
        have := (List.length_filter_lt_length_iff_exists (p := fun k => decide (k ≠ i))).2 ⟨i, hmem, by simp⟩
        omega
/-- A region that draws its order, none of its operations behind all the others: each walked by itself. -/
theorem region_inv6 {id : Nat} (R : Nat → Value → World → Prop) (m : Nat) (d : Nat → Nat) (hm : P.follows .mixedOrders = true) (hok : okE l m d = true) (hsz : ∀ j, j < m → (a.tmps[d j]?).isSome = true)
    (mono : ∀ i v w w', Below w.heap.size w w' → R i v w → R i v w')
    (step : ∀ i, i < m → ∀ (X : Nat → Value) w', Below W.heap.size W w' → (∀ j, j < m → waits l i j → R j (X j) w') →
      ∀ K : Act → World → Prop, (∀ a'' w'' v, a'' = (putAll d X m a).put (some (d i)) v → Below w'.heap.size w' w'' → R i v w'' → K a'' w'') → wpList P l.toArray (mixQ (NoPanic Q) K) [l.getD i default] (putAll d X m a) w')
    (fin : ∀ (X : Nat → Value) w', Below W.heap.size W w' → (∀ j, j < m → R j (X j) w') → Q .normal (putAll d X m a) w') :
    (Code.region id l.toArray true).wp P Q a W := by
  have hlen : l.length = m := by
    have h := hok
    simp only [okE, Bool.and_eq_true, decide_eq_true_eq] at h
    exact h.1.1
  have hget : ∀ i, i < m → l.toArray[i]? = some (l.getD i default) := fun i hi => by
    rw [List.getElem?_toArray, List.getD_eq_getElem?_getD, List.getElem?_eq_getElem (by omega)]; rfl
  refine wp_region_noPanic (wp_region_any hm ?_)
  have h0 : putAll d (fun j => (a.tmps[d j]?).getD undef) m a = a := putAll_own m a (fun j hj => by
    obtain ⟨v, hv⟩ := Option.isSome_iff_exists.1 (hsz j hj)
    rw [hv]; rfl)
  have := any_go6 (P := P) (Q := NoPanic Q) (a := a) (W := W) (R := R) hok
    (fun i hi X w' hB hR => wpOp_list (hget i hi) (step i hi X w' hB hR _ (fun a'' w'' v h1 h2 h3 => ⟨v, h1, h2, h3⟩))) mono (fun X w' hB hR => NoPanic.normal (fin X w' hB hR)) m (Array.replicate m false) (fun j => (a.tmps[d j]?).getD undef) W.drew (by simp) ((Below.refl _ _).drew)
    (fun j hj hl => by simp [show j < m from by omega] at hl) (Nat.le_trans (List.length_filter_le _ _) (by simp))
  rw [h0] at this
  rw [show l.toArray.size = m from by simpa using hlen]
  exact this
end
end Rinv
end Go.Proofs.YtlbaecjmfgahgaaDoor
namespace Go.Proofs.YtlbaecjmfgahgaaDoor
open Go.RowKit Sets Nf Cls Df
namespace Nk
theorem infoSpot5 : (Tryd.prog.info? 41).map (fun i => (i.zero.map (·.cells), i.size, i.bytes)) = some (some zero5, 5, 40) := by kernel_rfl
theorem infoInts1 : (Tryd.prog.info? 23).map (fun i => (i.zero.map (·.cells), i.size, i.bytes)) = some (some #[.slice none 0 0], 1, 24) := by kernel_rfl
theorem infoBool1 : (Tryd.prog.info? 4).map (fun i => (i.zero.map (·.cells), i.size, i.bytes)) = some (some #[.bool false], 1, 1) := by kernel_rfl
theorem wpList_make_spots {w : World} {ops : Array Oper} {rest : List Oper} {o : Oper} {a : Act} {Q : Exit → Act → World → Prop}
    (hg : o.guard = none) (l c : Operand) (hop : o.op = Op.makeSlice 22 l c) (n : Nat) (hl : a.eval l = .int .i64 (n : Int)) (hc : a.eval c = .int .i64 (n : Int)) (hn : n ≤ 1000)
    (hK : wpList Tryd.prog ops Q rest (a.put o.dst (.slice (some ⟨w.heap.size, 0, none⟩) n n)) (w.alloc (.cells (madeCells zero5 (n * 5)) 41))) :
    wpList Tryd.prog ops Q (o :: rest) a w := by
  refine wpList_plain hg fun K hK' => ?_
  obtain ⟨i, hi, hzz⟩ := Option.map_eq_some_iff.1 infoSpot5
  simp only [Prod.mk.injEq] at hzz
  obtain ⟨hz, hs, hb⟩ := hzz
  obtain ⟨z, hz1, hz2⟩ := Option.map_eq_some_iff.1 hz
  have hrun := run_make (P := Tryd.prog) w 22 41 i z Tryd.underlying22 hi hz1 .i64 .i64 n n (by omega) (Int.le_refl _) (by rw [hb]; omega) (by omega)
  simp only [Int.toNat_natCast, hs, hz2] at hrun
  unfold Oper.wp
  simp [execOp, hop, hl, hc, hrun, Result.andThen]
  exact hK' _ _ hK
theorem wpList_make_lists {w : World} {ops : Array Oper} {rest : List Oper} {o : Oper} {a : Act} {Q : Exit → Act → World → Prop}
    (hg : o.guard = none) (l c : Operand) (hop : o.op = Op.makeSlice 24 l c) (n : Nat) (hl : a.eval l = .int .i64 (n : Int)) (hc : a.eval c = .int .i64 (n : Int)) (hn : n ≤ 1000)
    (hK : wpList Tryd.prog ops Q rest (a.put o.dst (.slice (some ⟨w.heap.size, 0, none⟩) n n)) (w.alloc (.cells (madeCells #[.slice none 0 0] n) 23))) :
    wpList Tryd.prog ops Q (o :: rest) a w := by
  refine wpList_plain hg fun K hK' => ?_
  obtain ⟨i, hi, hzz⟩ := Option.map_eq_some_iff.1 infoInts1
  simp only [Prod.mk.injEq] at hzz
  obtain ⟨hz, hs, hb⟩ := hzz
  obtain ⟨z, hz1, hz2⟩ := Option.map_eq_some_iff.1 hz
  have hrun := run_make (P := Tryd.prog) w 24 23 i z Tryd.underlying24 hi hz1 .i64 .i64 n n (by omega) (Int.le_refl _) (by rw [hb]; omega) (by omega)
  simp only [Int.toNat_natCast, hs, hz2, Nat.mul_one] at hrun
  unfold Oper.wp
  simp [execOp, hop, hl, hc, hrun, Result.andThen]
  exact hK' _ _ hK
theorem wpList_make_bools {w : World} {ops : Array Oper} {rest : List Oper} {o : Oper} {a : Act} {Q : Exit → Act → World → Prop}
    (hg : o.guard = none) (l c : Operand) (hop : o.op = Op.makeSlice 25 l c) (n : Nat) (hl : a.eval l = .int .i64 (n : Int)) (hc : a.eval c = .int .i64 (n : Int)) (hn : n ≤ 1000)
    (hK : wpList Tryd.prog ops Q rest (a.put o.dst (.slice (some ⟨w.heap.size, 0, none⟩) n n)) (w.alloc (.cells (madeCells #[.bool false] n) 4))) :
    wpList Tryd.prog ops Q (o :: rest) a w := by
  refine wpList_plain hg fun K hK' => ?_
  obtain ⟨i, hi, hzz⟩ := Option.map_eq_some_iff.1 infoBool1
  simp only [Prod.mk.injEq] at hzz
  obtain ⟨hz, hs, hb⟩ := hzz
  obtain ⟨z, hz1, hz2⟩ := Option.map_eq_some_iff.1 hz
  have hrun := run_make (P := Tryd.prog) w 25 4 i z Tryd.underlying25 hi hz1 .i64 .i64 n n (by omega) (Int.le_refl _) (by rw [hb]; omega) (by omega)
  simp only [Int.toNat_natCast, hs, hz2, Nat.mul_one] at hrun
  unfold Oper.wp
  simp [execOp, hop, hl, hc, hrun, Result.andThen]
  exact hK' _ _ hK
def zA (n g1 g2 g3 : Nat) : Ma := ⟨some ⟨g1, 0, none⟩, n, none, 0, some ⟨g2, 0, none⟩, n, some ⟨g3, 0, none⟩, n⟩
theorem mc_zero (n g1 g2 g3 : Nat) : mc (zA n g1 g2 g3) (zM n) = #[.slice (some ⟨g1, 0, none⟩) n n, .slice none 0 0, .slice (some ⟨g2, 0, none⟩) n n, .slice (some ⟨g3, 0, none⟩) n n, .bool false] := by
  unfold mc zA zM; simp
theorem row_cell {W : World} {g k : Nat} {cs : Array Value} {t : TypeId} (h : W.heap[g]? = some (.cells cs t (0, 0))) {v : Value} (hv : cs[k]? = some v) : W.cell? ⟨g, k, none⟩ = some v := by
  rw [cell_of_row W g k _ _ _ h]; exact hv
theorem made_get (z : Array Value) (n k : Nat) (h : k < n) : (madeCells z n)[k]? = some z[k % z.size]! := by
  unfold madeCells
  simp [h]
theorem sp5_zero (j : Nat) (hj : j < 5) : (sp5 (0, 0))[j]? = some zero5[j]! := by
  unfold sp5
  simp only [wd_zero]
  have : j = 0 ∨ j = 1 ∨ j = 2 ∨ j = 3 ∨ j = 4 := by omega
  rcases this with rfl | rfl | rfl | rfl | rfl <;> rfl
theorem zero_mat (n g1 g2 g3 : Nat) (W : World) (h1 : W.heap[g1]? = some (.cells (madeCells zero5 (n * 5)) 41 (0, 0))) (h2 : W.heap[g2]? = some (.cells (madeCells #[.slice none 0 0] n) 23 (0, 0))) (h3 : W.heap[g3]? = some (.cells (madeCells #[.bool false] n) 4 (0, 0))) :
    MAt W (zA n g1 g2 g3) (zM n) := by
  refine ⟨fun i hi => ⟨g1, 0, rfl, fun j v hj => ?_⟩, fun i hi => absurd hi (Nat.not_lt_zero _), fun i hi => ⟨g2, 0, none, 0, rfl, ?_, ?_⟩, fun i hi => ⟨g3, 0, rfl, ?_⟩⟩
  · have hi : i < n := by simpa [zM] using hi
    have hz : (zM n).sp.getD i (0, 0) = (0, 0) := by
      unfold zM
      rw [List.getD_eq_getElem?_getD, List.getElem?_replicate]
      split <;> rfl
    rw [hz] at hj
    have hj5 : j < 5 := by have := (List.getElem?_eq_some_iff.1 hj).1; rwa [sp5_len] at this
    refine row_cell h1 ?_
    rw [← hj]
    have hk : 0 + i * 5 + j < n * 5 := by omega
    rw [made_get _ _ _ hk, sp5_zero j hj5, show zero5.size = 5 from rfl, show (0 + i * 5 + j) % 5 = j from by omega]
  · have hi : i < n := by simpa [zM] using hi
    have hz : (zM n).fo.getD i [] = [] := by
      unfold zM
      rw [List.getD_eq_getElem?_getD, List.getElem?_replicate]
      split <;> rfl
    rw [hz, Nat.zero_add]
    refine row_cell h2 ?_
    rw [made_get _ _ _ hi, show (#[Value.slice none 0 0] : Array Value).size = 1 from rfl, Nat.mod_one]; rfl
  · intro k hk
    have hz : (zM n).fo.getD i [] = [] := by
      unfold zM
      rw [List.getD_eq_getElem?_getD, List.getElem?_replicate]
      split <;> rfl
    rw [hz] at hk
    exact absurd hk (Nat.not_lt_zero _)
  · have hi : i < n := by simpa [zM] using hi
    have hz : (zM n).la.getD i false = false := by
      unfold zM
      rw [List.getD_eq_getElem?_getD, List.getElem?_replicate]
      split <;> rfl
    rw [hz, Nat.zero_add]
    refine row_cell h3 ?_
    rw [made_get _ _ _ hi, show (#[Value.bool false] : Array Value).size = 1 from rfl, Nat.mod_one]; rfl
theorem one_mat (g : Nat) (W : World) (h : W.heap[g]? = some (.cells (madeCells #[.slice none 0 0] 1) 23 (0, 0))) : MAt W ⟨none, 0, none, 0, some ⟨g, 0, none⟩, 1, none, 0⟩ k7 := by
  refine ⟨fun i hi => absurd hi (Nat.not_lt_zero _), fun i hi => absurd hi (Nat.not_lt_zero _), fun i hi => ⟨g, 0, none, 0, rfl, ?_, ?_⟩, fun i hi => absurd hi (Nat.not_lt_zero _)⟩
  · have hi : i < 1 := hi
    obtain rfl : i = 0 := by omega
    refine row_cell h ?_
    show (madeCells #[.slice none 0 0] 1)[0]? = some (.slice none 0 0)
    rw [made_get _ _ _ (by decide)]; rfl
  · have hi : i < 1 := hi
    obtain rfl : i = 0 := by omega
    exact fun k hk => absurd hk (Nat.not_lt_zero _)
theorem mc_z (x : Ma) (n : Nat) : mc x (zM n) = #[.slice x.sa n x.sc, .slice x.fa 0 x.fc, .slice x.oa n x.oc, .slice x.la n x.lc, .bool false] := by
  unfold mc zM; simp
def oneA (g : Nat) : Ma := ⟨none, 0, none, 0, some ⟨g, 0, none⟩, 1, none, 0⟩
/-- A machine's cells, its lists' lengths said. -/
def cz (x : Ma) (a b c d : Nat) (e : Bool) : Array Value := #[.slice x.sa a x.sc, .slice x.fa b x.fc, .slice x.oa c x.oc, .slice x.la d x.lc, .bool e]
def row7 (x1 x2 x3 x4 x5 x6 x7 : Ma) : Array Value := #[
  .slice x1.sa 3 x1.sc, .slice x1.fa 1 x1.fc, .slice x1.oa 3 x1.oc, .slice x1.la 3 x1.lc, .bool true,
  .slice x2.sa 3 x2.sc, .slice x2.fa 1 x2.fc, .slice x2.oa 3 x2.oc, .slice x2.la 2 x2.lc, .bool true,
  .slice x3.sa 3 x3.sc, .slice x3.fa 1 x3.fc, .slice x3.oa 3 x3.oc, .slice x3.la 3 x3.lc, .bool true,
  .slice x4.sa 3 x4.sc, .slice x4.fa 1 x4.fc, .slice x4.oa 3 x4.oc, .slice x4.la 3 x4.lc, .bool true,
  .slice x5.sa 3 x5.sc, .slice x5.fa 2 x5.fc, .slice x5.oa 3 x5.oc, .slice x5.la 3 x5.lc, .bool true,
  .slice x6.sa 251 x6.sc, .slice x6.fa 0 x6.fc, .slice x6.oa 251 x6.oc, .slice x6.la 251 x6.lc, .bool false,
  .slice x7.sa 0 x7.sc, .slice x7.fa 0 x7.fc, .slice x7.oa 1 x7.oc, .slice x7.la 0 x7.lc, .bool false]
/-- What the operations ahead of the loop lay. -/
def RK (x1 x2 x3 x4 x5 : Ma) : Nat → Value → World → Prop
  | 0, v, _ => v = .agg #[.slice x1.sa 3 x1.sc, .slice x1.fa 1 x1.fc, .slice x1.oa 3 x1.oc, .slice x1.la 3 x1.lc, .bool true]
  | 1, v, _ => v = .agg #[.slice x2.sa 3 x2.sc, .slice x2.fa 1 x2.fc, .slice x2.oa 3 x2.oc, .slice x2.la 2 x2.lc, .bool true]
  | 2, v, _ => v = .agg #[.slice x3.sa 3 x3.sc, .slice x3.fa 1 x3.fc, .slice x3.oa 3 x3.oc, .slice x3.la 3 x3.lc, .bool true]
  | 3, v, _ => v = .agg #[.slice x4.sa 3 x4.sc, .slice x4.fa 1 x4.fc, .slice x4.oa 3 x4.oc, .slice x4.la 3 x4.lc, .bool true]
  | 4, v, _ => v = .agg #[.slice x5.sa 3 x5.sc, .slice x5.fa 2 x5.fc, .slice x5.oa 3 x5.oc, .slice x5.la 3 x5.lc, .bool true]
  | 5, v, w => ∃ q, v = .slice (some ⟨q, 0, none⟩) 251 251 ∧ w.heap[q]? = some (.cells (madeCells zero5 (251 * 5)) 41 (0, 0))
  | 6, v, w => ∃ q, v = .slice (some ⟨q, 0, none⟩) 251 251 ∧ w.heap[q]? = some (.cells (madeCells #[.slice none 0 0] 251) 23 (0, 0))
  | 7, v, w => ∃ q, v = .slice (some ⟨q, 0, none⟩) 251 251 ∧ w.heap[q]? = some (.cells (madeCells #[.bool false] 251) 4 (0, 0))
  | 8, v, w => ∃ x6 : Ma, v = .agg #[.slice x6.sa 251 x6.sc, .slice x6.fa 0 x6.fc, .slice x6.oa 251 x6.oc, .slice x6.la 251 x6.lc, .bool false] ∧ MAt w x6 (zM 251)
  | 9, v, w => ∃ q, v = .slice (some ⟨q, 0, none⟩) 1 1 ∧ w.heap[q]? = some (.cells (madeCells #[.slice none 0 0] 1) 23 (0, 0))
  | 10, v, w => ∃ x7 : Ma, v = .agg #[.slice x7.sa 0 x7.sc, .slice x7.fa 0 x7.fc, .slice x7.oa 1 x7.oc, .slice x7.la 0 x7.lc, .bool false] ∧ MAt w x7 k7
  | 11, v, w => ∃ (q : Nat) (x6 x7 : Ma), v = .slice (some ⟨q, 0, none⟩) 7 7 ∧ w.heap[q]? = some (.cells (row7 x1 x2 x3 x4 x5 x6 x7) 27 (0, 0)) ∧ MAt w x6 (zM 251) ∧ MAt w x7 k7
  | 12, v, _ => v = .int .i64 7
  | 13, v, _ => v = .int .i64 0
  | _, _, _ => True
theorem row_stay {w w' : World} {q : Nat} {o : Obj} (h : w.heap[q]? = some o) (hb : Below w.heap.size w w') : w'.heap[q]? = some o := (hb.block q (Array.getElem?_eq_some_iff.1 h).1).trans h
theorem RK_mono (x1 x2 x3 x4 x5 : Ma) (i : Nat) (v : Value) (w w' : World) (hb : Below w.heap.size w w') (h : RK x1 x2 x3 x4 x5 i v w) : RK x1 x2 x3 x4 x5 i v w' := by
  match i with
  | 0 => exact h
  | 1 => exact h
  | 2 => exact h
  | 3 => exact h
  | 4 => exact h
  | 5 => obtain ⟨q, e, h1⟩ := h; exact ⟨q, e, row_stay h1 hb⟩
  | 6 => obtain ⟨q, e, h1⟩ := h; exact ⟨q, e, row_stay h1 hb⟩
  | 7 => obtain ⟨q, e, h1⟩ := h; exact ⟨q, e, row_stay h1 hb⟩
  | 8 => obtain ⟨q, e, h1⟩ := h; exact ⟨q, e, h1.kept hb⟩
  | 9 => obtain ⟨q, e, h1⟩ := h; exact ⟨q, e, row_stay h1 hb⟩
  | 10 => obtain ⟨q, e, h1⟩ := h; exact ⟨q, e, h1.kept hb⟩
  | 11 => obtain ⟨q, x6, x7, e, h1, h2, h3⟩ := h; exact ⟨q, x6, x7, e, row_stay h1 hb, h2.kept hb, h3.kept hb⟩
  | 12 => exact h
  | 13 => exact h
  | n + 14 => exact h
def RKd (i : Nat) : Nat := i + 99
def XS (x1 x2 x3 x4 x5 x6 x7 : Ma) : Nat → Ma
  | 0 => x1
  | 1 => x2
  | 2 => x3
  | 3 => x4
  | 4 => x5
  | 5 => x6
  | _ => x7
def MS : Nat → Mc
  | 0 => k1
  | 1 => k2
  | 2 => k3
  | 3 => k4
  | 4 => k5
  | 5 => zM 251
  | _ => k7
theorem MS_wrong (j : Nat) : rightM (MS j) = false := by
  match j with
  | 0 => exact wrong1
  | 1 => exact wrong2
  | 2 => exact wrong3
  | 3 => exact wrong4
  | 4 => exact wrong5
  | 5 => exact wrong6
  | n + 6 => exact wrong7
theorem MS_fine (j : Nat) : Fine (MS j) := by
  match j with
  | 0 => exact fine1
  | 1 => exact fine2
  | 2 => exact fine3
  | 3 => exact fine4
  | 4 => exact fine5
  | 5 => exact fineZ 251 (by decide)
  | n + 6 => exact fine7
theorem row7_at (x1 x2 x3 x4 x5 x6 x7 : Ma) (j : Nat) (hj : j < 7) : ∀ i v, (mc (XS x1 x2 x3 x4 x5 x6 x7 j) (MS j)).toList[i]? = some v → (row7 x1 x2 x3 x4 x5 x6 x7)[j * 5 + i]? = some v := by
  intro i v h
  have hi : i < 5 := by have := (List.getElem?_eq_some_iff.1 h).1; simpa [mc] using this
  have h6 := mc_z x6 251
  have hi5 : i = 0 ∨ i = 1 ∨ i = 2 ∨ i = 3 ∨ i = 4 := by omega
  match j, hj with
  | 0, _ => rcases hi5 with rfl | rfl | rfl | rfl | rfl <;> exact h
  | 1, _ => rcases hi5 with rfl | rfl | rfl | rfl | rfl <;> exact h
  | 2, _ => rcases hi5 with rfl | rfl | rfl | rfl | rfl <;> exact h
  | 3, _ => rcases hi5 with rfl | rfl | rfl | rfl | rfl <;> exact h
  | 4, _ => rcases hi5 with rfl | rfl | rfl | rfl | rfl <;> exact h
  | 5, _ =>
    have h : (mc x6 (zM 251)).toList[i]? = some v := h
    rw [h6] at h
    rcases hi5 with rfl | rfl | rfl | rfl | rfl <;> exact h
  | 6, _ => rcases hi5 with rfl | rfl | rfl | rfl | rfl <;> exact h
def sp3 : Array Value := #[.int .u64 (wd (ofN [98]) 0), .int .u64 (wd (ofN [98]) 1), .int .u64 (wd (ofN [98]) 2), .int .u64 (wd (ofN [98]) 3), .int .u8 0, .int .u64 (wd (ofN [97]) 0), .int .u64 (wd (ofN [97]) 1), .int .u64 (wd (ofN [97]) 2), .int .u64 (wd (ofN [97]) 3), .int .u8 0, .int .u64 (wd (ofN [98]) 0), .int .u64 (wd (ofN [98]) 1), .int .u64 (wd (ofN [98]) 2), .int .u64 (wd (ofN [98]) 3), .int .u8 1]
theorem three_mat (w : World) : MAt (w.alloc (.cells sp3 41)) ⟨some ⟨w.heap.size, 0, none⟩, 3, none, 0, none, 0, none, 0⟩ threeM := by
  refine ⟨fun i hi => ⟨w.heap.size, 0, rfl, fun j v hj => row_cell (heap_alloc_new w _) ?_⟩, fun i hi => absurd hi (Nat.not_lt_zero _), fun i hi => absurd hi (Nat.not_lt_zero _), fun i hi => absurd hi (Nat.not_lt_zero _)⟩
  have hi3 : i < 3 := hi
  have hj5 : j < 5 := by have := (List.getElem?_eq_some_iff.1 hj).1; rwa [sp5_len] at this
  have hj' : j = 0 ∨ j = 1 ∨ j = 2 ∨ j = 3 ∨ j = 4 := by omega
  match i, hi3 with
  | 0, _ => rcases hj' with rfl | rfl | rfl | rfl | rfl <;> exact hj
  | 1, _ => rcases hj' with rfl | rfl | rfl | rfl | rfl <;> exact hj
  | 2, _ => rcases hj' with rfl | rfl | rfl | rfl | rfl <;> exact hj
theorem quiet_eqS_same {C : World → Prop} {a : Act} {K : Act → Prop} {o : Oper} (t : TypeId) (x y : Operand) (ho : o.op = .binOp .eql 39 x y t) (S : Nat) (hx : a.eval x = .agg (setC S)) (hy : a.eval y = .agg (setC S)) (hS : S < 2 ^ 256)
    (h : K (a.put o.dst (.bool true))) : o.quiet Tryd.prog a C K := by
  refine ⟨.bool true, fun w hw => ?_, h⟩
  unfold Oper.quietAt execOp
  simp only [ho, hx, hy, Sem.run_bind, run_eqGuard_agg w .eql 39 x y _ _ guardS, run_eql_struct, set_eq S S hS hS, decide_true, Result.andThen_ok, Sem.run_pure]
  exact ⟨rfl, rfl⟩
theorem two_sets {w : World} {B g c : Nat} {S T : Nat} (h : w.ownsRow B 39 4 (.slice (some ⟨g, 0, none⟩) 2 c) 2 (setsL [S, T])) : w.rangeAt g 0 (setC S).toList ∧ w.rangeAt g 4 (setC T).toList := by
  have hc := fun k (hk : k < 8) => World.ownsRow.cellAt h k (by show k < 2 * 4; omega)
  refine ⟨fun j v hj => ?_, fun j v hj => ?_⟩
  · have hj4 : j < 4 := by have := (List.getElem?_eq_some_iff.1 hj).1; simpa [setC] using this
    rw [Nat.zero_add, hc j (by omega), ← hj]
    have : j = 0 ∨ j = 1 ∨ j = 2 ∨ j = 3 := by omega
    rcases this with rfl | rfl | rfl | rfl <;> rfl
  · have hj4 : j < 4 := by have := (List.getElem?_eq_some_iff.1 hj).1; simpa [setC] using this
    rw [hc (4 + j) (by omega), ← hj]
    have : j = 0 ∨ j = 1 ∨ j = 2 ∨ j = 3 := by omega
    rcases this with rfl | rfl | rfl | rfl <;> rfl
/-- What the operations lay that make the machine of most spots. -/
def RL (A : Nat) : Nat → Value → World → Prop
  | 0, v, w => ∃ q, v = .slice (some ⟨q, 0, none⟩) 250 250 ∧ w.heap[q]? = some (.cells (madeCells zero5 (250 * 5)) 41 (0, 0))
  | 1, v, w => ∃ q, v = .slice (some ⟨q, 0, none⟩) 250 250 ∧ w.heap[q]? = some (.cells (madeCells #[.slice none 0 0] 250) 23 (0, 0))
  | 2, v, w => ∃ q, v = .slice (some ⟨q, 0, none⟩) 250 250 ∧ w.heap[q]? = some (.cells (madeCells #[.bool false] 250) 4 (0, 0))
  | 3, v, w => ∃ q1 q2 q3 : Nat, v = .agg #[.slice (some ⟨q1, 0, none⟩) 250 250, .slice none 0 0, .slice (some ⟨q2, 0, none⟩) 250 250, .slice (some ⟨q3, 0, none⟩) 250 250, .bool false] ∧ w.heap[q1]? = some (.cells (madeCells zero5 (250 * 5)) 41 (0, 0)) ∧ w.heap[q2]? = some (.cells (madeCells #[.slice none 0 0] 250) 23 (0, 0)) ∧ w.heap[q3]? = some (.cells (madeCells #[.bool false] 250) 4 (0, 0))
  | 4, v, w => ∃ q, v = .pointer (some ⟨q, 0, none⟩) ∧ A ≤ q ∧ w.heap[q]? = some (.cells #[.slice none 0 0, .slice none 0 0, .slice none 0 0, .slice none 0 0, .bool false] 27 (0, 0))
  | _, _, _ => True
theorem RL_mono (A : Nat) (i : Nat) (v : Value) (w w' : World) (hb : Below w.heap.size w w') (h : RL A i v w) : RL A i v w' := by
  match i with
  | 0 => obtain ⟨q, e, h1⟩ := h; exact ⟨q, e, row_stay h1 hb⟩
  | 1 => obtain ⟨q, e, h1⟩ := h; exact ⟨q, e, row_stay h1 hb⟩
  | 2 => obtain ⟨q, e, h1⟩ := h; exact ⟨q, e, row_stay h1 hb⟩
  | 3 => obtain ⟨q1, q2, q3, e, h1, h2, h3⟩ := h; exact ⟨q1, q2, q3, e, row_stay h1 hb, row_stay h2 hb, row_stay h3 hb⟩
  | 4 => obtain ⟨q, e, h0, h1⟩ := h; exact ⟨q, e, h0, row_stay h1 hb⟩
  | n + 5 => exact h
def RLd (i : Nat) : Nat := if i = 4 then 14 else i + 144
theorem most_laid {W : World} {q q1 q2 q3 : Nat} (hq : W.heap[q]? = some (.cells #[.slice none 0 0, .slice none 0 0, .slice none 0 0, .slice none 0 0, .bool false] 27 (0, 0))) (h1 : W.heap[q1]? = some (.cells (madeCells zero5 (250 * 5)) 41 (0, 0))) (h2 : W.heap[q2]? = some (.cells (madeCells #[.slice none 0 0] 250) 23 (0, 0))) (h3 : W.heap[q3]? = some (.cells (madeCells #[.bool false] 250) 4 (0, 0))) :
    BoxM (W.setRow q #[.slice (some ⟨q1, 0, none⟩) 250 250, .slice none 0 0, .slice (some ⟨q2, 0, none⟩) 250 250, .slice (some ⟨q3, 0, none⟩) 250 250, .bool false]) q (zA 250 q1 q2 q3) (zM 250) ∧ MAt (W.setRow q #[.slice (some ⟨q1, 0, none⟩) 250 250, .slice none 0 0, .slice (some ⟨q2, 0, none⟩) 250 250, .slice (some ⟨q3, 0, none⟩) 250 250, .bool false]) (zA 250 q1 q2 q3) (zM 250) := by
  have hne : ∀ k cs t, W.heap[k]? = some (.cells cs t (0, 0)) → t ≠ 27 → k ≠ q := fun k cs t hk ht e => by
    rw [e, hq] at hk
    injection hk with hk
    injection hk with _ h
    exact ht h.symm
  refine ⟨⟨by rw [setRow_heap W _ _ _ _ _ hq, mc_zero]⟩, zero_mat 250 q1 q2 q3 _ ?_ ?_ ?_⟩
  · rw [setRow_other _ _ _ _ (hne _ _ _ h1 (by decide))]; exact h1
  · rw [setRow_other _ _ _ _ (hne _ _ _ h2 (by decide))]; exact h2
  · rw [setRow_other _ _ _ _ (hne _ _ _ h3 (by decide))]; exact h3
end Nk
end Go.Proofs.YtlbaecjmfgahgaaDoor
