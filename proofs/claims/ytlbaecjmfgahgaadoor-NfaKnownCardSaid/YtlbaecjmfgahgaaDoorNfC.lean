/- turned. -/
import Derived.Test.YtlbaecjmfgahgaaDoorNfB
import Derived.Test.YtlbaecjmfgahgaaDoorNf4
namespace Go.Proofs.YtlbaecjmfgahgaaDoor
open Go.RowKit Sets Nf
namespace Nf
/-- A row of lists in the making: block A holds their slices, each in memory of its own. -/
structure TnI (w0 : World) (A n : Nat) (vs : Nat → Value) (ls : Nat → List Int) (w : World) : Prop where
  row : w.rowIs A 23 n vs
  own : ∀ j, j < n → OwnN w0.heap.size w (vs j) (ls j)
  apart : ∀ i j, i < n → j < n → i ≠ j → ∀ g, (vs i).ownBlock = some g → (vs j).ownBlock ≠ some g
  notA : ∀ j, j < n → (vs j).ownBlock ≠ some A
  low : w0.heap.size ≤ A
  below : Below w0.heap.size w0 w
theorem TnI.push {w0 w w' : World} {A n : Nat} {vs : Nat → Value} {ls ls' : Nat → List Int} (h : TnI w0 A n vs ls w) {j0 : Nat} (hj : j0 < n) {v' : Value} {k : Int}
    (ho : OwnN w0.heap.size w' v' (ls j0 ++ [k])) (hb : Below w0.heap.size w w') (ha : Ap w (vs j0) w' v') (h1 : ls' j0 = ls j0 ++ [k]) (h2 : ∀ j, j < n → j ≠ j0 → ls' j = ls j) :
    TnI w0 A n (fun j => if j = j0 then v' else vs j) ls' (w'.setCell ⟨A, j0, none⟩ v') := by
  have hA : A < w.heap.size := World.rowIs.lt h.row
  have hrow : w'.rowIs A 23 n vs := World.rowIs.of_block h.row (ha.block A hA (h.notA j0 hj))
  have hnA : v'.ownBlock ≠ some A := fun e => by
    rcases ha.own A e with h3 | h3
    · exact h.notA j0 hj h3
    · omega
  have hset : ∀ g, g ≠ A → (w'.setCell ⟨A, j0, none⟩ v').heap[g]? = w'.heap[g]? := fun g hg => Below.heap_setCell w' ⟨A, j0, none⟩ v' g hg
  refine ⟨World.rowIs.set hrow j0 v', fun j hjn => ?_, fun i j hi hjn hne g hg => ?_, fun j hjn => ?_, h.low, ?_⟩
  · by_cases e : j = j0
    · subst e
      show OwnN _ _ (if j = j then v' else vs j) _
      rw [if_pos rfl, h1]
      exact own_kept ho fun g hg => hset g (fun e => hnA (by rw [hg, e]))
    · show OwnN _ _ (if j = j0 then v' else vs j) _
      rw [if_neg e, h2 j hjn e]
      have h3 := h.own j hjn
      refine own_kept (w := w) h3 fun g hg => ?_
      rw [hset g (fun e2 => h.notA j hjn (by rw [hg, e2]))]
      exact ha.block g (h3.lt g hg).2 (fun e2 => h.apart j j0 hjn hj e g hg e2)
  · have hfresh : ∀ q, q < n → q ≠ j0 → ∀ x, (vs q).ownBlock = some x → v'.ownBlock ≠ some x := fun q hq hne x hx e => by
      rcases ha.own x e with h3 | h3
      · exact h.apart q j0 hq hj hne x hx h3
      · have := ((h.own q hq).lt x hx).2; omega
    by_cases ei : i = j0
    · subst ei
      have ej : ¬ j = i := fun e => hne e.symm
      simp only [if_true] at hg
      show (if j = i then v' else vs j).ownBlock ≠ _
      rw [if_neg ej]
      exact fun e => hfresh j hjn ej g e hg
    · simp only [if_neg ei] at hg
      show (if j = j0 then v' else vs j).ownBlock ≠ _
      by_cases ej : j = j0
      · rw [if_pos ej]; exact hfresh i hi ei g hg
      · rw [if_neg ej]; exact h.apart i j hi hjn hne g hg
  · show (if j = j0 then v' else vs j).ownBlock ≠ _
    by_cases e : j = j0
    · rw [if_pos e]; exact hnA
    · rw [if_neg e]; exact h.notA j hjn
  · exact (h.below.trans hb).setCell h.low v'
theorem TnI.congr {w0 w : World} {A n : Nat} {vs : Nat → Value} {ls ls' : Nat → List Int} (h : TnI w0 A n vs ls w) (e : ∀ j, j < n → ls' j = ls j) : TnI w0 A n vs ls' w :=
  ⟨h.row, fun j hj => by rw [e j hj]; exact h.own j hj, h.apart, h.notA, h.low, h.below⟩
theorem TnI.lists {w0 w : World} {A n : Nat} {vs : Nat → Value} {ls : Nat → List Int} (h : TnI w0 A n vs ls w) : ListsIn w (some ⟨A, 0, none⟩) ((List.range n).map ls) := by
  intro i hi
  rw [List.length_map, List.length_range] at hi
  have hg : ((List.range n).map ls).getD i [] = ls i := by rw [List.getD_eq_getElem?_getD, List.getElem?_map, List.getElem?_range hi]; rfl
  rw [hg]
  obtain ⟨a, c, e, hn⟩ := (h.own i hi).nums
  refine ⟨A, 0, a, c, rfl, ?_, hn⟩
  rw [Nat.zero_add, World.rowIs.cell h.row hi, e]
theorem infoIs : (Tryd.prog.info? 23).map (fun i => (i.zero, i.size, i.bytes)) = some (some (.slice none 0 0), 1, 24) := by kernel_rfl
theorem TnI.new (w : World) (n : Nat) : TnI w w.heap.size n (fun _ => .slice none 0 0) (fun _ => []) (w.alloc (.cells (madeCells #[.slice none 0 0] n) 23)) :=
  ⟨World.rowIs_made w _ n _, fun _ _ => OwnN.nil _ _, fun _ _ _ _ _ g hg => (by cases hg), fun _ _ h => (by cases h), Nat.le_refl _, (Below.refl _ _).alloc (Nat.le_refl _) _⟩
/-- what stands at j behind i whole lists, and p numbers of the next -/
def tnL (L : List (List Int)) (i p j : Nat) : List Int := (((List.range i).filter fun k => (L.getD k []).contains (j : Int)).map fun (k : Nat) => (k : Int)) ++ (if ((L.getD i []).take p).contains (j : Int) then [(i : Int)] else [])
theorem tnL_zero (L : List (List Int)) (j : Nat) : tnL L 0 0 j = [] := by simp [tnL]
theorem tnL_next (L : List (List Int)) (i j : Nat) : tnL L i (L.getD i []).length j = tnL L (i + 1) 0 j := by
  unfold tnL
  rw [List.take_length, List.take_zero, List.range_succ, List.filter_append, List.map_append, List.filter_cons, List.filter_nil]
  cases (L.getD i []).contains (j : Int) <;> simp
theorem tnL_all (L : List (List Int)) (j : Nat) : tnL L L.length 0 j = turnL L j := by
  unfold tnL turnL
  simp
theorem tnL_other (L : List (List Int)) (i p j : Nat) (hp : p < (L.getD i []).length) (hne : (L.getD i []).getD p 0 ≠ (j : Int)) : tnL L i (p + 1) j = tnL L i p j := by
  unfold tnL
  congr 1
  have : ((L.getD i []).take (p + 1)).contains (j : Int) = ((L.getD i []).take p).contains (j : Int) := by
    rw [List.take_succ_eq_append_getElem hp, Bool.eq_iff_iff, List.contains_iff_mem, List.contains_iff_mem, List.mem_append, List.mem_singleton]
    rw [List.getD_eq_getElem?_getD (i := p), List.getElem?_eq_getElem hp] at hne
    constructor
    · rintro (h | h)
      · exact h
      · exact absurd h.symm hne
    · exact .inl
  rw [this]
theorem tnL_here {n : Nat} (L : List (List Int)) (i p j : Nat) (hp : p < (L.getD i []).length) (he : (L.getD i []).getD p 0 = (j : Int)) (hr : rise n (L.getD i []) = true) : tnL L i (p + 1) j = tnL L i p j ++ [(i : Int)] := by
  unfold tnL
  have hpw := ((rise_iff _ _).1 hr).2
  rw [List.getD_eq_getElem?_getD (i := p), List.getElem?_eq_getElem hp] at he
  have h1 : ((L.getD i []).take (p + 1)).contains (j : Int) = true := by
    rw [List.take_succ_eq_append_getElem hp, List.contains_iff_mem, List.mem_append, List.mem_singleton]
    exact .inr he.symm
  have h2 : ((L.getD i []).take p).contains (j : Int) = false := by
    rw [Bool.eq_false_iff]
    intro h
    rw [List.contains_iff_mem] at h
    obtain ⟨q, hq, e⟩ := List.mem_iff_getElem.1 h
    rw [List.length_take] at hq
    rw [List.getElem_take] at e
    have := List.pairwise_iff_getElem.1 hpw q p (by omega) hp (by omega)
    rw [e] at this
    have h3 : (L.getD i [])[p] = (j : Int) := he
    omega
  rw [h1, h2]
  simp
set_option maxHeartbeats 6400000 in
set_option maxRecDepth 100000 in
theorem turned_any (a : Option Addr) (cap : Nat) (L : List (List Int)) (w : World) (h : ListsIn w a L) (hl : L.length ≤ 250) (hn : ∀ l ∈ L, rise L.length l = true) (hll : ∀ l ∈ L, l.length ≤ 1000) :
    Calls Tryd.prog 42 #[.slice a L.length cap] w fun e w' => ∃ A, e = .returned (.slice (some ⟨A, 0, none⟩) L.length L.length) ∧ ListsIn w' (some ⟨A, 0, none⟩) ((List.range L.length).map (turnL L)) ∧ Below w.heap.size w w' := by
  have HN := Lib.hid h
  have HL := Lib.hid hl
  have HK := Lib.hid hn
  have HKL := Lib.hid hll
  clear h hn hl hll
  go_enter Tryd.func42, Tryd.ntmps42
  obtain ⟨i0, hi0, hz0⟩ := Option.map_eq_some_iff.1 infoIs
  simp only [Prod.mk.injEq] at hz0
  have HI0 := Lib.hid hi0
  have HZ0 := Lib.hid hz0
  clear hi0 hz0
  go_upto_region 2 with (refine wpList_make_row _ rfl (.tmp 9) (.tmp 9) 24 rfl 23 i0 (.slice none 0 0) Tryd.underlying24 HI0.out HZ0.out.1 HZ0.out.2.1 rfl .i64 .i64 L.length rfl rfl (by rw [HZ0.out.2.2]; have := HL.out; omega) (by have := HL.out; omega) ?_)
  have HT := Lib.hid (TnI.new w L.length)
  generalize w.alloc (.cells (madeCells #[.slice none 0 0] L.length) 23) = w1 at *
  clear HI0 HZ0
  go_wp2_with fail
  go_loopw [13] (fun i wr => ∃ (k : Nat) (vs : Nat → Value), i = .int .i64 k ∧ k ≤ L.length ∧ Hid (TnI w w.heap.size L.length vs (tnL L k 0) wr)) (fun i _ => ((L.length : Int) - intOf i).toNat)
  case atStart => exact ⟨0, _, rfl, Nat.zero_le _, Lib.hid (HT.out.congr (fun j _ => tnL_zero L j))⟩
  case round =>
    obtain ⟨k, vs, rfl, hk, HI⟩ := hrel
    generalize hwr : wr = w2 at *
    clear hwr wr HT w1
    by_cases hlt : k < L.length
    · have hdd : decide ((k : Int) < (L.length : Int)) = true := decide_eq_true (by omega)
      have hd2 : decide (k < L.length) = true := decide_eq_true hlt
      obtain ⟨b, o, x, c, rfl, hc0, hn⟩ := HN.out k hlt
      have hc := (HI.out.below.cell (World.block_lt_of_cell? _ _ hc0)).trans hc0
      clear hc0
      have HX := Lib.hid (HK.out _ (getD_mem (d := []) hlt))
      have HXL := Lib.hid (HKL.out _ (getD_mem (d := []) hlt))
      have HW1 : Hid (wrap64 ((k : Int) + 1) = ((k + 1 : Nat) : Int)) := Lib.hid (by have := HL.out; unfold wrap64; omega)
      have HNX := Lib.hid (tnL_next L k)
      have HKK := Lib.hid hlt
      have HNl := Lib.hid hn
      clear hn
      have HO := Lib.hid (tnL_other L k)
      have HH := Lib.hid (fun p j hp he => tnL_here L k p j hp he HX.out)
      have hkL : (k : Int) < (L.length : Int) := by omega
      clear hlt
      generalize L.getD k [] = l at *
      go_wp2_with fail
      go_loopw [20] (fun i wr => ∃ (p : Nat) (vs : Nat → Value), i = .int .i64 p ∧ p ≤ l.length ∧ Hid (TnI w w.heap.size L.length vs (tnL L k p) wr)) (fun i _ => ((l.length : Int) - intOf i).toNat)
      case atStart => exact ⟨0, vs, rfl, Nat.zero_le _, HI⟩
      case round =>
        obtain ⟨p, vs2, rfl, hp, HI2⟩ := hrel
        generalize hwr : wr = w3 at *
        clear hwr wr
        by_cases hlt : p < l.length
        · have hdd : decide ((p : Int) < (l.length : Int)) = true := decide_eq_true (by omega)
          have hd2 : decide (p < l.length) = true := decide_eq_true hlt
          obtain ⟨b2, o2, rfl, hc3⟩ := (HNl.out.kept HI2.out.below) p hlt
          have HB := Lib.hid (((rise_iff _ _).1 HX.out).1 _ (getD_mem (d := 0) hlt))
          have HO2 := Lib.hid (fun j => HO.out p j hlt)
          have HH2 := Lib.hid (fun j => HH.out p j hlt)
          have HW2 : Hid (wrap64 ((p : Int) + 1) = ((p + 1 : Nat) : Int)) := Lib.hid (by have := HXL.out; unfold wrap64; omega)
          have HP := Lib.hid hlt
          clear hlt hc
          generalize l.getD p 0 = z at *
          obtain ⟨q, rfl⟩ := Int.eq_ofNat_of_zero_le HB.out.1
          have hq : q < L.length := by have := HB.out; omega
          have hqi : (q : Int) < (L.length : Int) := by omega
          have hca := World.rowIs.cell HI2.out.row hq
          have hfr := World.rowIs.frozen HI2.out.row q
          have HOW := Lib.hid (HI2.out.own q hq)
          have HQ := Lib.hid hq
          have HLN : Hid ((tnL L k p q).length ≤ 100000) := Lib.hid (by
            unfold tnL
            rw [List.length_append, List.length_map]
            have h1 := List.length_filter_le (fun k => (L.getD k []).contains (q : Int)) (List.range k)
            rw [List.length_range] at h1
            have h2 := HL.out
            have h3 : ∀ b : Bool, (if b = true then [(k : Int)] else []).length ≤ 1 := by intro b; cases b <;> simp
            have h4 := h3 (((L.getD k []).take p).contains (q : Int))
            omega)
          have HSZ : Hid (w.heap.size ≤ w3.heap.size) := Lib.hid HI2.out.below.size
          have hA : w.heap.size < w3.heap.size := World.rowIs.lt HI2.out.row
          clear hq
          obtain ⟨va, vc, hva⟩ : ∃ a c, Hid (vs2 q = .slice a (tnL L k p q).length c) := by
            obtain ⟨a, c, e, -⟩ := HOW.out.nums
            exact ⟨a, c, Lib.hid e⟩
          rw [hva.out] at hca
          go_wp2_with (refine wpList_pushN rfl (.tmp 29) (.tmp 31) rfl w.heap.size _ (tnL L k p q) k rfl (hva.out ▸ HOW.out) rfl HLN.out HSZ.out ?_; intro v' w4 ho4 hb4 ha4; obtain ⟨a9, c9, rfl, -⟩ := own_slice ho4; have HO4 := Lib.hid ho4; have HB4 := Lib.hid hb4; have HA4 := Lib.hid ha4; have hf4 := World.rowIs.frozen (World.rowIs.of_block HI2.out.row (ha4.block _ hA (by rw [← hva.out]; exact HI2.out.notA q HQ.out))) q; have hc4 := World.rowIs.cell (World.rowIs.of_block HI2.out.row (ha4.block _ hA (by rw [← hva.out]; exact HI2.out.notA q HQ.out))) HQ.out; clear ho4 hb4 ha4)
          have HTN := Lib.hid (HI2.out.push (ls' := tnL L k (p + 1)) HQ.out HO4.out HB4.out (by rw [hva.out]; exact HA4.out) (HH2.out q rfl) (fun j hj hne => HO2.out j (fun e => hne (by omega))))
          go_roundw
          case rel => exact ⟨p + 1, _, by rw [HW2.out], HP.out, Lib.hid (by have h := HTN.out; rw [List.length_append] at h; exact h)⟩
          case measure => rw [HW2.out]; exact meas9 HP.out
        · have hdd : decide ((p : Int) < (l.length : Int)) = false := decide_eq_false (by omega)
          have hd2 : decide (p < l.length) = false := decide_eq_false hlt
          have HE : Hid (p = l.length) := Lib.hid (by omega)
          rw [HE.out] at HI2
          clear hlt hc
          go_wp2_with fail
          go_roundw
          case rel => exact ⟨k + 1, vs2, by rw [HW1.out], HKK.out, Lib.hid (HI2.out.congr (fun j _ => (HNX.out j).symm))⟩
          case measure => rw [HW1.out]; exact meas9 HKK.out
    · have hdd : decide ((k : Int) < (L.length : Int)) = false := decide_eq_false (by omega)
      have hd2 : decide (k < L.length) = false := decide_eq_false hlt
      have HE : Hid (k = L.length) := Lib.hid (by omega)
      clear hlt
      go_wp2_with fail
      go_ret
      refine ⟨w.heap.size, rfl, ?_, HI.out.below⟩
      rw [HE.out] at HI
      have := (HI.out.congr (fun j _ => (tnL_all L j).symm)).lists
      exact this
end Nf
end Go.Proofs.YtlbaecjmfgahgaaDoor
