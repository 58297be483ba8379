/- Several texts in one. -/
import Derived.Test.YtipghpljaiemmaaDoorPq45
import Derived.Test.YtipghpljaiemmaaDoorPq19
import Derived.Test.YtipghpljaiemmaaDoorPq34
import Derived.Test.YtipghpljaiemmaaDoorPq02
import Derived.Laws.IdiomStrings
import Derived.Lib.ConvBytes
import Derived.Test.YtipghpljaiemmaaDoorPq14
namespace Go.Proofs.YtipghpljaiemmaaDoor
open Go.RowKit Sets Nf Cls Df DfK DfR
theorem u8s_app (D E : List Nat) : u8s (D ++ E) = u8s D ++ u8s E := List.map_append
theorem u8s_ones (L : List Nat) : ∀ u ∈ u8s L, u.oneCell' = true := by
  intro u hu
  unfold u8s at hu
  obtain ⟨c, -, rfl⟩ := List.mem_map.1 hu
  rfl
theorem bytesAt_cell {w : World} {ad : Addr} {cap : Nat} {L : List Nat} (h : BytesAt w (.slice (some ad) L.length cap) L) (j : Nat) (u : Value) (hj : (u8s L)[j]? = some u) : w.cell? (ad.add j) = some u := by
  obtain ⟨-, -, a, cap', e, hc⟩ := h
  injection e with e _ _
  have hl := (List.getElem?_eq_some_iff.1 hj).1
  unfold u8s at hl hj
  rw [List.length_map] at hl
  obtain ⟨b, o, e2, hq⟩ := hc j hl
  rw [← e] at e2
  injection e2 with e2
  subst e2
  rw [Addr.add_lit, hq, ← hj, List.getElem?_map, List.getElem?_eq_getElem hl, List.getD_eq_getElem?_getD, List.getElem?_eq_getElem hl]; rfl
theorem run_append_bytes (w : World) (base : Nat) (ty : TypeId) (v x : Value) (D L : List Nat) (hown : w.ownsRow base 5 1 v D.length (u8s D)) (hin : BytesAt w x L) (hb : D.length + L.length ≤ 1000) (hbase : base ≤ w.heap.size) :
    ∃ v' w', (Builtin.append_ #[42, 42] ty #[v, x]).run Tryd.prog w = .ok v' w' ∧ w'.ownsRow base 5 1 v' (D ++ L).length (u8s (D ++ L)) ∧ Below base w w' := by
  obtain ⟨i0, hi, hz0, hz1, hz2⟩ := info_parts infoB
  have hin' := hin
  obtain ⟨-, -, a, cap, rfl, hc⟩ := hin'
  cases a with
  | some ad =>
    obtain ⟨v', w', hr, h1, h2, -⟩ := run_append_own (P := Tryd.prog) w base 42 ty 5 i0 _ 1 1 Tryd.underlying42 hi hz0 hz1 hz2 rfl (by decide) v D.length (u8s D) hown ad L.length cap (u8s L) (by unfold u8s; rw [List.length_map]; omega) (bytesAt_cell hin) (u8s_ones L) (by unfold maxLen; omega) (by omega) hbase
    refine ⟨v', w', hr, ?_, (Below.refl _ _).grown h2 hbase (fun j hj => (hown.lt j hj).1)⟩
    rw [u8s_app, List.length_append]
    exact h1
  | none =>
    have hL : L = [] := by
      cases L with
      | nil => rfl
      | cons S L => obtain ⟨b, o, e, -⟩ := hc 0 (by simp); cases e
    subst hL
    refine ⟨v, w, ?_, by rw [List.append_nil]; exact hown, Below.refl _ _⟩
    obtain ⟨base', cap', rfl, hcap⟩ := owns_slice hown
    have hle : D.length + 0 ≤ cap' := hcap
    cases base' <;> simp [Builtin.append_, run_underlying Tryd.underlying42, sizeOf, typeInfo, hi, Builtin.lenOf, Builtin.firstCells, loadCells, hcap, storeCells]
theorem wpList_append_bytes {ops : Array Oper} {rest : List Oper} {o : Oper} {a : Act} {w : World} {Q : Exit → Act → World → Prop} (hgd : o.guard = none) (s x : Operand)
    (ho : o.op = .call { callee := .builtin .append, args := #[s, x], argTypes := #[42, 42] }) (base : Nat) (D L : List Nat)
    (hown : w.ownsRow base 5 1 (a.eval s) D.length (u8s D)) (hin : BytesAt w (a.eval x) L) (hb : D.length + L.length ≤ 1000) (hbase : base ≤ w.heap.size)
    (h : ∀ v' w', w'.ownsRow base 5 1 v' (D ++ L).length (u8s (D ++ L)) → Below base w w' → wpList Tryd.prog ops Q rest (a.put o.dst v') w') : wpList Tryd.prog ops Q (o :: rest) a w :=
  wpList_plain hgd fun _ hK => by
    obtain ⟨v', w', hr, h1, h2⟩ := run_append_bytes w base o.type _ _ D L hown hin hb hbase
    unfold Oper.wp execOp
    simp only [ho, resolve, invoke, builtin, Sem.run_bind, Sem.run_pure, Result.andThen_ok, List.map_toArray, List.map_cons, List.map_nil, hr]
    exact hK _ _ (h v' w' h1 h2)
namespace Df
/-- The least byte of a class. -/
def lead (of : Nat → Nat) (j : Nat) : Nat := (listN (clsSet of 256 j)).headD 0
theorem lead_spec (of : Nat → Nat) (j c : Nat) (hc : c < 256) (h : of c = j) : lead of j < 256 ∧ of (lead of j) = j ∧ (listN (clsSet of 256 j)).take 1 = [lead of j] := by
  have hm : c ∈ listN (clsSet of 256 j) := (mem_listN _ _).2 ⟨hc, by rw [clsSet_bit, h, decide_eq_true hc]; simp⟩
  unfold lead
  cases hl : listN (clsSet of 256 j) with
  | nil => rw [hl] at hm; cases hm
  | cons b l =>
    have hb : b ∈ listN (clsSet of 256 j) := by rw [hl]; exact List.mem_cons_self ..
    obtain ⟨h1, h2⟩ := (mem_listN _ _).1 hb
    rw [clsSet_bit] at h2
    simp only [Bool.and_eq_true, beq_iff_eq] at h2
    exact ⟨h1, h2.2, rfl⟩
def leads (of : Nat → Nat) (n : Nat) : List Nat := (List.range n).map (lead of)
theorem leads_len (of : Nat → Nat) (n : Nat) : (leads of n).length = n := by simp [leads]
theorem leads_succ (of : Nat → Nat) (n : Nat) : leads of (n + 1) = leads of n ++ [lead of n] := by unfold leads; rw [List.range_succ, List.map_append]; rfl
theorem leads_get (of : Nat → Nat) (n j : Nat) (h : j < n) : (leads of n).getD j 0 = lead of j := by unfold leads; rw [List.getD_eq_getElem?_getD]; simp [h]
set_option maxHeartbeats 12800000 in
set_option maxRecDepth 100000 in
theorem dleast_any (of : Nat → Nat) (n : Nat) (w : World) (hn : n ≤ 256) (hof : ∀ c, c < 256 → of c < n) (hex : ∀ j, j < n → ∃ c, c < 256 ∧ of c = j) (hr : prightB of n = true) (hT : Tab w) :
    Calls Tryd.prog 17 #[.agg (partC of n)] w fun e w' => ∃ v, e = .returned v ∧ BytesAt w' v (leads of n) ∧ Below w.heap.size w w' := by
  have HG : Hid (0 < w.heap.size) := Lib.hid (World.block_lt_of_cell? _ _ (hT 0 (by decide)))
  have HT := Lib.hid hT
  have HEX := Lib.hid hex
  have HN := Lib.hid hn
  clear hT hex
  go_enter Tryd.func17, Tryd.ntmps17
  go_upto_region 2 with fail
  have hP : PartAt (w.alloc (.cells (partC of n) 30)) w.heap.size of n := PartAt.new w of n
  have HB1 : Hid (Below w.heap.size w (w.alloc (.cells (partC of n) 30))) := Lib.hid ((Below.refl _ _).alloc (Nat.le_refl _) _)
  have hT1 := HT.out.below HB1.out HG.out
  have HLE := Lib.hid (least_any of n 1 (w.alloc (.cells (partC of n) 30)) hn hof hr hT1 (Nat.lt_of_lt_of_le HG.out HB1.out.size))
  generalize w.alloc (.cells (partC of n) 30) = w1 at *
  go_upto_region 3 with (first
    | (refine wpList_load_row rfl 30 _ rfl w.heap.size rfl 30 (partC of n) (0, 0) _ hP Tryd.underlying30 rfl (sizeP of n) ?_)
    | (go_at_call 48; refine HLE.out.mono ?_; rintro e w2 ⟨g, rfl, hg2, hrow, hb2⟩; have HR2 := Lib.hid hrow; have HB2 := Lib.hid (HB1.out.trans (hb2.mono HB1.out.size)); clear hrow hb2))
  clear HLE hP hT1 HB1
  have HO2 : Hid (w2.ownsRow w2.heap.size 5 1 (.slice none 0 0) 0 (u8s (leads of 0))) := Lib.hid (World.ownsRow_nil _ _ _ _)
  obtain ⟨q, hq⟩ : ∃ q, Hid (w2.heap.size = q) := ⟨_, Lib.hid rfl⟩
  have HQ : Hid (∀ W, Below q w2 W → BytesRow W g (List.map (fun j => List.take (Int.toNat 1) (listN (clsSet of 256 j))) (List.range n))) := Lib.hid (fun W h => HR2.out.kept (by rw [hq.out]; exact h))
  have HB3 : Hid (Below q w2 w2) := Lib.hid (Below.refl _ _)
  have HW : Hid (w.heap.size ≤ q) := Lib.hid (by rw [← hq.out]; exact HB2.out.size)
  have HS2 : Hid (q ≤ w2.heap.size) := Lib.hid (Nat.le_of_eq hq.out.symm)
  rw [hq.out] at HO2
  clear hq hg2
  clear w1
  go_upto_region 4 with fail
  go_loopw [3, 5] (fun v i wr => ∃ j : Nat, i = .int .i64 j ∧ j ≤ n ∧ Hid (wr.ownsRow q 5 1 v j (u8s (leads of j))) ∧ Hid (Below q w2 wr) ∧ Hid (Below w.heap.size w wr) ∧ Hid (q ≤ wr.heap.size)) (fun v i _ => ((n : Int) - intOf i).toNat)
  case atStart => exact ⟨0, rfl, Nat.zero_le _, HO2, HB3, HB2, HS2⟩
  case round =>
    obtain ⟨j, rfl, hj, HO, HR, HB, HSZ⟩ := hrel
    generalize hwr : wr = w3 at *
    clear hwr wr HO2 HR2 HB2 HB3 HS2
    by_cases hlt : j < n
    · have hdd : decide ((j : Int) < (n : Int)) = true := decide_eq_true (by omega)
      have hd2 : decide (j < n) = true := decide_eq_true hlt
      have hjn : (j : Int) < (n : Int) := by omega
      obtain ⟨v, hv, hby⟩ := (HQ.out _ HR.out).at j (by simpa using hlt)
      obtain ⟨c, hc, hcj⟩ := HEX.out j hlt
      rw [show (List.map (fun j => List.take (Int.toNat 1) (listN (clsSet of 256 j))) (List.range n)).getD j [] = [lead of j] from by
        rw [List.getD_eq_getElem?_getD]; simp [hlt]; exact (lead_spec of j c hc hcj).2.2] at hby
      have HBY := Lib.hid hby
      have HW1 : Hid (wrap64 ((j : Int) + 1) = ((j + 1 : Nat) : Int)) := Lib.hid (nat_wrap (by have := HN.out; omega))
      clear hby hcj hc
      go_upto_region 5 with (first
        | (refine wpList_append_bytes rfl (.tmp 14) (.tmp 18) rfl q (leads of j) [lead of j] (by rw [leads_len]; exact HO.out) HBY.out (by rw [leads_len]; have := HN.out; simp; omega) HSZ.out ?_; intro v2 w4 ho4 hb4))
      have HO4 : Hid (w4.ownsRow q 5 1 v2 (j + 1) (u8s (leads of (j + 1)))) := Lib.hid (by rw [leads_succ]; rw [List.length_append, leads_len] at ho4; exact ho4)
      have HR4 : Hid (Below q w2 w4) := Lib.hid (HR.out.trans hb4)
      have HB4 : Hid (Below w.heap.size w w4) := Lib.hid (HB.out.trans (hb4.mono HW.out))
      have HS4 : Hid (q ≤ w4.heap.size) := Lib.hid (Nat.le_trans HSZ.out hb4.size)
      clear ho4 hb4
      go_wp2_with fail
      go_roundw
      case rel => exact ⟨j + 1, by simp, hlt, HO4, HR4, HB4, HS4⟩
      case measure => exact meas9 hlt
    · have hdd : decide ((j : Int) < (n : Int)) = false := decide_eq_false (by omega)
      have hd2 : decide (j < n) = false := decide_eq_false hlt
      obtain rfl : j = n := by omega
      have HF := Lib.hid (owns_bytes (l := leads of j) (by rw [leads_len]; exact HO.out) (fun x hx => by
        unfold leads at hx
        obtain ⟨k, hk, rfl⟩ := List.mem_map.1 hx
        obtain ⟨c, hc, hck⟩ := HEX.out k (by simpa using hk)
        exact (lead_spec of k c hc hck).1) (by rw [leads_len]; have := HN.out; unfold maxLen; omega))
      go_wp2_with fail
      go_ret
      exact ⟨_, rfl, HF.out, HB.out⟩
end Df
end Go.Proofs.YtipghpljaiemmaaDoor
namespace Go.Proofs.YtipghpljaiemmaaDoor
open Go.RowKit Sets
/-- The string of these bytes. -/
def strN (l : List Nat) : ByteArray := ⟨(l.map UInt8.ofNat).toArray⟩
theorem bytes_string {w : World} {v : Value} {l : List Nat} (h : BytesAt w v l) : (convert 42 9 v).run Tryd.prog w = .ok (.string (strN l)) w := by
  obtain ⟨hl, -, a, cap, rfl, hc⟩ := h
  by_cases h0 : l.length = 0
  · have hn : l = [] := List.length_eq_zero_iff.1 h0
    subst hn
    rw [run_convert_bytes_string w _ _ _ a _ cap Tryd.underlying42 Tryd.underlying5 Tryd.underlying9]
    cases a with
    | none => simp [Conv.bytesToString, strN]; rfl
    | some x =>
      exact run_bytesToString w x 0 cap [] rfl
  · obtain ⟨b, o, rfl, -⟩ := hc 0 (by omega)
    have := run_convert_bytes_back w _ _ _ ⟨b, o, none⟩ cap (l.map UInt8.ofNat) Tryd.underlying42 Tryd.underlying5 Tryd.underlying9 (fun j hj => by
      simp only [List.length_map] at hj
      obtain ⟨b', o', e, hq⟩ := hc j hj
      injection e with e
      injection e with e1 e2
      subst e1 e2
      rw [Addr.add_lit, hq]
      have hlt := hl _ (List.getElem_mem hj)
      rw [List.getD_eq_getElem?_getD, List.getElem?_eq_getElem hj, List.getElem_map, Option.getD_some]
      congr 2
      rw [UInt8.toNat_ofNat']
      omega)
    rw [List.length_map] at this
    exact this
end Go.Proofs.YtipghpljaiemmaaDoor
namespace Go.Proofs.YtipghpljaiemmaaDoor
open Go.RowKit Sets Nf Cls Df DfK DfR
namespace Df
theorem nh_onto (E : Nat → Nat → Bool) (hE : Eqv E) : ∀ b j, j < nh E b → ∃ c, c < b ∧ cls E c = j
  | 0, j, h => absurd h (Nat.not_lt_zero _)
  | b + 1, j, h => by
    cases hh : head E b with
    | false =>
      rw [nh_not E b hh] at h
      obtain ⟨c, h1, h2⟩ := nh_onto E hE b j h
      exact ⟨c, by omega, h2⟩
    | true =>
      rw [nh_head E b hh] at h
      by_cases e : j < nh E b
      · obtain ⟨c, h1, h2⟩ := nh_onto E hE b j e
        exact ⟨c, by omega, h2⟩
      · exact ⟨b, by omega, by rw [cls_head E hE b hh]; omega⟩
theorem takes_lead (d : Dm) (of : Nat → Nat) (hd : d.of = of) (l : List Nat) (hl : ∀ c ∈ l, c < 256) : takesD d (l.map fun c => lead of (of c)) = takesD d l := by
  unfold takesD
  congr 2
  generalize 0 = i
  induction l generalizing i with
  | nil => rfl
  | cons c l ih =>
    rw [List.map_cons, List.foldl_cons, List.foldl_cons]
    have h1 := (lead_spec of (of c) c (hl c (List.mem_cons_self ..)) rfl).2.1
    rw [show goD d i (lead of (of c)) = goD d i c from by unfold goD; rw [hd, h1]]
    exact ih (fun x hx => hl x (List.mem_cons_of_mem _ hx)) _
theorem bs_strN (l : List Nat) (hl : ∀ c ∈ l, c < 256) : Nf.bs (strN l) = l := by
  unfold Nf.bs strN
  simp only [List.map_map]
  conv => rhs; rw [← List.map_id l]
  apply List.map_congr_left
  intro c hc
  show (UInt8.ofNat c).toNat = c
  rw [UInt8.toNat_ofNat']
  have := hl c hc
  omega
theorem size_strN (l : List Nat) : (strN l).size = l.length := by unfold strN; simp [ByteArray.size]
/-- Block g holds these bytes, and they may be written. -/
def RwB (w : World) (g : Nat) (L : List Nat) : Prop := ∀ j, j < L.length → w.cell? ⟨g, j, none⟩ = some (.int .u8 (L.getD j 0 : Nat)) ∧ w.frozen? ⟨g, j, none⟩ = false
theorem RwB.set {w : World} {g : Nat} {L : List Nat} (h : RwB w g L) (k x : Nat) (hk : k < L.length) : RwB (w.setCell ⟨g, k, none⟩ (.int .u8 (x : Nat))) g (L.set k x) := by
  intro j hj
  rw [List.length_set] at hj
  obtain ⟨h1, h2⟩ := h j hj
  refine ⟨?_, by rw [World.frozen?_setCell]; exact h2⟩
  by_cases e : k = j
  · subst e
    rw [World.cell?_setCell_same (h := h1), List.getD_eq_getElem?_getD, List.getElem?_set_self hk, Option.getD_some]
  · rw [World.cell?_setCell_other (h := fun (e2 : (⟨g, k, none⟩ : Addr) = ⟨g, j, none⟩) => by injection e2 with _ e2; exact e e2), h1, List.getD_eq_getElem?_getD, List.getD_eq_getElem?_getD, List.getElem?_set_ne e]
theorem RwB.bytes {w : World} {g cap : Nat} {L : List Nat} (h : RwB w g L) (hl : ∀ c ∈ L, c < 256) (hm : L.length ≤ maxLen) : BytesAt w (.slice (some ⟨g, 0, none⟩) L.length cap) L :=
  ⟨hl, hm, _, cap, rfl, fun i hi => ⟨g, 0, rfl, by rw [Nat.zero_add]; exact (h i hi).1⟩⟩
/-- The text as far as it is changed. -/
def curB (f : Nat → Nat) (l : List Nat) (j : Nat) : List Nat := (l.take j).map f ++ l.drop j
theorem curB_zero (f : Nat → Nat) (l : List Nat) : curB f l 0 = l := rfl
theorem curB_all (f : Nat → Nat) (l : List Nat) : curB f l l.length = l.map f := by unfold curB; simp
theorem curB_len (f : Nat → Nat) (l : List Nat) (j : Nat) (h : j ≤ l.length) : (curB f l j).length = l.length := by unfold curB; simp; omega
theorem curB_get (f : Nat → Nat) (l : List Nat) (j : Nat) (h : j < l.length) : (curB f l j).getD j 0 = l.getD j 0 := by
  unfold curB
  rw [List.getD_eq_getElem?_getD, List.getElem?_append_right (by simp; omega), List.getElem?_drop, List.getD_eq_getElem?_getD]
  congr 2; simp; omega
theorem curB_succ (f : Nat → Nat) (l : List Nat) (j : Nat) (h : j < l.length) : curB f l (j + 1) = (curB f l j).set j (f (l.getD j 0)) := by
  unfold curB
  have h1 : ((l.take j).map f).length = j := by simp; omega
  rw [List.set_append_right _ _ (by omega), h1, Nat.sub_self, List.take_succ_eq_append_getElem h, List.map_append, List.append_assoc]
  congr 1
  rw [List.drop_eq_getElem_cons h, List.getD_eq_getElem?_getD, List.getElem?_eq_getElem h]; rfl
/-- []byte(s): a new row. -/
theorem convB (s : ByteArray) (w : World) : ∃ cap w1, (convert 9 42 (.string s)).run Tryd.prog w = .ok (.slice (some ⟨w.heap.size, 0, none⟩) s.size cap) w1 ∧ RwB w1 w.heap.size (Nf.bs s) ∧ Below w.heap.size w w1 ∧ w.heap.size < w1.heap.size := by
  have h1 := Lib.run_convert_string_bytes (P := Tryd.prog) w 9 42 5 s Tryd.underlying9 Tryd.underlying42 Tryd.underlying5
  refine ⟨_, _, h1, ?_, ?_, ?_⟩
  rotate_left
  · exact ⟨rfl, rfl, rfl, by rw [Lib.bytesWorld_size]; omega, fun k hk => Lib.bytesWorld_at_old w _ s k hk⟩
  · rw [Lib.bytesWorld_size]; omega
  intro j hj
  rw [Nf.bs_len] at hj
  rw [Lib.bytesWorld_cell w _ s j hj]
  refine ⟨?_, ?_⟩
  · have : (Nf.bs s).getD j 0 = (s.data.toList.getD j 0).toNat := by
      unfold Nf.bs
      have h2 : j < s.data.toList.length := hj
      rw [List.getD_eq_getElem?_getD, List.getD_eq_getElem?_getD, List.getElem?_map, List.getElem?_eq_getElem h2]; rfl
    rw [this]
  · have hc : j < (Lib.bytesCells w 5 s).size := by
      unfold Lib.bytesCells; rw [Array.size_append, Array.size_map]
      have : s.data.size = s.size := rfl
      omega
    unfold World.frozen?
    rw [Lib.bytesWorld_at_new]
    simp; omega
end Df
end Go.Proofs.YtipghpljaiemmaaDoor
namespace Go.Proofs.YtipghpljaiemmaaDoor
open Go.RowKit Sets Nf
namespace Nf
/-- two numbers of one kind, two truths; else the same -/
def lk (a b : Value) : Prop := a = b ∨ (∃ k x y, a = .int k x ∧ b = .int k y) ∨ (∃ x y, a = .bool x ∧ b = .bool y)
theorem lk_trans {a b c : Value} (h : lk a b) (g : lk b c) : lk a c := by
  rcases h with rfl | ⟨k, x, y, rfl, rfl⟩ | ⟨x, y, rfl, rfl⟩
  · exact g
  · rcases g with rfl | ⟨k2, x2, y2, e, rfl⟩ | ⟨x2, y2, e, rfl⟩
    · exact .inr (.inl ⟨_, _, _, rfl, rfl⟩)
    · cases e; exact .inr (.inl ⟨_, _, _, rfl, rfl⟩)
    · cases e
  · rcases g with rfl | ⟨k2, x2, y2, e, rfl⟩ | ⟨x2, y2, e, rfl⟩
    · exact .inr (.inr ⟨_, _, rfl, rfl⟩)
    · cases e
    · exact .inr (.inr ⟨_, _, rfl, rfl⟩)
def Sim (w w' : World) : Prop := ∀ (k : Nat) (cs : Array Value) (t : TypeId), w.heap[k]? = some (.cells cs t (0, 0)) → ∃ cs' : Array Value, w'.heap[k]? = some (.cells cs' t (0, 0)) ∧ ∀ (i : Nat) (v : Value), cs[i]? = some v → ∃ v', cs'[i]? = some v' ∧ lk v v'
theorem Sim.refl (w : World) : Sim w w := fun _ cs _ h => ⟨cs, h, fun _ v hv => ⟨v, hv, .inl rfl⟩⟩
theorem Sim.drew {w w' : World} (h : Sim w w') (n : Nat) : Sim w (w'.drewN n) := fun k cs t hk => h k cs t hk
theorem Sim.set {w W : World} (h : Sim w W) {g j : Nat} {cs : Array Value} {t : TypeId} {u v : Value} (hg : w.heap[g]? = some (.cells cs t (0, 0))) (hu : cs[j]? = some u) (hl : lk u v) : Sim w (W.setCell ⟨g, j, none⟩ v) := by
  intro k c2 t2 hk
  by_cases e : k = g
  · subst e
    obtain ⟨cs', h1, h2⟩ := h k c2 t2 hk
    rw [hg] at hk
    injection hk with hk
    injection hk with e1 e2
    subst e1 e2
    refine ⟨cs'.setIfInBounds j v, heap_setCell_same _ _ _ _ _ _ h1, fun i x hx => ?_⟩
    rw [Array.getElem?_setIfInBounds]
    by_cases e2 : j = i
    · subst e2
      obtain ⟨x', h3, -⟩ := h2 j x hx
      rw [if_pos rfl, if_pos (Array.getElem?_eq_some_iff.1 h3).1]
      rw [hu] at hx
      injection hx with hx
      subst hx
      exact ⟨v, rfl, hl⟩
    · rw [if_neg e2]; exact h2 i x hx
  · rw [Below.heap_setCell W ⟨g, j, none⟩ v k e]
    exact h k c2 t2 hk
theorem frozen_of_row {w : World} {b i : Nat} {cs : Array Value} {t : TypeId} (h : w.heap[b]? = some (.cells cs t (0, 0))) : w.frozen? ⟨b, i, none⟩ = false := by
  simp [World.frozen?, h]
/-- the slices of a machine stay -/
theorem Sim.slice {w W : World} (h : Sim w W) {b i : Nat} {cs : Array Value} {t : TypeId} {a : Option Addr} {n c : Nat} (hb : w.heap[b]? = some (.cells cs t (0, 0))) (hi : cs[i]? = some (.slice a n c)) : W.cell? ⟨b, i, none⟩ = some (.slice a n c) := by
  obtain ⟨cs', h1, h2⟩ := h b cs t hb
  obtain ⟨v', h3, h4⟩ := h2 i _ hi
  rw [cell_of_row W b i _ _ _ h1, h3]
  rcases h4 with rfl | ⟨k, x, y, e, -⟩ | ⟨x, y, e, -⟩
  · rfl
  · cases e
  · cases e
/-- a cell of a row of the machine's own -/
theorem Sim.own {w W : World} (h : Sim w W) {B size n c : Nat} {e : TypeId} {a : Option Addr} {xs : List Value} (ho : w.ownsRow B e size (.slice a n c) n xs) {j : Nat} {u : Value} (hu : xs[j]? = some u) :
    ∃ g u', a = some ⟨g, 0, none⟩ ∧ B ≤ g ∧ lk u u' ∧ W.cell? ⟨g, j, none⟩ = some u' ∧ W.frozen? ⟨g, j, none⟩ = false ∧ ∀ v2, lk u v2 → Sim w (W.setCell ⟨g, j, none⟩ v2) := by
  rcases ho.2 with ⟨h1, h2⟩ | ⟨g, cap, cur, h1, h2, h3, h4, h5, h6, h7⟩
  · have := ho.1
    rw [h2, Nat.zero_mul, List.length_eq_zero_iff] at this
    rw [this] at hu
    cases hu
  · injection h1 with h1
    subst h1
    have hcu : cur[j]? = some u := by
      rw [← h7, List.getElem?_take] at hu
      split at hu
      · rwa [Array.getElem?_toList] at hu
      · cases hu
    obtain ⟨cs', k1, k2⟩ := h g cur e h3
    obtain ⟨u', k3, k4⟩ := k2 j u hcu
    exact ⟨g, u', rfl, h2, k4, by rw [cell_of_row W g j _ _ _ k1, k3], frozen_of_row k1, fun v2 hl => h.set h3 hcu hl⟩
theorem lk_int {k : IntKind} {x : Int} {v : Value} (h : lk (.int k x) v) : ∃ y, v = .int k y := by
  rcases h with rfl | ⟨k, x, y, e, rfl⟩ | ⟨x, y, e, -⟩
  · exact ⟨_, rfl⟩
  · cases e; exact ⟨_, rfl⟩
  · cases e
theorem lk_bool {x : Bool} {v : Value} (h : lk (.bool x) v) : ∃ y, v = .bool y := by
  rcases h with rfl | ⟨k, x, y, e, -⟩ | ⟨x, y, e, rfl⟩
  · exact ⟨_, rfl⟩
  · cases e
  · exact ⟨_, rfl⟩
theorem lk_slice {a : Option Addr} {n c : Nat} {v : Value} (h : lk (.slice a n c) v) : v = .slice a n c := by
  rcases h with rfl | ⟨k, x, y, e, -⟩ | ⟨x, y, e, -⟩
  · rfl
  · cases e
  · cases e
/-- What holds while a law stores into memory of its own. -/
structure OvI (W0 wD : World) (D : Nat) (W : World) : Prop where
  sim : Sim W0 W
  low : Below D wD W
theorem OvI.num {W0 wD W : World} {D B c : Nat} {a : Option Addr} {l : List Int} (h : OvI W0 wD D W) (ho : OwnN B W0 (.slice a l.length c) l) (hB : D ≤ B) {j : Nat} (hj : j < l.length) :
    ∃ g v, a = some ⟨g, 0, none⟩ ∧ W.cell? ⟨g, j, none⟩ = some (.int .i64 v) ∧ W.frozen? ⟨g, j, none⟩ = false ∧ ∀ v2, OvI W0 wD D (W.setCell ⟨g, j, none⟩ (.int .i64 v2)) := by
  obtain ⟨g, u', e, h1, h2, h3, h4, h5⟩ := h.sim.own ho (j := j) (u := .int .i64 l[j]) (by unfold is64; rw [List.getElem?_map, List.getElem?_eq_getElem hj]; rfl)
  obtain ⟨y, rfl⟩ := lk_int h2
  exact ⟨g, y, e, h3, h4, fun v2 => ⟨h5 _ (.inr (.inl ⟨_, _, _, rfl, rfl⟩)), h.low.setCell (by show D ≤ g; omega) _⟩⟩
theorem OvI.flag {W0 wD W : World} {D B c : Nat} {a : Option Addr} {l : List Bool} (h : OvI W0 wD D W) (ho : W0.ownsRow B 4 1 (.slice a l.length c) l.length (bL l)) (hB : D ≤ B) {j : Nat} (hj : j < l.length) :
    ∃ g v, a = some ⟨g, 0, none⟩ ∧ W.cell? ⟨g, j, none⟩ = some (.bool v) ∧ W.frozen? ⟨g, j, none⟩ = false ∧ ∀ v2, OvI W0 wD D (W.setCell ⟨g, j, none⟩ (.bool v2)) := by
  obtain ⟨g, u', e, h1, h2, h3, h4, h5⟩ := h.sim.own ho (j := j) (u := .bool (l.getD j false)) (bL_get _ _ hj)
  obtain ⟨y, rfl⟩ := lk_bool h2
  exact ⟨g, y, e, h3, h4, fun v2 => ⟨h5 _ (.inr (.inr ⟨_, _, rfl, rfl⟩)), h.low.setCell (by show D ≤ g; omega) _⟩⟩
theorem OvI.drew {W0 wD W : World} {D : Nat} (h : OvI W0 wD D W) (n : Nat) : OvI W0 wD D (W.drewN n) := ⟨h.sim.drew n, below_drewN h.low n⟩
end Nf
end Go.Proofs.YtipghpljaiemmaaDoor
