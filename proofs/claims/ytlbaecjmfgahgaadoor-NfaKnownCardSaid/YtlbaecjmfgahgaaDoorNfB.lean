/- Appends to slices of the call's own; left. -/
import Derived.Test.YtlbaecjmfgahgaaDoorNf3
import Derived.Test.YtlbaecjmfgahgaaDoorNfR
import Derived.Maps.AppendAt
import Derived.OwnWalk
namespace Go.Proofs.YtlbaecjmfgahgaaDoor
open Go.RowKit Sets Nf
namespace Nf
theorem own_kept {w w' : World} {base : Nat} {e : TypeId} {size : Nat} {v : Value} {n : Nat} {xs : List Value} (h : w.ownsRow base e size v n xs) (hk : ∀ g, v.ownBlock = some g → w'.heap[g]? = w.heap[g]?) : w'.ownsRow base e size v n xs := by
  obtain ⟨h1, h2⟩ := h
  refine ⟨h1, ?_⟩
  rcases h2 with h2 | ⟨g, cap, cur, h3, h4, h5, h6⟩
  · exact .inl h2
  · exact .inr ⟨g, cap, cur, h3, h4, by rw [hk g (by rw [h3]; rfl)]; exact h5, h6⟩
theorem own_slice {w : World} {base : Nat} {e : TypeId} {size : Nat} {v : Value} {n : Nat} {xs : List Value} (h : w.ownsRow base e size v n xs) : ∃ a c, v = .slice a n c ∧ (n = 0 ∨ ∃ g, a = some ⟨g, 0, none⟩ ∧ base ≤ g ∧ g < w.heap.size) := by
  rcases h.2 with ⟨h1, h2⟩ | ⟨g, cap, cur, h1, h3, h4, h2, -⟩
  · exact ⟨none, 0, by rw [h1, h2], .inl h2⟩
  · exact ⟨_, cap, h1, .inr ⟨g, rfl, h3, (Array.getElem?_eq_some_iff.1 h4).1⟩⟩
theorem own_stay {w w' : World} {base : Nat} {e : TypeId} {size : Nat} {v : Value} {n : Nat} {xs : List Value} (h : w.ownsRow base e size v n xs) (hb : Below w.heap.size w w') : w'.ownsRow base e size v n xs :=
  own_kept h fun g hg => hb.block g (h.lt g hg).2
theorem own_mono {w : World} {base base' : Nat} {e : TypeId} {size : Nat} {v : Value} {n : Nat} {xs : List Value} (h : w.ownsRow base e size v n xs) (hb : base' ≤ base) : w.ownsRow base' e size v n xs := by
  obtain ⟨h1, h2⟩ := h
  refine ⟨h1, ?_⟩
  rcases h2 with h2 | ⟨g, cap, cur, h3, h4, h5⟩
  · exact .inl h2
  · exact .inr ⟨g, cap, cur, h3, Nat.le_trans hb h4, h5⟩
/-- What an append onto v leaves of w: all but v's own block; and v' lies there, or is new. -/
structure Ap (w : World) (v : Value) (w' : World) (v' : Value) : Prop where
  size : w.heap.size ≤ w'.heap.size
  block : ∀ k, k < w.heap.size → v.ownBlock ≠ some k → w'.heap[k]? = w.heap[k]?
  own : ∀ g, v'.ownBlock = some g → v.ownBlock = some g ∨ w.heap.size ≤ g
theorem wpList_push {ops : Array Oper} {rest : List Oper} {o : Oper} {a : Act} {w : World} {Q : Exit → Act → World → Prop} (ts e : TypeId) (z : Value) (size bytes : Nat) (hu : Tryd.prog.underlying ts = some (.slice e))
    (hinfo : (Tryd.prog.info? e).map (fun i => (i.zero, i.size, i.bytes)) = some (some z, size, bytes)) (hzs : z.cells.size = size) (hsz : 0 < size) (hgd : o.guard = none) (s x : Operand)
    (ho : o.op = .call { callee := .builtin .append, args := #[s, x], argTypes := #[ts, ts] }) (B : Nat) (v : Value) (n : Nat) (xs : List Value) (hs : a.eval s = v)
    (hown : w.ownsRow B e size v n xs) (news : List Value) (cs : Array Value) (hcs : cs = news.toArray) (hl : news.length = size) (h1 : ∀ u ∈ news, u.oneCell' = true) (hx : a.eval x = .slice (some ⟨w.heap.size, 0, none⟩) 1 1) (hn : n ≤ 100000) (hb : bytes ≤ 1000) (hbase : B ≤ w.heap.size)
    (h : ∀ v' w', w'.ownsRow B e size v' (n + 1) (xs ++ news) → Below B w w' → Ap w v w' v' → wpList Tryd.prog ops Q rest (a.put o.dst v') w') :
    wpList Tryd.prog ops Q (o :: rest) a (w.alloc (.cells cs e)) := by
  subst hcs
  obtain ⟨i0, hi, hz0, hz1, hz2⟩ := info_parts hinfo
  have hmul : (n + 1) * bytes ≤ 100001 * 1000 := Nat.mul_le_mul (by omega) hb
  refine wpList_append_own_at _ hgd s x ts ho B e i0 z size bytes hu hi hz0 hz1 hz2 hzs hsz v _ _ hs (hown.alloc _) ⟨w.heap.size, 0, none⟩ 1 1 news hx (by rw [hl, Nat.one_mul]) ?_ h1 ?_ ?_ ?_ ?_
  · intro j u hj
    have e : (⟨w.heap.size, 0, none⟩ : Addr).add j = ⟨w.heap.size, 0 + j, none⟩ := by unfold Addr.add; split <;> simp_all
    rw [e, Nat.zero_add, World.cell?_alloc_new, List.getElem?_toArray]
    exact hj
  · unfold maxLen; omega
  · omega
  · simp; omega
  · intro v' w' h1 h2 _ h4
    refine h v' w' h1 (((Below.refl _ _).alloc hbase _).grown h2 (by simp; omega) (fun j hj => (hown.lt j hj).1)) ⟨?_, ?_, ?_⟩
    · have := h2.size; simp at this; omega
    · intro k hk hne
      rw [h2.block k (by simp; omega) (fun e => hne e.symm)]
      exact ((Below.refl w.heap.size w).alloc (Nat.le_refl _) _).block k hk
    · intro g hg
      rcases h4 with h4 | h4
      · exact .inl (by rw [← h4]; exact hg)
      · rw [h4] at hg
        simp at hg
        exact .inr (by omega)
def is64 (l : List Int) : List Value := l.map (Value.int .i64 ·)
theorem is64_append (l k : List Int) : is64 (l ++ k) = is64 l ++ is64 k := List.map_append
theorem is64_length (l : List Int) : (is64 l).length = l.length := List.length_map _
theorem infoInt : (Tryd.prog.info? 3).map (fun i => (i.zero, i.size, i.bytes)) = some (some (.int .i64 0), 1, 8) := by kernel_rfl
def OwnN (B : Nat) (w : World) (v : Value) (l : List Int) : Prop := w.ownsRow B 3 1 v l.length (is64 l)
theorem OwnN.nil (B : Nat) (w : World) : OwnN B w (.slice none 0 0) [] := World.ownsRow_nil _ _ _ _
theorem OwnN.nums {B : Nat} {w : World} {v : Value} {l : List Int} (h : OwnN B w v l) : ∃ a c, v = .slice a l.length c ∧ NumsIn w a l := by
  rcases h.2 with ⟨h1, h2⟩ | ⟨g, cap, cur, h1, -⟩
  · exact ⟨none, 0, by rw [h1, h2], fun i hi => by omega⟩
  · subst h1
    refine ⟨_, cap, rfl, fun i hi => ⟨g, 0, rfl, ?_⟩⟩
    rw [Nat.zero_add, World.ownsRow.cellAt h i (by omega)]
    unfold is64
    rw [List.getElem?_map, List.getElem?_eq_getElem hi, List.getD_eq_getElem?_getD, List.getElem?_eq_getElem hi]; rfl
/-- one more number -/
theorem wpList_pushN {ops : Array Oper} {rest : List Oper} {o : Oper} {a : Act} {w : World} {Q : Exit → Act → World → Prop} (hgd : o.guard = none) (s x : Operand)
    (ho : o.op = .call { callee := .builtin .append, args := #[s, x], argTypes := #[23, 23] }) (B : Nat) (v : Value) (l : List Int) (k : Int) (hs : a.eval s = v)
    (hown : OwnN B w v l) (hx : a.eval x = .slice (some ⟨w.heap.size, 0, none⟩) 1 1) (hn : l.length ≤ 100000) (hbase : B ≤ w.heap.size)
    (h : ∀ v' w', OwnN B w' v' (l ++ [k]) → Below B w w' → Ap w v w' v' → wpList Tryd.prog ops Q rest (a.put o.dst v') w') :
    wpList Tryd.prog ops Q (o :: rest) a (w.alloc (.cells #[.int .i64 k] 3)) := by
  refine wpList_push 23 3 (.int .i64 0) 1 8 Tryd.underlying23 infoInt rfl (by decide) hgd s x ho B v l.length (is64 l) hs hown [.int .i64 k] _ rfl rfl (fun u hu => by rw [List.mem_singleton.1 hu]; rfl) hx hn (by decide) hbase ?_
  intro v' w' h1 h2 h3
  refine h v' w' ?_ h2 h3
  unfold OwnN
  rw [is64_append, List.length_append]
  exact h1
/-- what is left of a list, by the numbers -/
def leftN (nums l : List Int) : List Int := (l.filter fun k => nums.getD k.toNat 0 != -1).map fun k => nums.getD k.toNat 0
theorem leftN_take (nums l : List Int) (j : Nat) (h : j < l.length) : leftN nums (l.take (j + 1)) = if nums.getD (l.getD j 0).toNat 0 = -1 then leftN nums (l.take j) else leftN nums (l.take j) ++ [nums.getD (l.getD j 0).toNat 0] := by
  unfold leftN
  rw [List.take_succ_eq_append_getElem h, List.filter_append, List.map_append, List.getD_eq_getElem?_getD (l := l), List.getElem?_eq_getElem h, List.filter_cons, Option.getD_some]
  by_cases e : nums.getD l[j].toNat 0 = -1
  · rw [if_pos e, if_neg (by rw [e]; decide)]; simp
  · rw [if_neg e, if_pos (by rw [bne_iff_ne]; exact e)]; simp
set_option maxHeartbeats 3200000 in
set_option maxRecDepth 100000 in
theorem left_any (a na : Option Addr) (cap nc : Nat) (l nums : List Int) (w : World) (h : NumsIn w a l) (hnu : NumsIn w na nums) (hl : l.length ≤ 1000) (hn : ∀ k ∈ l, 0 ≤ k ∧ k < nums.length) :
    Calls Tryd.prog 23 #[.slice a l.length cap, .slice na nums.length nc] w fun e w' => ∃ v, e = .returned v ∧ OwnN w.heap.size w' v (leftN nums l) ∧ Below w.heap.size w w' := by
  have HN := Lib.hid h
  have HU := Lib.hid hnu
  have HL := Lib.hid hl
  have HK := Lib.hid hn
  clear h hnu hl hn
  go_enter Tryd.func23, Tryd.ntmps23
  go_wp2_with fail
  go_loopw [5, 10] (fun x i wr => ∃ j : Nat, i = .int .i64 j ∧ j ≤ l.length ∧ Hid (OwnN w.heap.size wr x (leftN nums (l.take j))) ∧ Hid (Below w.heap.size w wr)) (fun _ i _ => ((l.length : Int) - intOf i).toNat)
  case atStart => exact ⟨0, rfl, Nat.zero_le _, Lib.hid (OwnN.nil _ _), Lib.hid (Below.refl _ _)⟩
  case round =>
    rename_i x0 i0
    obtain ⟨j, rfl, hj, HO, HB⟩ := hrel
    generalize hwr : wr = w2 at *
    clear hwr wr
    by_cases hlt : j < l.length
    · have hdd : decide ((j : Int) < (l.length : Int)) = true := decide_eq_true (by omega)
      have hd2 : decide (j < l.length) = true := decide_eq_true hlt
      obtain ⟨b, o, rfl, hc⟩ := (HN.out.kept HB.out) j hlt
      have HX := Lib.hid (HK.out _ (getD_mem (d := 0) hlt))
      have HT := Lib.hid (leftN_take nums l j hlt)
      have HW1 : Hid (wrap64 ((j : Int) + 1) = ((j + 1 : Nat) : Int)) := Lib.hid (by have := HL.out; unfold wrap64; omega)
      have HLL : Hid ((leftN nums (l.take j)).length ≤ 100000) := Lib.hid (by
        unfold leftN
        rw [List.length_map]
        refine Nat.le_trans (List.length_filter_le _ _) ?_
        rw [List.length_take]
        have := HL.out
        omega)
      generalize l.getD j 0 = k at *
      obtain ⟨n, rfl⟩ := Int.eq_ofNat_of_zero_le HX.out.1
      have hnl : n < nums.length := by have := HX.out; omega
      obtain ⟨b2, o2, rfl, hc2⟩ := (HU.out.kept HB.out) n hnl
      have hni : ((n : Nat) : Int) < (nums.length : Int) := by omega
      rw [show ((n : Int)).toNat = n from by omega] at HT
      generalize nums.getD n 0 = z at *
      have HJ := Lib.hid hlt
      clear hlt
      by_cases hz : z = -1
      · subst hz
        rw [if_pos rfl] at HT
        go_wp2_with fail
        go_roundw
        case rel => exact ⟨j + 1, by rw [HW1.out], HJ.out, Lib.hid (by rw [HT.out]; exact HO.out), HB⟩
        case measure => rw [HW1.out]; exact meas9 HJ.out
      · have hzb : (z != -1) = true := by rw [bne_iff_ne]; exact hz
        rw [if_neg hz] at HT
        have HSZ : Hid (w.heap.size ≤ w2.heap.size) := Lib.hid HB.out.size
        clear hz
        obtain ⟨lft, hlft⟩ : ∃ q, Hid (leftN nums (l.take j) = q) := ⟨_, Lib.hid rfl⟩
        rw [hlft.out] at HO HT HLL
        go_wp2_with (refine wpList_pushN rfl (.tmp 19) (.tmp 24) rfl w.heap.size _ lft z rfl HO.out rfl HLL.out HSZ.out ?_; intro v' w3 ho3 hb3 _; have HO3 := Lib.hid ho3; have HB3 := Lib.hid (HB.out.trans hb3); clear ho3 hb3)
        go_roundw
        case rel => exact ⟨j + 1, by rw [HW1.out], HJ.out, Lib.hid (by rw [HT.out]; exact HO3.out), HB3⟩
        case measure => rw [HW1.out]; exact meas9 HJ.out
    · have hdd : decide ((j : Int) < (l.length : Int)) = false := decide_eq_false (by omega)
      have hd2 : decide (j < l.length) = false := decide_eq_false hlt
      have HT : Hid (l.take j = l) := Lib.hid (List.take_of_length_le (by omega))
      rw [HT.out] at HO
      clear hlt
      go_wp2_with fail
      go_ret
      exact ⟨_, rfl, HO.out, HB.out⟩
end Nf
end Go.Proofs.YtlbaecjmfgahgaaDoor
