/- Of. -/
import Derived.Test.YtcgllipcnmlkbaaDoorPk9
import Derived.Test.YtcgllipcnmlkbaaDoorPk10
import Derived.Test.YtcgllipcnmlkbaaDoorPk11
import Derived.Test.YtcgllipcnmlkbaaDoorPkU
import Derived.Test.YtcgllipcnmlkbaaDoorPkV
namespace Go.Proofs.YtcgllipcnmlkbaaDoor
open Go.RowKit Sets Tr Rx Sp
theorem node_all (W0 : World) (nv : Value) (N : List Nd) (hN : NodesAt W0 nv N) (hs : ∀ i, i < N.length → sound (N.getD i default) = true) : ∀ t : T, Is N t → NodeC W0 nv N t := by
  intro t
  induction t with
  | leaf i => intro h; exact node_leaf W0 nv N hN hs i h
  | one i a ih => intro h; exact node_one W0 nv N hN hs i a h (ih h.2.2.2)
  | two i a b ih1 ih2 =>
    intro h
    rcases (two_kind h.2.1).1 with h3 | h3
    · exact node_seq W0 nv N hN i a b h h3 (ih1 h.2.2.2.2.1) (ih2 h.2.2.2.2.2)
    · exact node_alt W0 nv N hN i a b h h3 (ih1 h.2.2.2.2.1) (ih2 h.2.2.2.2.2)
theorem own_mono {w : World} {B B' : Nat} {e : TypeId} {size : Nat} {v : Value} {n : Nat} {xs : List Value} (h : w.ownsRow B e size v n xs) (hb : B' ≤ B) : w.ownsRow B' e size v n xs := by
  refine ⟨h.1, ?_⟩
  rcases h.2 with h | ⟨g, cap, cur, h1, h2, h3⟩
  · exact .inl h
  · exact .inr ⟨g, cap, cur, h1, Nat.le_trans hb h2, h3⟩
theorem results_made {fn : Func} {p q : Tmp} (h : fn.results = #[.cell p 46, .tmp q]) (tmps : Array Value) (w : World) (g : Nat) (cs : Array Value) (v : Value)
    (hp : tmps.getD p undef = .pointer (some ⟨g, 0, none⟩)) (hq : tmps.getD q undef = v) (hg : w.heap[g]? = some (.cells cs 46 (0, 0))) (hi : cs.size = 6) :
    (results fn tmps).run Tryd.prog w = .ok (.tuple #[.agg cs, v]) w := by
  have hp' : tmps[p]?.getD undef = .pointer (some ⟨g, 0, none⟩) := by simpa using hp
  have hq' : tmps[q]?.getD undef = v := by simpa using hq
  have hs : (Tryd.prog.info? 46).map (·.size) = some cs.size := by rw [hi]; kernel_rfl
  simp [results, h, hp', hq', asAddr, run_loadVar_row w g 46 46 cs (0, 0) _ hg Tryd.underlying46 rfl hs]
def mdV (a b c d e f : Value) : Array Value := #[a, b, c, d, e, f]
def nilMd : Array Value := mdV (.slice none 0 0) (.slice none 0 0) (.slice none 0 0) (.slice none 0 0) (.slice none 0 0) (.slice none 0 0)
theorem nil_ones : nilMd.all (·.oneCell') = true := by unfold nilMd mdV; simp [Value.oneCell']
theorem wpList_put_made {ops : Array Oper} {rest : List Oper} {o : Oper} {a : Act} {w : World} {Q : Exit → Act → World → Prop} (hgd : o.guard = none) (x y : Operand)
    (ho : o.op = .store 46 x y) (b : Nat) (old cs : Array Value) (hs : cs.size = 6) (h1 : cs.all (·.oneCell') = true) (ho6 : old.size = 6) (hx : a.eval x = .pointer (some ⟨b, 0, none⟩)) (hy : a.eval y = .agg cs) (hg : w.heap[b]? = some (.cells old 46 (0, 0)))
    (h : (w.setRow b cs).heap[b]? = some (.cells cs 46 (0, 0)) → wpList Tryd.prog ops Q rest (a.put o.dst undef) (w.setRow b cs)) : wpList Tryd.prog ops Q (o :: rest) a w :=
  wpList_store_row hgd 46 x y ho b cs hx hy 46 old hg (by rw [hs]; kernel_rfl) (by rw [ho6, hs]) h1 (h (setRow_heap w b _ _ _ _ hg))
theorem wpList_get_made {ops : Array Oper} {rest : List Oper} {o : Oper} {a : Act} {w : World} {Q : Exit → Act → World → Prop} (hgd : o.guard = none) (x : Operand)
    (ho : o.op = .load 46 x) (b : Nat) (cs : Array Value) (hs : cs.size = 6) (hx : a.eval x = .pointer (some ⟨b, 0, none⟩)) (hg : w.heap[b]? = some (.cells cs 46 (0, 0)))
    (h : wpList Tryd.prog ops Q rest (a.put o.dst (.agg cs)) w) : wpList Tryd.prog ops Q (o :: rest) a w :=
  wpList_load_row hgd 46 x ho b hx 46 cs (0, 0) _ hg Tryd.underlying46 rfl (by rw [hs]; kernel_rfl) h
structure MadeAt (B : Nat) (w : World) (sv a b fv c d : Value) (m : Sp.Md) : Prop where
  s : OwnS B w sv m.s
  fi : OwnU B w a m.fi
  la : OwnU B w b m.la
  f : OwnU B w fv m.f
  em : OwnB B w c m.em
  nt : OwnB B w d m.nt
def OfEnd (N : List Nd) (R : List (Int × Bool)) (w : World) (e : Ending) (w' : World) : Prop :=
  Below w.heap.size w w' ∧ ((rightB N R = false ∧ e = .returned (.tuple #[.agg nilMd, .int .i64 8])) ∨ (rightB N R = true ∧ 63 < plOf N R ∧ e = .returned (.tuple #[.agg nilMd, .int .i64 3])) ∨
    (rightB N R = true ∧ plOf N R ≤ 63 ∧ ∃ sv a b fv c d, e = .returned (.tuple #[.agg (mdV sv a b fv c d), .int .i64 0]) ∧ MadeAt w.heap.size w' sv a b fv c d (Sp.md (parts N R))))
set_option maxHeartbeats 6400000 in
set_option maxRecDepth 100000 in
theorem of_wrong (nv pv : Value) (N : List Nd) (R : List (Int × Bool)) (w : World) (hN : NodesAt w nv N) (hP : PartsAt w pv R) (hr : rightB N R = false) :
    Calls Tryd.prog 21 #[.agg #[nv, pv]] w (OfEnd N R w) := by
  have HRt := fun w hN hP => right_any nv pv N R w hN hP
  obtain ⟨na, nc, rfl⟩ : ∃ a c, nv = .slice a N.length c := by obtain ⟨-, -, a, c, e, -⟩ := hN; exact ⟨a, c, e⟩
  obtain ⟨pa, pc, rfl⟩ : ∃ a c, pv = .slice a R.length c := by obtain ⟨-, -, a, c, e, -⟩ := hP; exact ⟨a, c, e⟩
  have hal1 := (Below.refl w.heap.size w).alloc (Nat.le_refl _) (.cells #[.slice na N.length nc, .slice pa R.length pc] 39)
  have hal2 := hal1.alloc (by simp) (.cells nilMd 46)
  have HRt := Lib.hid (HRt _ (hN.kept hal2) (hP.kept hal2))
  rw [hr] at HRt
  have HB := Lib.hid hal2
  have HD : Hid (((w.alloc (.cells #[.slice na N.length nc, .slice pa R.length pc] 39)).alloc (.cells nilMd 46)).heap[w.heap.size + 1]? = some (.cells nilMd 46 (0, 0))) := Lib.hid (by
    have := heap_alloc_new (w.alloc (.cells #[.slice na N.length nc, .slice pa R.length pc] 39)) (.cells nilMd 46)
    rw [show (w.alloc (.cells #[.slice na N.length nc, .slice pa R.length pc] 39)).heap.size = w.heap.size + 1 from by simp] at this
    exact this)
  have HR := Lib.hid hr
  clear hal1 hal2 hN hP hr
  unfold nilMd mdV at *
  go_enter Tryd.func21, Tryd.ntmps21
  go_wp2_with (first
    | (go_at_call 30; refine HRt.out.mono ?_; rintro e w3 ⟨rfl, hb3⟩; have HD3 := Lib.hid ((hb3.block _ (Array.getElem?_eq_some_iff.1 HD.out).1).trans HD.out); have HB3 := Lib.hid (HB.out.trans (hb3.mono (by have := (Array.getElem?_eq_some_iff.1 HD.out).1; omega))); clear hb3)
    | (refine wpList_put_made rfl _ _ rfl (w.heap.size + 1) _ nilMd rfl nil_ones rfl rfl rfl HD3.out ?_; intro hE7; have HE7 := Lib.hid hE7; clear hE7))
  refine bodyPost_ret (v := .tuple #[.agg nilMd, .int .i64 8]) (results_made (p := 2) (q := 3) Tryd.results21 _ _ (w.heap.size + 1) _ _ rfl rfl HE7.out rfl) rfl ⟨HB3.out.trans ⟨rfl, rfl, rfl, by simp [World.setRow], fun k hk => setRow_other _ _ _ _ (by omega)⟩, .inl ⟨HR.out, rfl⟩⟩
set_option maxHeartbeats 6400000 in
set_option maxRecDepth 100000 in
theorem of_long (nv pv : Value) (N : List Nd) (R : List (Int × Bool)) (w : World) (hN : NodesAt w nv N) (hP : PartsAt w pv R) (hr : rightB N R = true) (hp : 63 < plOf N R) :
    Calls Tryd.prog 21 #[.agg #[nv, pv]] w (OfEnd N R w) := by
  have HRt := fun w hN hP => right_any nv pv N R w hN hP
  have HPl := fun w hN hP => places_any nv pv N R w hN hP
  obtain ⟨na, nc, rfl⟩ : ∃ a c, nv = .slice a N.length c := by obtain ⟨-, -, a, c, e, -⟩ := hN; exact ⟨a, c, e⟩
  obtain ⟨pa, pc, rfl⟩ : ∃ a c, pv = .slice a R.length c := by obtain ⟨-, -, a, c, e, -⟩ := hP; exact ⟨a, c, e⟩
  have hal1 := (Below.refl w.heap.size w).alloc (Nat.le_refl _) (.cells #[.slice na N.length nc, .slice pa R.length pc] 39)
  have hal2 := hal1.alloc (by simp) (.cells nilMd 46)
  have HRt := Lib.hid (HRt _ (hN.kept hal2) (hP.kept hal2))
  rw [hr] at HRt
  have HB := Lib.hid hal2
  have HD : Hid (((w.alloc (.cells #[.slice na N.length nc, .slice pa R.length pc] 39)).alloc (.cells nilMd 46)).heap[w.heap.size + 1]? = some (.cells nilMd 46 (0, 0))) := Lib.hid (by
    have := heap_alloc_new (w.alloc (.cells #[.slice na N.length nc, .slice pa R.length pc] 39)) (.cells nilMd 46)
    rw [show (w.alloc (.cells #[.slice na N.length nc, .slice pa R.length pc] 39)).heap.size = w.heap.size + 1 from by simp] at this
    exact this)
  have HR := Lib.hid hr
  have HPp := Lib.hid hp
  have HN := Lib.hid (hN.kept hal2)
  have HP := Lib.hid (hP.kept hal2)
  have hdp : decide ((63 : Int) < (plOf N R : Nat)) = true := decide_eq_true (by omega)
  clear hal1 hal2 hN hP hr hp
  unfold nilMd mdV at *
  go_enter Tryd.func21, Tryd.ntmps21
  go_wp2_with (first
    | (go_at_call 30; refine HRt.out.mono ?_; rintro e w3 ⟨rfl, hb3⟩; have HD3 := Lib.hid ((hb3.block _ (Array.getElem?_eq_some_iff.1 HD.out).1).trans HD.out); have HB3 := Lib.hid (HB.out.trans (hb3.mono (by have := (Array.getElem?_eq_some_iff.1 HD.out).1; omega))); have HP3 := Lib.hid (HPl w3 (HN.out.kept hb3) (HP.out.kept hb3)); have ht0 : w3.cell? ⟨w.heap.size, 0, none⟩ = some (.slice na N.length nc) := ((hb3.cell (by simp; omega)).trans (by simp)); have ht1 : w3.cell? ⟨w.heap.size, 1, none⟩ = some (.slice pa R.length pc) := ((hb3.cell (by simp; omega)).trans (by simp)); clear hb3)
    | (go_at_call 31; refine HP3.out.mono ?_; rintro e w4 ⟨rfl, hb4⟩; have HD4 := Lib.hid ((hb4.block _ (Array.getElem?_eq_some_iff.1 HD3.out).1).trans HD3.out); have HB4 := Lib.hid (HB3.out.trans (hb4.mono HB3.out.size)); clear hb4)
    | (refine wpList_put_made rfl _ _ rfl (w.heap.size + 1) _ nilMd rfl nil_ones rfl rfl rfl HD4.out ?_; intro hE7; have HE7 := Lib.hid hE7; clear hE7))
  refine bodyPost_ret (v := .tuple #[.agg nilMd, .int .i64 3]) (results_made (p := 2) (q := 3) Tryd.results21 _ _ (w.heap.size + 1) _ _ rfl rfl HE7.out rfl) rfl ⟨HB4.out.trans ⟨rfl, rfl, rfl, by simp [World.setRow], fun k hk => setRow_other _ _ _ _ (by omega)⟩, .inr (.inl ⟨HR.out, HPp.out, rfl⟩)⟩
end Go.Proofs.YtcgllipcnmlkbaaDoor
