/- States in a map, each with its number; the maker; its method state. (Written by gendfd.py) -/
import Derived.Test.YtmjjkamndlefmaaDoorPq23
import Derived.Test.YtmjjkamndlefmaaDoorPq15
import Derived.Test.YtmjjkamndlefmaaDoorPq28
namespace Go.Proofs.YtmjjkamndlefmaaDoor
open Go.RowKit Sets Nf Df Dbl
namespace DfR
theorem fieldsK : ∃ f1 f2 : Field, (Tryd.prog.fieldsOf 86).toList = [f1, f2] ∧ [f1, f2].map (fun f => (f.name, f.type, f.offset)) = [("at", 54, 0), ("read", 4, 4)] := by
  have hf : (Tryd.prog.fieldsOf 86).toList.map (fun f => (f.name, f.type, f.offset)) = [("at", 54, 0), ("read", 4, 4)] := by kernel_rfl
  generalize (Tryd.prog.fieldsOf 86).toList = fs at hf ⊢
  have hl := congrArg List.length hf
  simp only [List.length_map, List.length_cons, List.length_nil] at hl
  obtain ⟨f1, f2, rfl⟩ := two fs hl
  exact ⟨f1, f2, rfl, hf⟩
theorem part_k (x : Nat × Bool) (w : World) : (part 54 (rC x) 0).run Tryd.prog w = .ok (.agg #[.int .u64 (wd x.1 0), .int .u64 (wd x.1 1), .int .u64 (wd x.1 2), .int .u64 (wd x.1 3)]) w := by
  have h1 : (isAgg 54).run Tryd.prog w = .ok true w := by kernel_rfl
  have h2 : (sizeOf 54).run Tryd.prog w = .ok 4 w := by kernel_rfl
  unfold part
  simp only [Sem.run_bind, h1, h2, Result.andThen_ok, if_true, Sem.run_pure]
  rfl
set_option maxRecDepth 100000 in
theorem eqKey (x y : Nat × Bool) (hx : x.1 < 2 ^ 256) (hy : y.1 < 2 ^ 256) (w : World) :
    (Op.equal 86 (.agg (rC x)) (.agg (rC y))).run Tryd.prog w = .ok (decide (x = y)) w := by
  have he : decide (x = y) = (decide (x.1 = y.1) && decide (x.2 = y.2)) := by
    cases x; cases y
    simp
  have hS := beq_w hx hy
  have a1 : (isAgg 4).run Tryd.prog w = .ok false w := by kernel_rfl
  obtain ⟨f1, f2, e1, e2⟩ := fieldsK
  simp only [List.map_cons, List.map_nil, List.cons.injEq, Prod.mk.injEq, and_true] at e2
  obtain ⟨⟨n1, t1, o1⟩, n2, t2, o2⟩ := e2
  unfold Op.equal Op.maxDepth
  rw [show (10000 : Nat) = 9999 + 1 from rfl, run_equalIn_struct w 9999 86 _ _ (by kernel_rfl) (by kernel_rfl), e1, he]
  unfold Op.eqFields
  rw [n1, t1, o1, if_pos (by decide)]
  simp only [Sem.run_bind, part_k, Result.andThen_ok]
  rw [eqS9999, hS]
  by_cases h2 : x.1 = y.1
  case neg => simp [h2]
  simp only [h2, Result.andThen_ok, Bool.not_true, Bool.false_eq_true, if_false, decide_true, Bool.true_and]
  unfold Op.eqFields
  rw [n2, t2, o2, if_pos (by decide)]
  simp only [Sem.run_bind, part_1 _ (rC x) 4 (.bool x.2) w a1 rfl, part_1 _ (rC y) 4 (.bool y.2) w a1 rfl, Result.andThen_ok]
  rw [run_equalIn_bool w 9998 4 _ _ Tryd.underlying4]
  cases x.2 <;> cases y.2 <;> first | rfl | simp
def entsK : Nat → List (Nat × Bool) → List MapEntry
  | _, [] => []
  | i, k :: l => { key := .agg (rC k), val := .int .i64 i, born := i } :: entsK (i + 1) l
theorem entsK_length : ∀ (l : List (Nat × Bool)) (i : Nat), (entsK i l).length = l.length
  | [], _ => rfl
  | _ :: l, i => by simp [entsK, entsK_length l (i + 1)]
theorem entsK_snoc (k : (Nat × Bool)) : ∀ (l : List (Nat × Bool)) (i : Nat), entsK i (l ++ [k]) = entsK i l ++ [{ key := .agg (rC k), val := .int .i64 (i + l.length : Nat), born := i + l.length }]
  | [], i => by simp [entsK]
  | a :: l, i => by
    simp only [List.cons_append, entsK, entsK_snoc k l (i + 1), List.length_cons]
    rw [show i + 1 + l.length = i + (l.length + 1) from by omega]
theorem checkK (em : Bool) (x : (Nat × Bool)) (w : World) : (Instr.checkKey em 10000 86 (.agg (rC x))).run Tryd.prog w = .ok () w := by kernel_rfl
def okK (x : (Nat × Bool)) : Prop := x.1 < 2 ^ 256
set_option maxRecDepth 100000 in
theorem find_ask (k : (Nat × Bool)) (hk : okK k) (w : World) : ∀ (l : List (Nat × Bool)) (i : Nat), (∀ x ∈ l, okK x) → (Instr.findAsking 86 (.agg (rC k)) (entsK i l) i).run Tryd.prog w = .ok (if k ∈ l then some (i + ix l k, Value.int .i64 (i + ix l k : Nat)) else none) w
  | [], i, _ => by simp [entsK, Instr.findAsking]
  | q :: l, i, hl => by
    have hq := hl q (List.mem_cons_self ..)
    simp only [entsK, Instr.findAsking, Sem.run_bind]
    rw [eqKey k q hk hq w]
    simp only [Result.andThen_ok, Sem.run_ite, Sem.run_pure]
    have ih := find_ask k hk w l (i + 1) (fun x hx => hl x (List.mem_cons_of_mem _ hx))
    by_cases h : k = q
    · subst h
      simp [ix]
    · rw [if_neg (by simpa using h), ih]
      have h2 : ¬ q = k := fun e => h e.symm
      have e1 : ix (q :: l) k = ix l k + 1 := by show (if q = k then 0 else ix l k + 1) = _; rw [if_neg h2]
      rw [e1]
      by_cases hm : k ∈ l
      · rw [if_pos hm, if_pos (List.mem_cons_of_mem _ hm), show i + 1 + ix l k = i + (ix l k + 1) from by omega]
      · rw [if_neg hm, if_neg (by simp [h, hm])]
theorem find_key (k : (Nat × Bool)) (hk : okK k) (w : World) (l : List (Nat × Bool)) (hl : ∀ x ∈ l, okK x) : (Instr.findKey 86 (.agg (rC k)) (entsK 0 l)).run Tryd.prog w = .ok (if k ∈ l then some (ix l k, Value.int .i64 (ix l k : Nat)) else none) w := by
  unfold Instr.findKey
  simp only [Sem.run_bind, run_underlying Tryd.underlying86, Result.andThen_ok]
  have h := find_ask k hk w l 0 hl
  simp only [Nat.zero_add] at h
  cases l with
  | nil => simp [entsK, Instr.findNow]
  | cons q l =>
    have : Instr.findNow (.struct #[{ name := "at", type := 54, offset := 0, embedded := false, tag := "", pkgPath := "shibboleth/dfa", byteOffset := 0 }, { name := "read", type := 4, offset := 4, embedded := false, tag := "", pkgPath := "shibboleth/dfa", byteOffset := 32 }]) (.agg (rC k)) (entsK 0 (q :: l)) 0 = none := by
      simp [entsK, Instr.findNow, Instr.sameNow]
    rw [this]
    exact h
/-- Block g is the map of the states l, each with its number. -/
structure MapAt (w : World) (g : Nat) (l : List (Nat × Bool)) : Prop where
  row : w.heap[g]? = some (.map (entsK 0 l).toArray l.length)
  ok : ∀ x ∈ l, okK x
theorem MapAt.lt {w : World} {g : Nat} {l : List (Nat × Bool)} (h : MapAt w g l) : g < w.heap.size := (Array.getElem?_eq_some_iff.1 h.row).1
theorem MapAt.of {w w' : World} {g : Nat} {l : List (Nat × Bool)} (h : MapAt w g l) (e : w'.heap[g]? = w.heap[g]?) : MapAt w' g l := ⟨e.trans h.row, h.ok⟩
theorem MapAt.made (w : World) : MapAt (w.alloc (.map #[] 0)) w.heap.size [] := ⟨heap_alloc_new w _, fun x hx => by cases hx⟩
theorem zeroI (w : World) : (zeroValue 3).run Tryd.prog w = .ok (.int .i64 0) w := by kernel_rfl
theorem MapAt.look {w : World} {g : Nat} {l : List (Nat × Bool)} (h : MapAt w g l) (k : (Nat × Bool)) (hk : okK k) :
    (Instr.lookup 120 (.map (some g)) (.agg (rC k)) true).run Tryd.prog w =
      .ok (if k ∈ l then .tuple #[.int .i64 (ix l k : Nat), .bool true] else .tuple #[.int .i64 0, .bool false]) w := by
  unfold Instr.lookup
  have hc := fun em => checkK em k w
  have hf := find_key k hk w l h.ok
  simp only [Sem.run_bind, run_underlying Tryd.underlying120, Result.andThen_ok, getObj_run h.row, Sem.run_pure, hc, hf]
  by_cases hm : k ∈ l
  · simp [hm]
  · simp [hm]
theorem MapAt.put {w : World} {g : Nat} {l : List (Nat × Bool)} (h : MapAt w g l) (k : (Nat × Bool)) (hk : okK k) (hn : k ∉ l) :
    ∃ w', (Instr.mapUpdate 120 (.map (some g)) (.agg (rC k)) (.int .i64 l.length)).run Tryd.prog w = .ok () w' ∧ MapAt w' g (l ++ [k]) ∧ But g w w' := by
  have hc := fun em => checkK em k w
  have hf := find_key k hk w l h.ok
  rw [if_neg hn] at hf
  have hg := h.row
  refine ⟨ChangeMaps.setBlock w g (.map ((entsK 0 l).toArray.push { key := .agg (rC k), val := .int .i64 l.length, born := l.length }) (l.length + 1)), ?_, ⟨?_, ?_⟩, ⟨rfl, rfl, rfl, by simp [ChangeMaps.setBlock], fun i _ hi => ChangeMaps.heap_setBlock_other hg _ hi⟩⟩
  · unfold Instr.mapUpdate
    simp only [Sem.run_bind, run_underlying Tryd.underlying120, Result.andThen_ok, getObj_run hg, hc, hf]
    exact MapKept.run_setObj_map _ hg
  · rw [ChangeMaps.heap_setBlock_same hg _, entsK_snoc]
    simp
  · intro x hx
    rcases List.mem_append.1 hx with hx | hx
    · exact h.ok x hx
    · rw [List.mem_singleton] at hx; rw [hx]; exact hk
def rowsK (l : List (Nat × Bool)) : List Value := l.flatMap fun x => (rC x).toList
theorem rC_len (x : (Nat × Bool)) : (rC x).toList.length = 5 := rfl
theorem rowsK_snoc (L : List (Nat × Bool)) (s : (Nat × Bool)) : rowsK (L ++ [s]) = rowsK L ++ (rC s).toList := by unfold rowsK; rw [List.flatMap_append]; simp
theorem rowsK_length (L : List (Nat × Bool)) : (rowsK L).length = L.length * 5 := by
  induction L with
  | nil => rfl
  | cons s L ih => unfold rowsK at *; rw [List.flatMap_cons, List.length_append, ih, rC_len, List.length_cons]; omega
theorem rowsK_get : ∀ (L : List (Nat × Bool)) (i : Nat) (s : (Nat × Bool)), L[i]? = some s → ∀ j, j < 5 → (rowsK L)[i * 5 + j]? = ((rC s).toList)[j]?
  | t :: L, 0, s, h, j, hj => by
    simp at h; subst h
    unfold rowsK
    rw [List.flatMap_cons, List.getElem?_append_left (by rw [rC_len]; omega)]
    simp
  | t :: L, i + 1, s, h, j, hj => by
    have ih := rowsK_get L i s (by simpa using h) j hj
    unfold rowsK at ih ⊢
    rw [List.flatMap_cons, List.getElem?_append_right (by rw [rC_len]; omega), rC_len, show (i + 1) * 5 + j - 5 = i * 5 + j from by omega, ih]
theorem rowsK_one (l : List (Nat × Bool)) : ∀ u ∈ rowsK l, u.oneCell' = true := fun u hu => by
  obtain ⟨x, -, h⟩ := List.mem_flatMap.1 hu
  have := oneRuns x
  rw [Array.all_eq_true_iff_forall_mem] at this
  exact this u (by simpa using h)
theorem infoK : (Tryd.prog.info? 86).map (fun i => (i.zero, i.size, i.bytes)) = some (some (.agg #[.int .u64 0, .int .u64 0, .int .u64 0, .int .u64 0, .bool false]), 5, 40) := by kernel_rfl
/-- The purse in block q.1 (its budget's bits q.2) has spent t; none: there is none. -/
def PayAt (w : World) (p : Option (Nat × Nat)) (t : Nat) : Prop := ∀ q, p = some q → PurseAt w q.1 q.2 t
def payV (p : Option (Nat × Nat)) : Value := .pointer (p.map fun q => ⟨q.1, 0, none⟩)
def Aff (p : Option (Nat × Nat)) (t : Nat) : Prop := ∀ q, p = some q → t ≤ cap q.2
/-- The maker lies in block mb, its map in mg; its states are L. -/
structure MkAt (w : World) (s mb mg : Nat) (p : Option (Nat × Nat)) (t0 : Nat) (sv : Value) (L : List (Nat × Bool)) : Prop where
  row : w.heap[mb]? = some (.cells #[payV p, .map (some mg), sv] 123 (0, 0))
  map : MapAt w mg L
  own : w.ownsRow s 86 5 sv L.length (rowsK L)
  pay : PayAt w p (t0 + L.length)
  low : s ≤ mb ∧ s ≤ mg ∧ ∀ q, p = some q → q.1 < s
/-- What stays at a call of state. -/
structure FrM (mb mg : Nat) (p : Option (Nat × Nat)) (w : World) (v : Value) (w' : World) (v' : Value) : Prop where
  os : w'.os = w.os
  tape : w'.tape = w.tape
  output : w'.output = w.output
  size : w.heap.size ≤ w'.heap.size
  block : ∀ k, k < w.heap.size → k ≠ mb → k ≠ mg → v.ownBlock ≠ some k → (∀ q, p = some q → q.1 ≠ k) → w'.heap[k]? = w.heap[k]?
  own : ∀ g, v'.ownBlock = some g → v.ownBlock = some g ∨ w.heap.size ≤ g
/-- Block k is none of those that turn. -/
def Off (mb mg : Nat) (p : Option (Nat × Nat)) (v : Value) (k : Nat) : Prop := k ≠ mb ∧ k ≠ mg ∧ v.ownBlock ≠ some k ∧ ∀ q, p = some q → q.1 ≠ k
section
variable {w w1 w2 : World} {s mb mg t0 : Nat} {p : Option (Nat × Nat)} {v v1 v2 sv : Value} {L : List (Nat × Bool)}
theorem FrM.refl (mb mg : Nat) (p : Option (Nat × Nat)) (w : World) (v : Value) : FrM mb mg p w v w v := ⟨rfl, rfl, rfl, Nat.le_refl _, fun _ _ _ _ _ _ => rfl, fun _ h => .inl h⟩
theorem FrM.of_below (mb mg : Nat) (p : Option (Nat × Nat)) (v : Value) (h : Below w.heap.size w w1) : FrM mb mg p w v w1 v := ⟨h.os, h.tape, h.output, h.size, fun k hk _ _ _ _ => h.block k hk, fun _ h => .inl h⟩
theorem FrM.off (h : FrM mb mg p w v w1 v1) {k : Nat} (ho : Off mb mg p v k) (hk : k < w.heap.size) : Off mb mg p v1 k := ⟨ho.1, ho.2.1, fun e => (h.own k e).elim ho.2.2.1 (fun h2 => by omega), ho.2.2.2⟩
theorem FrM.keep (h : FrM mb mg p w v w1 v1) {k : Nat} (ho : Off mb mg p v k) (hk : k < w.heap.size) : w1.heap[k]? = w.heap[k]? := h.block k hk ho.1 ho.2.1 ho.2.2.1 ho.2.2.2
theorem FrM.trans (h : FrM mb mg p w v w1 v1) (k : FrM mb mg p w1 v1 w2 v2) : FrM mb mg p w v w2 v2 := by
  refine ⟨k.os.trans h.os, k.tape.trans h.tape, k.output.trans h.output, Nat.le_trans h.size k.size, fun i hi h1 h2 h3 h4 => ?_, fun g hg => ?_⟩
  · rw [k.block i (Nat.lt_of_lt_of_le hi h.size) h1 h2 (h.off ⟨h1, h2, h3, h4⟩ hi).2.2.1 h4, h.block i hi h1 h2 h3 h4]
  · rcases k.own g hg with h1 | h1
    · exact h.own g h1
    · exact .inr (Nat.le_trans h.size h1)
theorem MkAt.lt (h : MkAt w s mb mg p t0 sv L) : mb < w.heap.size := (Array.getElem?_eq_some_iff.1 h.row).1
theorem MkAt.ne (h : MkAt w s mb mg p t0 sv L) : mb ≠ mg := fun e => by
  have h1 := h.row
  rw [e, h.map.row] at h1
  cases h1
theorem MkAt.own_ne (h : MkAt w s mb mg p t0 sv L) : ∀ g, sv.ownBlock = some g → g ≠ mb ∧ g ≠ mg := fun g hg => by
  obtain ⟨cs, hc⟩ := own_type h.own hg
  refine ⟨fun e => ?_, fun e => ?_⟩
  · rw [e, h.row] at hc
    injection hc with hc
    injection hc with _ h2
    exact absurd h2 (by decide)
  · rw [e, h.map.row] at hc; cases hc
theorem MkAt.stay (h : MkAt w s mb mg p t0 sv L) (hb : Below w.heap.size w w1) : MkAt w1 s mb mg p t0 sv L :=
  ⟨(hb.block _ h.lt).trans h.row, h.map.of (hb.block _ h.map.lt), own_stay h.own hb, fun q hq => (h.pay q hq).kept (hb.block _ (h.pay q hq).lt), h.low⟩
theorem MkAt.cells (h : MkAt w s mb mg p t0 sv L) : w.cell? ⟨mb, 0, none⟩ = some (payV p) ∧ w.cell? ⟨mb, 1, none⟩ = some (.map (some mg)) ∧ w.cell? ⟨mb, 2, none⟩ = some sv := by
  refine ⟨?_, ?_, ?_⟩ <;> (rw [cell_of_row w mb _ _ _ _ h.row]; rfl)
end
set_option maxHeartbeats 3200000 in
set_option maxRecDepth 100000 in
theorem state_any (s mb mg : Nat) (p : Option (Nat × Nat)) (t0 : Nat) (sv : Value) (L : List (Nat × Bool)) (x : (Nat × Bool)) (w : World) (h : MkAt w s mb mg p t0 sv L) (hx : okK x) (ht : t0 + L.length ≤ 1000000) (hp : Aff p (t0 + L.length)) (hL : L.length ≤ 100000) (hs : s ≤ w.heap.size) :
    Calls Tryd.prog 66 #[.pointer (some ⟨mb, 0, none⟩), .agg (rC x)] w fun e w' =>
      (e = .returned (.int .i64 (ix L x)) ∧ ∃ sv', MkAt w' s mb mg p t0 sv' (put L x) ∧ FrM mb mg p w sv w' sv' ∧ Aff p (t0 + (put L x).length)) ∨
      (x ∉ L ∧ ∃ q, p = some q ∧ cap q.2 < t0 + L.length + 1 ∧ e = .panicked [{ v := ovr q.1, recovered := false }] ∧ PurseAt w' q.1 q.2 (t0 + L.length + 1) ∧ FrM mb mg p w sv w' sv) := by
  have hal := (Below.refl w.heap.size w).alloc (Nat.le_refl _) (.cells (rC x) 86)
  have HM := Lib.hid (h.stay hal)
  have HX : Hid (BoxS (w.alloc (.cells (rC x) 86)) w.heap.size x) := Lib.hid (BoxS.new w x)
  have HB := Lib.hid hal
  have HOK := Lib.hid hx
  have HTT := Lib.hid ht
  have HP := Lib.hid hp
  have HLL := Lib.hid hL
  have HS := Lib.hid hs
  have HZ : Hid ((w.alloc (.cells (rC x) 86)).heap.size = w.heap.size + 1) := Lib.hid (by simp)
  have HNO : Hid (∀ g, sv.ownBlock = some g → g < w.heap.size) := Lib.hid (fun g hg => (h.own.lt g hg).2)
  clear h hx ht hp hL hs hal
  go_enter Tryd.func66, Tryd.ntmps66
  go_upto_region 1 with fail
  generalize w.alloc (.cells (rC x) 86) = w1 at *
  obtain ⟨b, hb⟩ : ∃ b, Hid (w.heap.size = b) := ⟨_, Lib.hid rfl⟩
  rw [hb.out] at HX ⊢
  have c0 := HM.out.cells.1
  have c1 := HM.out.cells.2.1
  have c2 := HM.out.cells.2.2
  have HLM := Lib.hid HM.out.lt
  have HLX := Lib.hid HX.out.lt
  have HLG := Lib.hid HM.out.map.lt
  refine region_mix [(false, 0), (false, 1), (false, 2), (false, 3), (false, 4), (false, 5), (false, 6), (false, 7), (false, 8), (false, 9)] (fun w' => w' = w1.drew) (by kernel_rfl) (by kernel_rfl) rfl ?_
  simp only [planOps, List.map_cons, List.map_nil, List.getD_cons_zero, List.getD_cons_succ, List.length_cons, List.length_nil, List.drop_succ_cons, List.drop_zero]
  refine mix_seg (seg := [_, _, _, _, _, _, _, _, _, _]) (rest := []) rfl rfl ?_
  intro ι hι F hF
  have f1 : ∀ n, (F n).cell? ⟨mb, 1, none⟩ = some (.map (some mg)) := fun n => by rw [hF n]; exact c1
  have f2 := Lib.hid (fun n => (BoxS.of HX.out (by rw [hF n]; rfl) : BoxS (F n) b x))
  have f3 := (HM.out.map.of rfl : MapAt w1.drew mg L).look x HOK.out
  have HBD : Hid (Below w1.heap.size w1 w1.drew) := Lib.hid ((Below.refl _ _).drew)
  by_cases hm : x ∈ L
  · have HPO := Lib.hid (put_old hm)
    simp only [if_pos hm] at f3
    iterate 4 (go_big_quiet_step (fail))
    refine BigFrame.wpQuiet_want rfl (fun K hK => ?_); refine quiet_load_row 86 _ rfl b rfl 86 (rC x) (0, 0) _ (fun w' ⟨n, e⟩ => e ▸ (f2.out n).row) Tryd.underlying86 rfl (sizeRuns x) ?_; refine hK _ ?_; clear hK K; simp only [Act.put, List.setIfInBounds_toArray, List.set_cons_zero, List.set_cons_succ]
    iterate 5 (go_big_quiet_step (fail))
    refine wpQuiet_nil ?_
    clear f1 f2 f3 hF hι F hm
    show wpList _ _ _ _ _ _
    have HM2 := Lib.hid (HM.out.stay HBD.out)
    go_wp2_with fail
    refine NoPanic.normal ?_
    go_wp2_with fail
    go_ret
    refine .inl ⟨rfl, sv, by rw [HPO.out]; exact HM2.out, FrM.of_below _ _ _ _ (by rw [hb.out]; have := HB.out; rw [hb.out] at this; exact this.drew), by rw [HPO.out]; exact HP.out⟩
  · have HNM := Lib.hid hm
    simp only [if_neg hm] at f3
    iterate 4 (go_big_quiet_step (fail))
    refine BigFrame.wpQuiet_want rfl (fun K hK => ?_); refine quiet_load_row 86 _ rfl b rfl 86 (rC x) (0, 0) _ (fun w' ⟨n, e⟩ => e ▸ (f2.out n).row) Tryd.underlying86 rfl (sizeRuns x) ?_; refine hK _ ?_; clear hK K; simp only [Act.put, List.setIfInBounds_toArray, List.set_cons_zero, List.set_cons_succ]
    iterate 5 (go_big_quiet_step (fail))
    refine wpQuiet_nil ?_
    clear f1 f2 f3 hF hι F hm
    show wpList _ _ _ _ _ _
    have HM2 := Lib.hid (HM.out.stay HBD.out)
    have HX2 : Hid (BoxS w1.drew b x) := Lib.hid (BoxS.of HX.out rfl)
    go_wp2_with fail
    refine NoPanic.normal ?_
    clear c0 c1 c2
    have HF2 : Hid (FrM mb mg p w sv w1.drew sv) := Lib.hid (FrM.of_below _ _ _ _ HB.out.drew)
    have HZ2 : Hid (b < w1.drew.heap.size) := Lib.hid HLX.out
    clear HM HX HB HLM HLX HLG HBD HZ
    generalize w1.drew = w2 at *
    clear w1
    have c0 := HM2.out.cells.1
    have HSP : Hid (Calls Tryd.prog 76 #[payV p, .int .i64 1] w2 fun e w' => (e = .returned (.tuple #[]) ∧ MkAt w' s mb mg p (t0 + 1) sv L ∧ FrM mb mg p w2 sv w' sv ∧ Aff p (t0 + L.length + 1) ∧ BoxS w' b x) ∨ (∃ q, p = some q ∧ cap q.2 < t0 + L.length + 1 ∧ e = .panicked [{ v := ovr q.1, recovered := false }] ∧ PurseAt w' q.1 q.2 (t0 + L.length + 1) ∧ FrM mb mg p w2 sv w' sv)) := Lib.hid (by
      have hM2 := HM2.out
      have hnn := hM2.own_ne
      cases p with
      | none =>
        refine (spend_none _ 1 w2 (.inl rfl)).mono ?_
        rintro e w' ⟨rfl, rfl⟩
        exact .inl ⟨rfl, ⟨hM2.row, hM2.map, hM2.own, (fun q hq => by cases hq), hM2.low⟩, FrM.refl _ _ _ _ _, (fun q hq => by cases hq), HX2.out⟩
      | some q =>
        have hpu := hM2.pay q rfl
        have hqs := hM2.low.2.2 q rfl
        refine (spend_any q.1 q.2 (t0 + L.length) 1 w2 hpu (by have := HTT.out; unfold M; omega) (HP.out q rfl) (by decide)).mono ?_
        rintro e w' ⟨rfl, hpa, hbu⟩
        have hmo : more (t0 + L.length) 1 = t0 + L.length + 1 := by
          unfold more
          rw [if_neg (by decide)]
          have := HTT.out
          have : M = 18446744073709551615 := rfl
          omega
        rw [hmo] at hpa ⊢
        have hfr : FrM mb mg (some q) w2 sv w' sv := ⟨hbu.os, hbu.tape, hbu.output, hbu.size, fun k hk _ _ _ h4 => hbu.block k hk (fun e => h4 q rfl e.symm), fun _ h => .inl h⟩
        by_cases hc : t0 + L.length + 1 ≤ cap q.2
        · rw [spendEnd_in hc]
          have hl := hM2.low
          refine .inl ⟨rfl, ⟨(hbu.block _ hM2.lt (by omega)).trans hM2.row, hM2.map.of (hbu.block _ hM2.map.lt (by omega)), own_kept hM2.own (fun g hg => hbu.block g (hM2.own.lt g hg).2 (by have := (hM2.own.lt g hg).1; omega)), (fun q' hq' => by cases hq'; rw [show t0 + 1 + L.length = t0 + L.length + 1 from by omega]; exact hpa), hM2.low⟩, hfr, (fun q' hq' => by cases hq'; exact hc), BoxS.of HX2.out (hbu.block _ HX2.out.lt (by have h1 := HS.out; have h2 := hb.out; omega))⟩
        · rw [spendEnd_over hc]
          exact .inr ⟨q, rfl, by omega, rfl, hpa, hfr⟩)
    go_upto_region 4 with (go_at_call 76; refine HSP.out.mono ?_; rintro e w3 (⟨rfl, hM3, hF3, hA3, hX3⟩ | ⟨q, hq, hcq, rfl, hpa, hfr⟩))
    rotate_left
    · exact ⟨rfl, .inr ⟨HNM.out, q, hq, hcq, rfl, hpa, HF2.out.trans hfr⟩⟩
    have HM3 := Lib.hid hM3
    have HF3 := Lib.hid (HF2.out.trans hF3)
    have HA3 := Lib.hid hA3
    have HX3 := Lib.hid hX3
    have HZ3 : Hid (b < w3.heap.size) := Lib.hid (Nat.lt_of_lt_of_le HZ2.out hF3.size)
    clear hM3 hF3 hA3 hX3 HSP c0 HM2 HX2 HF2 HZ2
    have c2 := HM3.out.cells.2.2
    obtain ⟨a0, ca0, hsv, -⟩ := own_slice HM3.out.own
    have HSV := Lib.hid hsv
    rw [hsv] at c2
    clear hsv
    go_upto_region 5 with fail
    have c1 := HM3.out.cells.2.1
    clear c2
    refine region_mix [(false, 0), (false, 1), (false, 2), (false, 3), (false, 4), (false, 5)] (fun w' => w' = w3.drew) (by kernel_rfl) (by kernel_rfl) rfl ?_
    simp only [planOps, List.map_cons, List.map_nil, List.getD_cons_zero, List.getD_cons_succ, List.length_cons, List.length_nil, List.drop_succ_cons, List.drop_zero]
    refine mix_seg (seg := [_, _, _, _, _, _]) (rest := []) rfl rfl ?_
    intro ι hι F hF
    have f1 : ∀ n, (F n).cell? ⟨mb, 1, none⟩ = some (.map (some mg)) := fun n => by rw [hF n]; exact c1
    have f2 := Lib.hid (fun n => (BoxS.of HX3.out (by rw [hF n]; rfl) : BoxS (F n) b x))
    iterate 4 (go_big_quiet_step (fail))
    refine BigFrame.wpQuiet_want rfl (fun K hK => ?_); refine quiet_load_row 86 _ rfl b rfl 86 (rC x) (0, 0) _ (fun w' ⟨n, e⟩ => e ▸ (f2.out n).row) Tryd.underlying86 rfl (sizeRuns x) ?_; refine hK _ ?_; clear hK K; simp only [Act.put, List.setIfInBounds_toArray, List.set_cons_zero, List.set_cons_succ]
    iterate 1 (go_big_quiet_step (fail))
    refine wpQuiet_nil ?_
    clear f1 f2 hF hι F
    show wpList _ _ _ _ _ _
    have HBD3 : Hid (Below w3.heap.size w3 w3.drew) := Lib.hid ((Below.refl _ _).drew)
    have HM4 := Lib.hid (HM3.out.stay HBD3.out)
    have HX4 : Hid (BoxS w3.drew b x) := Lib.hid (BoxS.of HX3.out rfl)
    have HF4 := Lib.hid (HF3.out.trans (FrM.of_below mb mg p sv HBD3.out))
    have HZ4 : Hid (b < w3.drew.heap.size) := Lib.hid HZ3.out
    clear HM3 HX3 HF3 HZ3 HBD3 c1
    generalize w3.drew = w4 at *
    clear w3
    obtain ⟨w5, hrun, hM5, hbu5⟩ := HM4.out.map.put x HOK.out HNM.out
    have HMP := Lib.hid hM5
    have HBU := Lib.hid hbu5
    clear hM5 hbu5
    refine wpList_put rfl _ _ _ 120 rfl (.map (some mg)) (.agg (rC x)) (.int .i64 L.length) rfl rfl rfl hrun ?_
    refine wpList_nil ?_
    refine NoPanic.normal ?_
    clear hrun
    rw [show ∀ a : Act, a.put none undef = a from fun _ => rfl]
    have hnn := HM4.out.own_ne
    have hMb := HM4.out
    have HR5 := Lib.hid ((HBU.out.block mb hMb.lt hMb.ne).trans hMb.row)
    have HO5 : Hid (w5.ownsRow s 86 5 sv L.length (rowsK L)) := Lib.hid (own_kept hMb.own (fun g hg => HBU.out.block g (hMb.own.lt g hg).2 (hnn g hg).2))
    have HP5 : Hid (PayAt w5 p (t0 + L.length + 1)) := Lib.hid (fun q hq => by
      have h1 := hMb.pay q hq
      rw [show t0 + 1 + L.length = t0 + L.length + 1 from by omega] at h1
      exact h1.kept (HBU.out.block _ h1.lt (by have := hMb.low.2.2 q hq; have := hMb.low.2.1; omega)))
    have HX5 := Lib.hid (BoxS.of HX4.out (HBU.out.block b HX4.out.lt (fun e => by have h1 := HX4.out.row; rw [e, hMb.map.row] at h1; cases h1)))
    have HF5 : Hid (FrM mb mg p w sv w5 sv) := Lib.hid (HF4.out.trans ⟨HBU.out.os, HBU.out.tape, HBU.out.output, HBU.out.size, fun k hk _ h2 _ _ => HBU.out.block k hk h2, fun _ h => .inl h⟩)
    have HZ5 : Hid (b < w5.heap.size) := Lib.hid (Nat.lt_of_lt_of_le HZ4.out HBU.out.size)
    have HLW := Lib.hid hMb.low
    have HNE := Lib.hid hMb.ne
    clear hMb hnn HM4 HX4 HF4 HZ4 HBU
    go_upto_region 6 with fail
    have c2 : w5.drew.cell? ⟨mb, 2, none⟩ = some sv := by
      show w5.cell? _ = _
      rw [cell_of_row w5 mb 2 _ _ _ HR5.out]; rfl
    have HC0 : Hid (w5.drew.cell? ⟨mb, 2, none⟩ = some sv ∧ BoxS w5.drew b x) := Lib.hid ⟨c2, BoxS.of HX5.out rfl⟩
    clear c2
    refine region_mix [(false, 0), (false, 1), (false, 2), (false, 3), (false, 4), (false, 5), (true, 6), (true, 7), (false, 8), (false, 9)] (fun w' => w'.cell? ⟨mb, 2, none⟩ = some sv ∧ BoxS w' b x) (by kernel_rfl) (by kernel_rfl) HC0.out ?_
    simp only [planOps, List.map_cons, List.map_nil, List.getD_cons_zero, List.getD_cons_succ, List.length_cons, List.length_nil, List.drop_succ_cons, List.drop_zero]
    refine mix_seg (seg := [_, _, _, _, _, _]) rfl HC0.out ?_
    intro ι hι F hF
    have f1 := fun n => (hF n).1
    have f2 := Lib.hid (fun n => (hF n).2)
    iterate 5 (go_big_quiet_step (fail))
    refine BigFrame.wpQuiet_want rfl (fun K hK => ?_); refine quiet_load_row 86 _ rfl b rfl 86 (rC x) (0, 0) _ (fun w' ⟨n, e⟩ => e ▸ (f2.out n).row) Tryd.underlying86 rfl (sizeRuns x) ?_; refine hK _ ?_; clear hK K; simp only [Act.put, List.setIfInBounds_toArray, List.set_cons_zero, List.set_cons_succ]
    refine wpQuiet_nil ?_
    clear f1 f2 hF hι F
    have HBD5 : Hid (Below w5.heap.size w5 w5.drew) := Lib.hid ((Below.refl _ _).drew)
    have HR6 : Hid (w5.drew.heap[mb]? = some (.cells #[payV p, .map (some mg), sv] 123 (0, 0))) := Lib.hid HR5.out
    have HO6 := Lib.hid (own_stay HO5.out HBD5.out)
    have HM6 := Lib.hid (MapAt.of (w' := w5.drew) HMP.out rfl)
    have HP6 : Hid (PayAt w5.drew p (t0 + L.length + 1)) := Lib.hid (fun q hq => (HP5.out q hq).kept rfl)
    have HF6 := Lib.hid (HF5.out.trans (FrM.of_below mb mg p sv HBD5.out))
    have HZ6 : Hid (b < w5.drew.heap.size) := Lib.hid HZ5.out
    clear HR5 HO5 HMP HP5 HF5 HZ5 HX5 HBD5
    generalize w5.drew = w6 at *
    clear w5
    unfold rC
    refine mix_eff (fun K hK => ?_)
    go_wp2_with fail
    refine mix_on hK ⟨by rw [World.cell?_alloc_past _ _ _ (World.block_lt_of_cell? _ _ HC0.out.1)]; exact HC0.out.1, HC0.out.2.stay ((Below.refl _ _).alloc (Nat.le_refl _) _)⟩ ?_
    clear hK K
    have HSW : Hid (s ≤ w6.heap.size) := Lib.hid (Nat.le_trans HS.out HF6.out.size)
    refine mix_eff (fun K hK => ?_)
    refine wpList_push 121 86 (.agg #[.int .u64 0, .int .u64 0, .int .u64 0, .int .u64 0, .bool false]) 5 40 Tryd.underlying121 infoK rfl (by decide) rfl (.tmp 38) (.tmp 40) rfl s sv L.length (rowsK L) rfl HO6.out (rC x).toList _ rfl rfl (fun u hu => rowsK_one [x] u (by simpa [rowsK] using hu)) rfl HLL.out (by decide) HSW.out ?_
    intro sv2 w7 ho7 hb7 ha7
    obtain ⟨a9, c9, hsv2, -⟩ := own_slice ho7
    have HSV2 := Lib.hid hsv2
    clear hsv2
    have hno := fun g (hg : sv.ownBlock = some g) => own_type HO6.out hg
    have hnb : sv.ownBlock ≠ some mb := fun e => by
      obtain ⟨cs, hc⟩ := hno _ e
      rw [HR6.out] at hc
      injection hc with hc
      injection hc with _ h2
      exact absurd h2 (by decide)
    have hng : sv.ownBlock ≠ some mg := fun e => by
      obtain ⟨cs, hc⟩ := hno _ e
      rw [HM6.out.row] at hc; cases hc
    have hnx : sv.ownBlock ≠ some b := fun e => by have := HNO.out b e; have := hb.out; omega
    have hmbl : mb < w6.heap.size := (Array.getElem?_eq_some_iff.1 HR6.out).1
    have hr7 := (ha7.block mb hmbl hnb).trans HR6.out
    have HC7 : Hid (w7.cell? ⟨mb, 2, none⟩ = some sv ∧ BoxS w7 b x) := Lib.hid ⟨by rw [cell_of_row w7 mb 2 _ _ _ hr7]; rfl, HC0.out.2.of (ha7.block b HZ6.out hnx)⟩
    have HFZ : Hid (w7.frozen? ⟨mb, 2, none⟩ = false) := Lib.hid (frozen_of_row w7 _ 2 _ _ hr7)
    have HR8 : Hid ((w7.setCell ⟨mb, 2, none⟩ sv2).heap[mb]? = some (.cells #[payV p, .map (some mg), sv2] 123 (0, 0))) := Lib.hid (by rw [heap_setCell_same _ _ _ _ _ _ hr7]; rfl)
    have hset : ∀ k, k ≠ mb → (w7.setCell ⟨mb, 2, none⟩ sv2).heap[k]? = w7.heap[k]? := fun k hk => Below.heap_setCell w7 ⟨mb, 2, none⟩ sv2 k hk
    have HM8 : Hid (MkAt (w7.setCell ⟨mb, 2, none⟩ sv2) s mb mg p t0 sv2 (put L x)) := Lib.hid (by
      rw [put_new HNM.out]
      refine ⟨HR8.out, (HM6.out.of (ha7.block mg HM6.out.lt hng)).of (hset mg HNE.out.symm), ?_, fun q hq => ?_, HLW.out⟩
      · rw [List.length_append, rowsK_snoc]
        refine own_kept ho7 (fun g hg => hset g (fun e => ?_))
        obtain ⟨cs, hc⟩ := own_type ho7 hg
        rw [e, hr7] at hc
        injection hc with hc
        injection hc with _ h2
        exact absurd h2 (by decide)
      · have h1 := HP6.out q hq
        have h2 := HLW.out.2.2 q hq
        rw [List.length_append, List.length_singleton, ← Nat.add_assoc]
        exact (h1.kept (ha7.block _ h1.lt (fun e => by have := (HO6.out.lt _ e).1; omega))).kept (hset _ (by have := HLW.out.1; omega)))
    have HF8 : Hid (FrM mb mg p w sv (w7.setCell ⟨mb, 2, none⟩ sv2) sv2) := Lib.hid (HF6.out.trans ⟨hb7.os, hb7.tape, hb7.output, by simpa using hb7.size, fun k hk h1 h2 h3 h4 => (hset k h1).trans (ha7.block k hk h3), ha7.own⟩)
    have HA8 : Hid (Aff p (t0 + (put L x).length)) := Lib.hid (by rw [put_new HNM.out, List.length_append, List.length_singleton, ← Nat.add_assoc]; exact HA3.out)
    have HI8 : Hid (ix L x = L.length) := Lib.hid (ix_out HNM.out)
    clear hset hnx hng hnb hno hmbl hr7 ho7 hb7 ha7
    refine wpList_nil ?_
    refine mix_on hK HC7.out ?_
    clear hK K
    refine mix_seg (seg := [_, _]) (rest := []) rfl HC7.out ?_
    intro ι hι F hF
    simp only [Act.put, List.setIfInBounds_toArray, List.set_cons_zero, List.set_cons_succ]
    iterate 2 (go_big_quiet_step (fail))
    refine wpQuiet_nil ?_
    clear hF hι F
    show wpList _ _ _ _ _ _
    have c7 := HC7.out.1
    have z7 := HFZ.out
    rw [HSV2.out]
    rw [HSV2.out] at HM8 HF8
    go_wp2_with fail
    refine NoPanic.normal ?_
    go_wp2_with fail
    go_ret
    exact .inl ⟨by rw [HI8.out]; rfl, _, HM8.out, HF8.out, HA8.out⟩
end DfR
end Go.Proofs.YtmjjkamndlefmaaDoor
