/- The document's alike; spots compared. -/
import Derived.Test.YtlbaecjmfgahgaaDoorNfJ
import Derived.Laws.StructEq
namespace Go.Proofs.YtlbaecjmfgahgaaDoor
open Go.RowKit Sets Nf
namespace Nf
theorem ext_getD {α : Type} (d : α) {l k : List α} (hl : l.length = k.length) (h : ∀ i, i < l.length → l.getD i d = k.getD i d) : l = k := by
  apply List.ext_getElem hl
  intro i h1 h2
  have := h i h1
  rwa [List.getD_eq_getElem?_getD, List.getD_eq_getElem?_getD, List.getElem?_eq_getElem h1, List.getElem?_eq_getElem h2] at this
theorem beq_w {S T : Nat} (hS : S < 2 ^ 256) (hT : T < 2 ^ 256) : (((wd S 0 : Nat) : Int) == wd T 0 && ((wd S 1 : Nat) : Int) == wd T 1 && ((wd S 2 : Nat) : Int) == wd T 2 && ((wd S 3 : Nat) : Int) == wd T 3) = decide (S = T) := by
  rw [Bool.eq_iff_iff, decide_eq_true_iff]
  simp only [Bool.and_eq_true, beq_iff_eq]
  constructor
  · rintro h
    refine ext_words hS hT (fun i hi => ?_)
    have : i = 0 ∨ i = 1 ∨ i = 2 ∨ i = 3 := by omega
    rcases this with rfl | rfl | rfl | rfl <;> omega
  · rintro rfl; simp
theorem eqS9999 (a b c d a' b' c' d' : Int) (w : World) : (Op.equalIn 9999 39 (.agg #[.int .u64 a, .int .u64 b, .int .u64 c, .int .u64 d]) (.agg #[.int .u64 a', .int .u64 b', .int .u64 c', .int .u64 d'])).run Tryd.prog w = .ok (a == a' && b == b' && c == c' && d == d') w := by
  have u3 := Tryd.underlying37
  have a3 := Tryd.isAgg37
  have z3 := Tryd.sizeOf37
  rw [show (9999 : Nat) = 9998 + 1 from rfl, Op.equalIn]
  simp only [Sem.run_bind, run_underlying Tryd.underlying39, Result.andThen_ok]
  simp only [Std.Legacy.Range.forIn_eq_forIn_range', Std.Legacy.Range.size, Nat.sub_zero, Nat.add_sub_cancel, Nat.div_one, List.range'_succ, List.range'_zero, List.forIn_cons, List.forIn_nil]
  go_simp
  by_cases h1 : a = a' <;> by_cases h2 : b = b' <;> by_cases h3 : c = c' <;> by_cases h4 : d = d' <;> simp [h1, h2, h3, h4]
theorem part_1 (t : TypeId) (xs : Array Value) (o : Nat) (v : Value) (w : World) (h : (isAgg t).run Tryd.prog w = .ok false w) (hv : xs[o]? = some v) : (part t xs o).run Tryd.prog w = .ok v w := by
  unfold part
  simp only [Sem.run_bind, h, Result.andThen_ok, hv]
  rfl
theorem part_s (x : Nat × Nat) (w : World) : (part 39 (row5 x) 0).run Tryd.prog w = .ok (.agg #[.int .u64 (wd x.1 0), .int .u64 (wd x.1 1), .int .u64 (wd x.1 2), .int .u64 (wd x.1 3)]) w := by
  have h1 : (isAgg 39).run Tryd.prog w = .ok true w := by kernel_rfl
  have h2 : (sizeOf 39).run Tryd.prog w = .ok 4 w := by kernel_rfl
  unfold part
  simp only [Sem.run_bind, h1, h2, Result.andThen_ok, if_true, Sem.run_pure]
  rfl
theorem two {α : Type} (l : List α) (h : l.length = 2) : ∃ a b, l = [a, b] := by
  rcases l with _ | ⟨a, _ | ⟨b, _ | ⟨c, l⟩⟩⟩ <;> simp at h
  exact ⟨a, b, rfl⟩
theorem fieldsSpot : ∃ f1 f2 : Field, (Tryd.prog.fieldsOf 41).toList = [f1, f2] ∧ [f1, f2].map (fun f => (f.name, f.type, f.offset)) = [("Set", 39, 0), ("Tag", 5, 4)] := by
  have hf : (Tryd.prog.fieldsOf 41).toList.map (fun f => (f.name, f.type, f.offset)) = [("Set", 39, 0), ("Tag", 5, 4)] := by kernel_rfl
  generalize (Tryd.prog.fieldsOf 41).toList = fs at hf ⊢
  have hl := congrArg List.length hf
  simp only [List.length_map, List.length_cons, List.length_nil] at hl
  obtain ⟨f1, f2, rfl⟩ := two fs hl
  exact ⟨f1, f2, rfl, hf⟩
set_option maxRecDepth 100000 in
theorem eqSpot (x y : Nat × Nat) (hx : x.1 < 2 ^ 256) (hy : y.1 < 2 ^ 256) (w : World) :
    (Op.equalIn 10000 41 (.agg (row5 x)) (.agg (row5 y))).run Tryd.prog w = .ok (decide (x = y)) w := by
  have he : decide (x = y) = (decide (x.1 = y.1) && decide (x.2 = y.2)) := by
    cases x; cases y
    simp
  have hS := beq_w hx hy
  have a1 : (isAgg 5).run Tryd.prog w = .ok false w := by kernel_rfl
  obtain ⟨f1, f2, e1, e2⟩ := fieldsSpot
  simp only [List.map_cons, List.map_nil, List.cons.injEq, Prod.mk.injEq, and_true] at e2
  obtain ⟨⟨n1, t1, o1⟩, n2, t2, o2⟩ := e2
  rw [show (10000 : Nat) = 9999 + 1 from rfl, run_equalIn_struct w 9999 41 _ _ (by kernel_rfl) (by kernel_rfl), e1, he]
  unfold Op.eqFields
  rw [n1, t1, o1, if_pos (by decide)]
  simp only [Sem.run_bind, part_s, Result.andThen_ok]
  rw [eqS9999, hS]
  by_cases h2 : x.1 = y.1
  case neg => simp [h2]
  simp only [h2, Result.andThen_ok, Bool.not_true, Bool.false_eq_true, if_false, decide_true, Bool.true_and]
  unfold Op.eqFields
  rw [n2, t2, o2, if_pos (by decide)]
  simp only [Sem.run_bind, part_1 _ (row5 x) 4 (.int .u8 x.2) w a1 rfl, part_1 _ (row5 y) 4 (.int .u8 y.2) w a1 rfl, Result.andThen_ok]
  rw [run_equalIn_int w 9998 5 .u8 .u8 _ _ Tryd.underlying5]
  by_cases h1 : x.2 = y.2
  case neg => (have : ((x.2 : Int) == (y.2 : Int)) = false := by simp only [beq_eq_false_iff_ne]; omega); simp [this, h1]
  simp only [h1, BEq.rfl, Result.andThen_ok, Bool.not_true, Bool.false_eq_true, if_false, decide_true]
  rfl
theorem quiet_neqS {C : World → Prop} {a : Act} {K : Act → Prop} {o : Oper} (ty t : TypeId) (x y : Operand) (ho : o.op = .binOp .neq ty x y t) (xs ys : Array Value) (hx : a.eval x = .agg xs) (hy : a.eval y = .agg ys) (hg : Tryd.prog.eqGuardType Tryd.prog.depth ty = false)
    (r : Bool) (hr : ∀ w, (Op.equalIn 10000 ty (.agg xs) (.agg ys)).run Tryd.prog w = .ok r w) (h : K (a.put o.dst (.bool (!r)))) : o.quiet Tryd.prog a C K := by
  refine ⟨.bool (!r), fun w hw => ?_, h⟩
  unfold Oper.quietAt execOp
  simp only [ho, hx, hy, Sem.run_bind, run_eqGuard_agg w .neq ty x y _ _ hg, run_neq_struct, hr, Result.andThen_ok, Sem.run_pure]
  exact ⟨rfl, rfl⟩
set_option maxHeartbeats 3200000 in
set_option maxRecDepth 100000 in
theorem ralike_any (a b : Option Addr) (ca cb : Nat) (l k : List Int) (w : World) (h : NumsIn w a l) (hk : NumsIn w b k) (hl : l.length ≤ 1000) :
    Calls Tryd.prog 25 #[.slice a l.length ca, .slice b k.length cb] w fun e w' => e = .returned (.bool (decide (l = k))) ∧ ∃ n, w' = w.drewN n := by
  have HN := Lib.hid h
  have HK := Lib.hid hk
  have HL := Lib.hid hl
  have HX := Lib.hid (ext_getD (0 : Int) (l := l) (k := k))
  clear h hk hl
  go_enter Tryd.func25, Tryd.ntmps25
  by_cases hlen : l.length = k.length
  · have hd0 : (((l.length : Nat) : Int) != ((k.length : Nat) : Int)) = false := by rw [hlen]; simp
    have HE := Lib.hid hlen
    clear hlen
    go_wp2_with fail
    go_loopw [5] (fun i wr => ∃ j n : Nat, i = .int .i64 j ∧ j ≤ l.length ∧ wr = w.drewN n ∧ Hid (∀ t, t < j → l.getD t 0 = k.getD t 0)) (fun i _ => ((l.length : Int) - intOf i).toNat)
    case atStart => exact ⟨0, 0, rfl, Nat.zero_le _, by rw [World.drewN_zero], Lib.hid (fun t ht => by omega)⟩
    case round =>
      obtain ⟨j, n, rfl, hj, rfl, HI⟩ := hrel
      by_cases hlt : j < l.length
      · have hdd : decide ((j : Int) < (l.length : Int)) = true := decide_eq_true (by omega)
        have hd2 : decide (j < l.length) = true := decide_eq_true hlt
        obtain ⟨b1, o1, rfl, hc1⟩ := HN.out j hlt
        obtain ⟨b2, o2, rfl, hc2⟩ := HK.out j (by rw [← HE.out]; exact hlt)
        have hj1 : (j : Int) < (l.length : Int) := by omega
        have hj2 : (j : Int) < (k.length : Int) := by have := HE.out; omega
        have HW1 : Hid (wrap64 ((j : Int) + 1) = ((j + 1 : Nat) : Int)) := Lib.hid (nat_wrap (by have := HL.out; omega))
        have HJ := Lib.hid hlt
        have HD : Hid (l.getD j 0 ≠ k.getD j 0 → decide (l = k) = false) := Lib.hid (fun h => decide_eq_false (fun e => h (by rw [e])))
        have HS : Hid (l.getD j 0 = k.getD j 0 → ∀ t, t < j + 1 → l.getD t 0 = k.getD t 0) := Lib.hid (fun h t ht => by
          rcases Nat.lt_or_ge t j with h1 | h1
          · exact HI.out t h1
          · have : t = j := by omega
            subst this; exact h)
        clear hlt
        generalize l.getD j 0 = y at *
        generalize k.getD j 0 = z at *
        by_cases hyz : y = z
        · have hb : (y != z) = false := by rw [hyz]; simp
          have HS2 := Lib.hid (HS.out hyz)
          clear hyz
          go_wp2_with fail
          go_quiet (fail)
          go_wp2_with fail
          go_roundw
          case rel => exact ⟨j + 1, _, by rw [HW1.out], HJ.out, by first | rfl | rw [World.drewN_drewN], HS2⟩
          case measure => rw [HW1.out]; exact meas8 HJ.out
        · have hb : (y != z) = true := by rw [bne_iff_ne]; exact hyz
          have HR := Lib.hid (HD.out hyz)
          clear hyz
          go_wp2_with fail
          go_quiet (fail)
          go_wp2_with fail
          go_ret
          exact ⟨by rw [HR.out]; rfl, _, by first | rfl | rw [World.drewN_drewN]⟩
      · have hdd : decide ((j : Int) < (l.length : Int)) = false := decide_eq_false (by omega)
        have hd2 : decide (j < l.length) = false := decide_eq_false hlt
        have HR : Hid (decide (l = k) = true) := Lib.hid (decide_eq_true (HX.out HE.out (fun i hi => HI.out i (by omega))))
        clear hlt
        go_wp2_with fail
        go_ret
        exact ⟨by rw [HR.out]; rfl, _, rfl⟩
  · have hd0 : (((l.length : Nat) : Int) != ((k.length : Nat) : Int)) = true := by rw [bne_iff_ne]; omega
    have HR : Hid (decide (l = k) = false) := Lib.hid (decide_eq_false (fun e => hlen (by rw [e])))
    clear hlen
    go_wp2_with fail
    go_ret
    exact ⟨by rw [HR.out]; rfl, 0, by rw [World.drewN_zero]⟩
end Nf
end Go.Proofs.YtlbaecjmfgahgaaDoor
