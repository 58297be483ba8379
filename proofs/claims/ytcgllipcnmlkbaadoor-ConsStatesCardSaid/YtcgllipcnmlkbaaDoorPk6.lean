/- joinAll. -/
import Derived.Test.YtcgllipcnmlkbaaDoorPk5
namespace Go.Proofs.YtcgllipcnmlkbaaDoor
open Go.RowKit Sets Tr Rx Sp
theorem ends_range {w : World} {B q c : Nat} {L : List En} (h : OwnE B w (.slice (some ⟨q, 0, none⟩) L.length c) L) {j : Nat} (hj : j < L.length) : w.rangeAt q (j * 3) (enc3 (L.getD j default)) := by
  intro i v hv
  have h1 := ens_get L j i hj v hv
  have hl := (List.getElem?_eq_some_iff.1 h1).1
  rw [ens_length] at hl
  rw [World.ownsRow.cellAt h _ hl]
  exact h1
theorem meas7 {i c : Nat} (h : i < c) : ((c : Int) - ((i : Int) + 1)).toNat < ((c : Int) - (i : Int)).toNat := by omega
theorem cF_lt (m : Mk) (n i : Nat) (hm : Ok m) : ∀ c, n + (i + c) * m.s.length ≤ 63 → ∀ y ∈ cF m n i c, y < 18446744073709551616
  | 0, _ => fun y hy => by cases hy
  | c + 1, h => fun y hy => by
    have e : (i + (c + 1)) * m.s.length = (i + c) * m.s.length + m.s.length := by rw [← Nat.add_assoc, Nat.succ_mul]
    rw [cF_snoc] at hy
    rcases List.mem_append.1 hy with hy | hy
    · exact cF_lt m n i hm c (by omega) y hy
    · have := up_lt (m := n + (i + c) * m.s.length) hm.fol y hy
      exact Nat.lt_of_lt_of_le this (Nat.le_trans (Nat.pow_le_pow_right (by decide) (by omega : _ ≤ 63)) (by decide))
/-- ends are stored where they were laid -/
theorem wpList_lay_ends {ops : Array Oper} {rest : List Oper} {o : Oper} {a : Act} {w : World} {Q : Exit → Act → World → Prop} (hgd : o.guard = none) (x y : Operand)
    (ho : o.op = .store 80 x y) (f l : Nat) (e : Bool) (hx : a.eval x = .pointer (some ⟨w.heap.size, 0, none⟩)) (hy : a.eval y = .agg (en3 f l e))
    (h : wpList Tryd.prog ops Q rest (a.put o.dst undef) (w.alloc (.cells #[.int .u64 f, .int .u64 l, .bool e] 80))) : wpList Tryd.prog ops Q (o :: rest) a (w.alloc (.cells #[.int .u64 0, .int .u64 0, .bool false] 80)) := by
  refine wpList_put_ends hgd x y ho w.heap.size 0 0 false f l e hx hy (ERow.new w 0 0 false) (fun _ => ?_)
  have e1 : (w.alloc (.cells #[.int .u64 0, .int .u64 0, .bool false] 80)).setRow w.heap.size (en3 f l e) = w.alloc (.cells (en3 f l e) 80) := World.setRow_alloc_new _ _ _ _
  rw [e1]
  exact h
theorem ERow.put2 {w : World} {b f l : Nat} {e : Bool} (h : ERow w b f l e) (e2 : Bool) : ERow (w.setCell ⟨b, 2, none⟩ (.bool e2)) b f l e2 := by
  unfold ERow en3 at *; simp [World.setCell, Array.getElem?_modify, h]
structure JoI (w : World) (B q A n c : Nat) (nv sv fv : Value) (S G : List Nat) (m : Mk) (mn : Int) (many : Nat) (wr : World) (i : Nat) : Prop where
  at_ : MkAt wr B nv sv fv S (G ++ (up n (reps m mn i).f ++ cF m n i (many - i)))
  own : OwnE A wr (.slice (some ⟨q, 0, none⟩) many c) (cE m n many)
  fr : Fr B w sv fv wr sv fv
  r6 : ERow wr w.heap.size 0 0 false
  r7 : ERow wr (w.heap.size + 1) ((reps m mn i).fi <<< n) ((reps m mn i).la <<< n) (reps m mn i).em
set_option maxHeartbeats 6400000 in
set_option maxRecDepth 100000 in
theorem joinAll_any (B n many A : Nat) (mn : Int) (nv sv fv v : Value) (S G : List Nat) (m : Mk) (w : World) (h : MkAt w B nv sv fv S (G ++ cF m n 0 many)) (hv : OwnE A w v (cE m n many)) (hG : G.length = n) (hGb : ∀ y ∈ G, y < 18446744073709551616) (ha : Ok m) (h1 : 1 ≤ many) (h9 : many ≤ 9) (hn : n + many * m.s.length ≤ 63)
    (hT : Tab w) (hg : 0 < B) :
    Calls Tryd.prog 59 #[.pointer (some ⟨B, 0, none⟩), v, .int .i64 mn] w fun e w' =>
      e = .returned (enV n (reps m mn many)) ∧ MkAt w' B nv sv fv S (G ++ up n (reps m mn many).f) ∧ Fr B w sv fv w' sv fv := by
  have hB := h.row.lt
  obtain ⟨q, c, rfl⟩ : ∃ q c, v = .slice (some ⟨q, 0, none⟩) many c := by
    rcases hv.2 with ⟨h3, h4⟩ | ⟨g, cap, cur, h3, -⟩
    · rw [cE_len] at h4; omega
    · exact ⟨g, cap, by rw [h3, cE_len]⟩
  have HQ := Lib.hid (hv.lt q rfl).2
  have hal1 := (Below.refl w.heap.size w).alloc (Nat.le_refl _) (.cells #[.int .u64 0, .int .u64 0, .bool false] 80)
  have hal2 := hal1.alloc (by simp) (.cells #[.int .u64 0, .int .u64 0, .bool true] 80)
  have HI : Hid (JoI w B q A n c nv sv fv S G m mn many ((w.alloc (.cells #[.int .u64 0, .int .u64 0, .bool false] 80)).alloc (.cells #[.int .u64 0, .int .u64 0, .bool true] 80)) 0) := Lib.hid (by
    refine ⟨?_, hv.below hal2, Fr.of_below sv fv hal2 hB, ?_, ?_⟩
    · exact h.below hal2
    · exact (ERow.new w 0 0 false).below ((Below.refl _ _).alloc (Nat.le_refl _) _)
    · have := ERow.new (w.alloc (.cells #[.int .u64 0, .int .u64 0, .bool false] 80)) 0 0 true
      rw [show (w.alloc (.cells #[.int .u64 0, .int .u64 0, .bool false] 80)).heap.size = w.heap.size + 1 from by simp] at this
      have e1 : (reps m mn 0).fi <<< n = 0 := by show 0 <<< n = 0; simp
      have e2 : (reps m mn 0).la <<< n = 0 := by show 0 <<< n = 0; simp
      rw [e1, e2]
      exact this)
  have HN := Lib.hid hn
  have HOK := Lib.hid ha
  have HG := Lib.hid hG
  have HGB := Lib.hid hGb
  have HT := Lib.hid hT
  have HBW := Lib.hid hB
  clear h hv hal1 hal2 hn ha hG hGb hT
  go_enter Tryd.func59, Tryd.ntmps59
  go_wp2_with fail
  generalize ((w.alloc (.cells #[.int .u64 0, .int .u64 0, .bool false] 80)).alloc (.cells #[.int .u64 0, .int .u64 0, .bool true] 80)) = w2 at *
  go_loopw [13] (fun x wr => ∃ i : Nat, x = .int .i64 i ∧ i ≤ many ∧ Hid (JoI w B q A n c nv sv fv S G m mn many wr i)) (fun x _ => ((many : Int) - intOf x).toNat)
  case atStart => exact ⟨0, rfl, Nat.zero_le _, HI⟩
  case round =>
    obtain ⟨i, rfl, him, HI1⟩ := hrel
    clear HI w2
    generalize hwr : wr = w1 at *
    clear hwr wr
    generalize hgb : w.heap.size = b at *
    have HGB2 := Lib.hid hgb
    clear hgb
    by_cases hlt : i < many
    case neg =>
      have hie : i = many := by omega
      subst hie
      have hd : decide ((i : Int) < (i : Int)) = false := decide_eq_false (by omega)
      have hd2 : decide (i < i) = false := decide_eq_false (by omega)
      obtain ⟨h5, h6, h7, h8, h10⟩ := HI1.out
      rw [Nat.sub_self, cF_zero, List.append_nil] at h5
      have H5 := Lib.hid h5
      have H7 := Lib.hid h7
      have H8 := Lib.hid h8
      have H10 := Lib.hid h10
      clear h5 h6 h7 h8 h10 HI1
      rw [HGB2.out] at H8 H10
      go_wp2_with (first
        | (refine wpList_get_ends rfl _ rfl (b + 1) _ _ _ rfl H10.out ?_)
        | (refine wpList_put_ends rfl _ _ rfl b 0 0 false _ _ _ rfl rfl H8.out ?_; intro hE7; have HE7 := Lib.hid hE7; clear hE7))
      have ho := H5.out.off H8.out (by decide) (by decide)
      have hfin := H5.out.other b (en3 ((reps m mn i).fi <<< n) ((reps m mn i).la <<< n) (reps m mn i).em) (by omega) ho.1 ho.2
      exact bodyPost_ret (v := enV n (reps m mn i)) (results_cell_row (p := 6) Tryd.results59 _ _ b 80 _ (0, 0) _ rfl HE7.out Tryd.underlying80 rfl (sizeEnds _ _ _)) rfl ⟨rfl, hfin, H7.out.setRow _ (by have := HGB2.out; omega) (by have := HGB2.out; omega)⟩
    case pos =>
      have hd : decide ((i : Int) < (many : Int)) = true := decide_eq_true (by omega)
      have hd2 : decide (i < many) = true := decide_eq_true (by omega)
      obtain ⟨h5, h6, h7, h8, h10⟩ := HI1.out
      have hrg := ends_range (q := q) (c := c) (j := i) (L := cE m n many) (by rw [cE_len]; exact h6) (by rw [cE_len]; exact hlt)
      rw [cE_get _ _ _ _ hlt] at hrg
      obtain ⟨f1, hf1⟩ : ∃ x, x = m.fi <<< (n + i * m.s.length) := ⟨_, rfl⟩
      obtain ⟨l1, hl1⟩ : ∃ x, x = m.la <<< (n + i * m.s.length) := ⟨_, rfl⟩
      obtain ⟨e1, he1⟩ : ∃ x, x = m.em := ⟨_, rfl⟩
      have hen : en m (n + i * m.s.length) = ⟨f1, l1, e1⟩ := by rw [hf1, hl1, he1]; rfl
      rw [hen] at hrg
      clear hen
      have HRG := Lib.hid hrg
      have H5 := Lib.hid h5
      have H6 := Lib.hid h6
      have H7 := Lib.hid h7
      have H8 := Lib.hid h8
      have H10 := Lib.hid h10
      have HF1 := Lib.hid hf1
      have HL1 := Lib.hid hl1
      have HE1 := Lib.hid he1
      obtain ⟨D, hD⟩ : ∃ d, d = decide (mn ≤ (i : Int)) := ⟨_, rfl⟩
      have hdm : decide (mn ≤ (i : Int)) = D := hD.symm
      have HD := Lib.hid hD
      clear h5 h6 h7 h8 h10 HI1 hrg hf1 hl1 he1 hD
      rw [HGB2.out] at H8 H10
      have hWm : n + (i + 1) * m.s.length ≤ 63 := by have := HN.out; have : (i + 1) * m.s.length ≤ many * m.s.length := Nat.mul_le_mul_right _ (by omega); omega
      rw [Nat.succ_mul] at hWm
      have hlf : (G ++ (up n (reps m mn i).f ++ cF m n i (many - i))).length = n + many * m.s.length := by
        rw [List.length_append, List.length_append, up_length, (ok_reps HOK.out mn i).len, reps_len, cF_len _ _ _ HOK.out.len, HG.out]
        have : i * m.s.length + (many - i) * m.s.length = many * m.s.length := by rw [← Nat.add_mul]; congr 1; omega
        omega
      have hil : i * m.s.length + m.s.length ≤ many * m.s.length := by rw [← Nat.succ_mul]; exact Nat.mul_le_mul_right _ (by omega)
      have hok := ok_reps HOK.out mn i
      have hp : ∀ (x k : Nat), x < 2 ^ k → n + k ≤ 63 → x <<< n < 18446744073709551616 := fun x k hx hk => Nat.lt_of_lt_of_le (shl_lt hx) (Nat.le_trans (Nat.pow_le_pow_right (by decide) hk) (by decide))
      have hjn := joins m mn n i (many - i - 1) G HOK.out HG.out
      rw [show many - i - 1 + 1 = many - i from by omega, ← HF1.out] at hjn
      have HSub : Hid (many - (i + 1) = many - i - 1) := Lib.hid (by omega)
      have hrf := reps_fi m mn n i
      have hrl := reps_la m mn n i
      have hre := reps_em m mn i
      rw [← HF1.out] at hrf
      rw [← HL1.out, ← HE1.out, ← HD.out] at hrl
      rw [← HE1.out, ← HD.out] at hre
      obtain ⟨f2, hf2⟩ : ∃ x, x = (reps m mn (i + 1)).fi <<< n := ⟨_, rfl⟩
      obtain ⟨l2, hl2⟩ : ∃ x, x = (reps m mn (i + 1)).la <<< n := ⟨_, rfl⟩
      obtain ⟨e2, he2⟩ : ∃ x, x = (reps m mn (i + 1)).em := ⟨_, rfl⟩
      have HF2' := Lib.hid hf2
      have HL2' := Lib.hid hl2
      have HE2' := Lib.hid he2
      rw [← hf2] at hrf
      rw [← hl2] at hrl
      rw [← he2] at hre
      have hj0 := (fun (w' : World) (hM : MkAt w' B nv sv fv S (G ++ (up n (reps m mn i).f ++ cF m n i (many - i)))) (hT : Tab w') =>
        join_any B nv sv fv S _ ((reps m mn i).fi <<< n) ((reps m mn i).la <<< n) f1 l1 (reps m mn i).em (e1 || D) w' hM (by rw [hlf]; exact HN.out)
          (by rw [hlf]; exact lt_more (shl_lt hok.la) (by rw [reps_len]; omega))
          (hp _ _ hok.fi (by rw [reps_len]; omega))
          (by rw [HF1.out]; exact Nat.lt_of_lt_of_le (shl_lt HOK.out.fi) (Nat.le_trans (Nat.pow_le_pow_right (by decide) (by omega : _ ≤ 63)) (by decide)))
          (by rw [HL1.out]; exact Nat.lt_of_lt_of_le (shl_lt HOK.out.la) (Nat.le_trans (Nat.pow_le_pow_right (by decide) (by omega : _ ≤ 63)) (by decide)))
          (fun y hy => by
            rcases List.mem_append.1 hy with hy | hy
            · exact HGB.out y hy
            · rcases List.mem_append.1 hy with hy | hy
              · exact Nat.lt_of_lt_of_le (up_lt hok.fol y hy) (Nat.le_trans (Nat.pow_le_pow_right (by decide) (by rw [reps_len]; omega : _ ≤ 63)) (by decide))
              · exact cF_lt m n i HOK.out _ (by rw [show i + (many - i) = many from by omega]; exact HN.out) y hy) hT hg)
      have HJ : Hid (∀ w' : World, MkAt w' B nv sv fv S (G ++ (up n (reps m mn i).f ++ cF m n i (many - i))) → Tab w' → Calls Tryd.prog 47 #[.pointer (some ⟨B, 0, none⟩), .agg (en3 ((reps m mn i).fi <<< n) ((reps m mn i).la <<< n) (reps m mn i).em), .agg (en3 f1 l1 (e1 || D))] w' fun e w'' =>
          e = .returned (.agg (en3 f2 l2 e2)) ∧ MkAt w'' B nv sv fv S (G ++ (up n (reps m mn (i + 1)).f ++ cF m n (i + 1) (many - (i + 1)))) ∧ Fr B w' sv fv w'' sv fv) := Lib.hid fun w' hM hT => by
        have h5 := hj0 w' hM hT
        rw [← hrf, ← hrl, ← hre, hjn] at h5
        rw [HSub.out]
        exact h5
      clear hj0
      clear hWm hlf hil hok hp hjn hrf hrl hre hf2 hl2 he2
      have HX : Hid (∀ E : Bool, MkAt (w1.alloc (.cells #[.int .u64 f1, .int .u64 l1, .bool E] 80)) B nv sv fv S (G ++ (up n (reps m mn i).f ++ cF m n i (many - i))) ∧ Fr B w sv fv (w1.alloc (.cells #[.int .u64 f1, .int .u64 l1, .bool E] 80)) sv fv ∧
          ERow (w1.alloc (.cells #[.int .u64 f1, .int .u64 l1, .bool E] 80)) b 0 0 false ∧ ERow (w1.alloc (.cells #[.int .u64 f1, .int .u64 l1, .bool E] 80)) (b + 1) ((reps m mn i).fi <<< n) ((reps m mn i).la <<< n) (reps m mn i).em ∧
          OwnE A (w1.alloc (.cells #[.int .u64 f1, .int .u64 l1, .bool E] 80)) (.slice (some ⟨q, 0, none⟩) many c) (cE m n many) ∧ ERow (w1.alloc (.cells #[.int .u64 f1, .int .u64 l1, .bool E] 80)) w1.heap.size f1 l1 E ∧ Tab (w1.alloc (.cells #[.int .u64 f1, .int .u64 l1, .bool E] 80))) := Lib.hid fun E => by
        have hal := (Below.refl w1.heap.size w1).alloc (Nat.le_refl _) (.cells #[.int .u64 f1, .int .u64 l1, .bool E] 80)
        have hfr := H7.out.trans (Fr.of_below _ _ hal H5.out.row.lt)
        exact ⟨H5.out.below hal, hfr, H8.out.below hal, H10.out.below hal, OwnE.below H6.out hal, ERow.new w1 f1 l1 E, HT.out.below hfr.below hg⟩
      have hl0 : b + 1 ≠ w1.heap.size := by have := H10.out.lt; omega
      cases e1 <;> cases D
      · go_wp2_with (first
          | (refine wpList_load_mid rfl 80 _ rfl q (i * 3) rfl (enc3 ⟨f1, l1, _⟩) _ HRG.out Tryd.underlying80 rfl (by kernel_rfl) ?_)
          | (refine wpList_lay_ends rfl _ _ rfl f1 l1 _ rfl rfl ?_)
          | (refine wpList_get_ends rfl _ rfl (b + 1) _ _ _ rfl (HX.out _).2.2.2.1 ?_)
          | (refine wpList_get_ends rfl _ rfl w1.heap.size f1 l1 _ rfl (HX.out _).2.2.2.2.2.1 ?_)
          | (go_at_call 47; refine (HJ.out _ (HX.out _).1 (HX.out _).2.2.2.2.2.2).mono ?_; rintro e w3 ⟨rfl, hM3, hF3⟩; have HM3 := Lib.hid hM3; have HF3 := Lib.hid hF3; clear hM3 hF3; have HE3 := Lib.hid ((HX.out false).2.2.2.1.fr (HX.out false).1 HF3.out))
          | (refine wpList_put_ends rfl _ _ rfl (b + 1) _ _ _ f2 l2 e2 rfl rfl HE3.out ?_; intro hE7; have HE7 := Lib.hid hE7; clear hE7))
        refine ⟨⟨i + 1, by rw [Int.natCast_add]; rfl, hlt, Lib.hid ?_⟩, meas7 hlt⟩
        have ho := HM3.out.off HE3.out (by decide) (by decide)
        have hb1 : b + 1 ≠ B := by omega
        refine ⟨HM3.out.other (b + 1) _ hb1 ho.1 ho.2, own_kept (OwnE.fr (HX.out false).2.2.2.2.1 (HX.out false).1 HF3.out) fun g hg => setRow_other _ _ _ _ (fun e => ?_), ((HX.out false).2.1.trans HF3.out).setRow _ (by have := HGB2.out; omega) (by have := HGB2.out; omega), ?_, ?_⟩
        · have h5 : g = q := by simpa [Value.ownBlock] using hg.symm
          have := HQ.out
          omega
        · rw [HGB2.out]
          exact ((HX.out false).2.2.1.fr (HX.out false).1 HF3.out).kept (setRow_other _ _ _ _ (by omega))
        · rw [HGB2.out, ← HF2'.out, ← HL2'.out, ← HE2'.out]
          exact HE7.out
      · go_wp2_with (first
          | (refine wpList_load_mid rfl 80 _ rfl q (i * 3) rfl (enc3 ⟨f1, l1, _⟩) _ HRG.out Tryd.underlying80 rfl (by kernel_rfl) ?_)
          | (refine wpList_lay_ends rfl _ _ rfl f1 l1 _ rfl rfl ?_)
          | (refine wpList_get_ends rfl _ rfl (b + 1) _ _ _ rfl (HX.out _).2.2.2.1 ?_)
          | (refine wpList_get_ends rfl _ rfl w1.heap.size f1 l1 _ rfl (HX.out _).2.2.2.2.2.1 ?_)
          | (go_at_call 47; refine (HJ.out _ (HX.out _).1 (HX.out _).2.2.2.2.2.2).mono ?_; rintro e w3 ⟨rfl, hM3, hF3⟩; have HM3 := Lib.hid hM3; have HF3 := Lib.hid hF3; clear hM3 hF3; have HE3 := Lib.hid ((HX.out true).2.2.2.1.fr (HX.out true).1 HF3.out))
          | (refine wpList_put_ends rfl _ _ rfl (b + 1) _ _ _ f2 l2 e2 rfl rfl HE3.out ?_; intro hE7; have HE7 := Lib.hid hE7; clear hE7))
        refine ⟨⟨i + 1, by rw [Int.natCast_add]; rfl, hlt, Lib.hid ?_⟩, meas7 hlt⟩
        have ho := HM3.out.off HE3.out (by decide) (by decide)
        have hb1 : b + 1 ≠ B := by omega
        refine ⟨HM3.out.other (b + 1) _ hb1 ho.1 ho.2, own_kept (OwnE.fr (HX.out true).2.2.2.2.1 (HX.out true).1 HF3.out) fun g hg => setRow_other _ _ _ _ (fun e => ?_), ((HX.out true).2.1.trans HF3.out).setRow _ (by have := HGB2.out; omega) (by have := HGB2.out; omega), ?_, ?_⟩
        · have h5 : g = q := by simpa [Value.ownBlock] using hg.symm
          have := HQ.out
          omega
        · rw [HGB2.out]
          exact ((HX.out true).2.2.1.fr (HX.out true).1 HF3.out).kept (setRow_other _ _ _ _ (by omega))
        · rw [HGB2.out, ← HF2'.out, ← HL2'.out, ← HE2'.out]
          exact HE7.out
      · go_wp2_with (first
          | (refine wpList_load_mid rfl 80 _ rfl q (i * 3) rfl (enc3 ⟨f1, l1, _⟩) _ HRG.out Tryd.underlying80 rfl (by kernel_rfl) ?_)
          | (refine wpList_lay_ends rfl _ _ rfl f1 l1 _ rfl rfl ?_)
          | (refine wpList_get_ends rfl _ rfl (b + 1) _ _ _ rfl (HX.out _).2.2.2.1 ?_)
          | (refine wpList_get_ends rfl _ rfl w1.heap.size f1 l1 _ rfl (HX.out _).2.2.2.2.2.1 ?_)
          | (go_at_call 47; refine (HJ.out _ (HX.out _).1 (HX.out _).2.2.2.2.2.2).mono ?_; rintro e w3 ⟨rfl, hM3, hF3⟩; have HM3 := Lib.hid hM3; have HF3 := Lib.hid hF3; clear hM3 hF3; have HE3 := Lib.hid ((HX.out true).2.2.2.1.fr (HX.out true).1 HF3.out))
          | (refine wpList_put_ends rfl _ _ rfl (b + 1) _ _ _ f2 l2 e2 rfl rfl HE3.out ?_; intro hE7; have HE7 := Lib.hid hE7; clear hE7))
        refine ⟨⟨i + 1, by rw [Int.natCast_add]; rfl, hlt, Lib.hid ?_⟩, meas7 hlt⟩
        have ho := HM3.out.off HE3.out (by decide) (by decide)
        have hb1 : b + 1 ≠ B := by omega
        refine ⟨HM3.out.other (b + 1) _ hb1 ho.1 ho.2, own_kept (OwnE.fr (HX.out true).2.2.2.2.1 (HX.out true).1 HF3.out) fun g hg => setRow_other _ _ _ _ (fun e => ?_), ((HX.out true).2.1.trans HF3.out).setRow _ (by have := HGB2.out; omega) (by have := HGB2.out; omega), ?_, ?_⟩
        · have h5 : g = q := by simpa [Value.ownBlock] using hg.symm
          have := HQ.out
          omega
        · rw [HGB2.out]
          exact ((HX.out true).2.2.1.fr (HX.out true).1 HF3.out).kept (setRow_other _ _ _ _ (by omega))
        · rw [HGB2.out, ← HF2'.out, ← HL2'.out, ← HE2'.out]
          exact HE7.out
      · go_wp2_with (first
          | (refine wpList_load_mid rfl 80 _ rfl q (i * 3) rfl (enc3 ⟨f1, l1, _⟩) _ HRG.out Tryd.underlying80 rfl (by kernel_rfl) ?_)
          | (refine wpList_lay_ends rfl _ _ rfl f1 l1 _ rfl rfl ?_)
          | (refine wpList_get_ends rfl _ rfl (b + 1) _ _ _ rfl (HX.out _).2.2.2.1 ?_)
          | (refine wpList_get_ends rfl _ rfl w1.heap.size f1 l1 _ rfl (HX.out _).2.2.2.2.2.1 ?_)
          | (go_at_call 47; refine (HJ.out _ (HX.out _).1 (HX.out _).2.2.2.2.2.2).mono ?_; rintro e w3 ⟨rfl, hM3, hF3⟩; have HM3 := Lib.hid hM3; have HF3 := Lib.hid hF3; clear hM3 hF3; have HE3 := Lib.hid ((HX.out true).2.2.2.1.fr (HX.out true).1 HF3.out))
          | (refine wpList_put_ends rfl _ _ rfl (b + 1) _ _ _ f2 l2 e2 rfl rfl HE3.out ?_; intro hE7; have HE7 := Lib.hid hE7; clear hE7))
        refine ⟨⟨i + 1, by rw [Int.natCast_add]; rfl, hlt, Lib.hid ?_⟩, meas7 hlt⟩
        have ho := HM3.out.off HE3.out (by decide) (by decide)
        have hb1 : b + 1 ≠ B := by omega
        refine ⟨HM3.out.other (b + 1) _ hb1 ho.1 ho.2, own_kept (OwnE.fr (HX.out true).2.2.2.2.1 (HX.out true).1 HF3.out) fun g hg => setRow_other _ _ _ _ (fun e => ?_), ((HX.out true).2.1.trans HF3.out).setRow _ (by have := HGB2.out; omega) (by have := HGB2.out; omega), ?_, ?_⟩
        · have h5 : g = q := by simpa [Value.ownBlock] using hg.symm
          have := HQ.out
          omega
        · rw [HGB2.out]
          exact ((HX.out true).2.2.1.fr (HX.out true).1 HF3.out).kept (setRow_other _ _ _ _ (by omega))
        · rw [HGB2.out, ← HF2'.out, ← HL2'.out, ← HE2'.out]
          exact HE7.out
end Go.Proofs.YtcgllipcnmlkbaaDoor
