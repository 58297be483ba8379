/- tree.Print. -/
import Derived.Test.YtpchahlnnbgpkaaDoorTreN
import Derived.Test.YtpchahlnnbgpkaaDoorTreJ
import Derived.Test.YtpchahlnnbgpkaaDoorTreW
import Derived.Test.YtpchahlnnbgpkaaDoorStrs
import Derived.Deep.CutRange
import Derived.Deep.CutBlock
namespace Go.Proofs.YtpchahlnnbgpkaaDoor
open Go.RowKit Sets Tr
noncomputable def prOf (N : List Nd) (R : List (Int × Bool)) : List Nat := if rightB N R then pr N R else []
noncomputable def sSum (N : List Nd) (R : List (Int × Bool)) : Nat := (R.map fun p => (tr N p.1.toNat).sum fun _ => 1).sum
theorem sSum_snoc (N : List Nd) (R : List (Int × Bool)) (q : Nat) (hq : q < R.length) : sSum N (R.take (q + 1)) = sSum N (R.take q) + (tr N (R.getD q default).1.toNat).sum fun _ => 1 := by
  unfold sSum
  rw [take_snoc R q hq]
  simp only [List.map_append, List.sum_append, List.map_cons, List.map_nil, List.sum_cons, List.sum_nil, Nat.add_zero]
theorem sSum_all {N : List Nd} {R : List (Int × Bool)} (h : Right N R) : sSum N R = N.length := by
  have := size_roots h
  unfold roots at this
  rw [List.map_map] at this
  exact this
theorem sSum_take (N : List Nd) (R : List (Int × Bool)) (q : Nat) : sSum N (R.take q) ≤ sSum N R := by
  have e : sSum N R = sSum N (R.take q) + sSum N (R.drop q) := by
    unfold sSum
    rw [← List.sum_append, ← List.map_append, List.take_append_drop]
  omega
theorem prParts_len (N : List Nd) : ∀ (R : List (Int × Bool)) (i : Nat), (prParts i (parts N R)).length ≤ 2400 * sSum N R + 2 * R.length := by
  intro R
  induction R with
  | nil => intro i; simp [parts, prParts, sSum]
  | cons p R ih =>
    intro i
    have h1 := ih (i + 1)
    have h2 := prX_len N (tr N p.1.toNat)
    simp only [parts, List.map_cons, prParts, List.length_append, sSum, List.sum_cons, List.length_cons] at *
    have h3 : (if 0 < i then [38] else ([] : List Nat)).length ≤ 1 := by split <;> simp
    have h4 : (if p.2 = true then [33] else ([] : List Nat)).length ≤ 1 := by split <;> simp
    omega
theorem prParts_snoc (N : List Nd) (R : List (Int × Bool)) (q : Nat) (hq : q < R.length) :
    prParts 0 (parts N (R.take (q + 1))) = prParts 0 (parts N (R.take q)) ++ (if 0 < q then [38] else []) ++ (if (R.getD q default).2 then [33] else []) ++ prX (abs N (tr N (R.getD q default).1.toNat)) := by
  unfold parts
  rw [take_snoc R q hq, List.map_append, List.map_cons, List.map_nil, prParts_append, List.length_map, List.length_take, Nat.min_eq_left (by omega), Nat.zero_add]
  simp only [prParts, List.append_nil, List.append_assoc]
set_option maxHeartbeats 6400000 in
set_option maxRecDepth 100000 in
theorem print_any (nv pv : Value) (N : List Nd) (R : List (Int × Bool)) (w : World) (hN : NodesAt w nv N) (hP : PartsAt w pv R) (hT : Tab w) (hg : 0 < w.heap.size) :
    Calls Tryd.prog 8 #[.agg #[nv, pv]] w fun e w' => e = .returned (.string (strN (prOf N R))) ∧ Below w.heap.size w w' := by
  have HRt := fun w hN hP => right_any nv pv N R w hN hP
  have hAdd := fun snd => addNode_any w nv N hN snd hT hg
  have HAdd := Lib.hid hAdd
  have HN := Lib.hid hN
  have HP := Lib.hid hP
  obtain ⟨na, nc, rfl⟩ : ∃ a c, nv = .slice a N.length c := by obtain ⟨-, -, a, c, e, -⟩ := hN; exact ⟨a, c, e⟩
  obtain ⟨pa, pc, rfl⟩ : ∃ a c, pv = .slice a R.length c := by obtain ⟨-, -, a, c, e, -⟩ := hP; exact ⟨a, c, e⟩
  clear hN hP hAdd hT
  have hb0 := (Below.refl w.heap.size w).alloc (Nat.le_refl _) (.cells #[.slice na N.length nc, .slice pa R.length pc] 33)
  have HB0 := Lib.hid hb0
  have HRt := Lib.hid (HRt _ (HN.out.kept hb0) (HP.out.kept hb0))
  clear hb0
  go_enter Tryd.func8, Tryd.ntmps8
  by_cases hr : Right N R
  case neg =>
    have hrb := rightB_false hr
    have hpl : strN (prOf N R) = ⟨#[]⟩ := by unfold prOf; rw [hrb]; rfl
    rw [hpl]
    rw [hrb] at HRt
    clear hr hrb hpl
    go_wp2_with (go_at_call 11; refine HRt.out.mono ?_; rintro e w2 ⟨rfl, hB2⟩; have HB2 := Lib.hid (HB0.out.trans (hB2.mono (by simp))); clear hB2)
    go_ret
    exact ⟨rfl, HB2.out⟩
  case pos =>
    have hrb := rightB_true hr
    have hpl : prOf N R = pr N R := by unfold prOf; rw [hrb]; rfl
    rw [hpl]
    rw [hrb] at HRt
    have HR := Lib.hid hr
    have HF := Lib.hid hr.few
    have hn6 : N.length ≤ 600 := hr.few.2.2
    have hp20 : R.length ≤ 20 := hr.few.2.1
    clear hr hrb hpl
    go_wp2_with (go_at_call 11; refine HRt.out.mono ?_; rintro e w2 ⟨rfl, hB2⟩; have HB2 := Lib.hid (HB0.out.trans (hB2.mono (by simp))); have HS0 : Hid (w.heap.size < w2.heap.size) := Lib.hid (by have := hB2.size; simp at this; omega); have ht0 : w2.cell? ⟨w.heap.size, 0, none⟩ = some (.slice na N.length nc) := ((hB2.cell (by simp)).trans (by simp)); have ht1 : w2.cell? ⟨w.heap.size, 1, none⟩ = some (.slice pa R.length pc) := ((hB2.cell (by simp)).trans (by simp)); clear hB2)
    have HT0 := Lib.hid ht0
    clear ht0 ht1
    go_loopw [12, 3] (fun x u wr => ∃ m : Nat, x = .int .i64 m ∧ m ≤ R.length ∧ Hid (Out w.heap.size wr u (prParts 0 (parts N (R.take m)))) ∧ Hid (Below w.heap.size w wr) ∧ Hid (Ap w2 (.slice none 0 0) wr u)) (fun x _ _ => (R.length - intOf x).toNat)
    case atStart => exact ⟨0, rfl, Nat.zero_le _, Lib.hid (by rw [List.take_zero]; exact Out.nil _ _), HB2, Lib.hid (Ap.refl _ _)⟩
    case round =>
      obtain ⟨m, rfl, hm, HO, HB, HA⟩ := hrel
      generalize hwr : wr = w6 at *
      clear hwr wr
      by_cases hml : m < R.length
      · have hdm : decide ((m : Int) < (R.length : Int)) = true := decide_eq_true (by omega)
        obtain ⟨b, o, rfl, hr0, hok⟩ := HP.out.at hml
        have hr1 := range_kept hr0 HB.out
        have hrt := HR.out.rts (R.getD m default).1 (List.mem_map.2 ⟨_, (by rw [List.getD_eq_getElem?_getD, List.getElem?_eq_getElem hml]; exact List.getElem_mem hml), rfl⟩)
        have hsn := prParts_snoc N R m hml
        have hss := sSum_snoc N R m hml
        have hst := sSum_take N R (m + 1)
        have hsa := sSum_all HR.out
        have hpl := prParts_len N (R.take m) 0
        rw [List.length_take, Nat.min_eq_left hm] at hpl
        obtain ⟨X, hX⟩ : ∃ X, X = R.getD m default := ⟨_, rfl⟩
        rw [← hX] at hr1 hok hrt hsn hss
        clear hX
        obtain ⟨rt, nt⟩ := X
        simp only at hrt hsn hss
        obtain ⟨k, rfl⟩ : ∃ k : Nat, rt = (k : Int) := ⟨rt.toNat, by omega⟩
        rw [Int.toNat_natCast] at hsn hss
        have c0 : w6.cell? ⟨b, o + m * 2, none⟩ = some (.int .i64 k) := hr1 0 _ rfl
        have c1 : w6.cell? ⟨b, o + m * 2 + 1, none⟩ = some (.bool nt) := hr1 1 _ rfl
        have hkn : k < N.length := by omega
        obtain ⟨t, hIs, hroot⟩ := is_of_low HR.out.low k hkn
        have htr : tr N k = t := by rw [← hroot]; exact tr_of hIs
        rw [htr] at hsn hss
        have hadd := HAdd.out HR.out.snd t hIs
        rw [hroot] at hadd
        have HAd := Lib.hid hadd
        have HSN := Lib.hid hsn
        generalize hP0 : prParts 0 (parts N (R.take m)) = P at *
        have HLen : Hid (P.length + 4 + 2400 * (t.sum fun _ => 1) ≤ 100000000) := Lib.hid (by omega)
        clear hr0 hr1 hok hrt hsn hss hst hsa hpl hadd hP0 hIs hroot htr
        have hgv : u3.ownBlock ≠ some w6.heap.size := fun e => by have := (HO.out.lt _ e).2; omega
        have HO7 := Lib.hid (HO.out.below ((Below.refl w6.heap.size w6).alloc (Nat.le_refl _) (.cells #[.int .i64 k, .bool nt] 30)))
        have HB7 := Lib.hid (HB.out.alloc HB.out.size (.cells #[.int .i64 k, .bool nt] 30))
        have HA7 := Lib.hid (HA.out.trans (Ap.of_below u3 ((Below.refl w6.heap.size w6).alloc (Nat.le_refl _) (.cells #[.int .i64 k, .bool nt] 30))))
        have HC0 : Hid ((w6.alloc (.cells #[.int .i64 k, .bool nt] 30)).cell? ⟨w6.heap.size, 0, none⟩ = some (.int .i64 k)) := Lib.hid (by simp)
        have HC1 : Hid ((w6.alloc (.cells #[.int .i64 k, .bool nt] 30)).cell? ⟨w6.heap.size, 1, none⟩ = some (.bool nt)) := Lib.hid (by simp)
        have HSz : Hid (w6.heap.size < (w6.alloc (.cells #[.int .i64 k, .bool nt] 30)).heap.size) := Lib.hid (by simp)
        have HGV := Lib.hid hgv
        clear hgv HRt
        go_upto_if 18 with fail
        generalize (w6.alloc (.cells #[.int .i64 k, .bool nt] 30)) = w7 at *
        generalize w6.heap.size = g at *
        clear c0 c1
        go_cut [3, 12] from 12 to 33 (fun u x wr => x = .int .i64 m ∧ Hid (Out w.heap.size wr u (P ++ if 0 < m then [38] else [])) ∧ Hid (Ap w7 u3 wr u) ∧ Hid (Below w.heap.size w7 wr))
        case first =>
          by_cases hm0 : 0 < m
          · have hd : decide ((0 : Int) < (m : Int)) = true := decide_eq_true (by omega)
            have HM := Lib.hid hm0
            clear hm0
            go_wp2_with (refine wpList_out rfl _ _ rfl w.heap.size u3 P [38] _ rfl rfl HO7.out rfl (by have := HLen.out; simp; omega) HB7.out.size ?_; intro v8 w8 hO8 hB8 hA8; have HO8 := Lib.hid hO8; have HB8 := Lib.hid hB8; have HA8 := Lib.hid hA8; clear hO8 hB8 hA8)
            go_meet
            case rel => exact ⟨rfl, Lib.hid (by rw [if_pos HM.out]; exact HO8.out), HA8, HB8⟩
          · have hd : decide ((0 : Int) < (m : Int)) = false := decide_eq_false (by omega)
            have HM := Lib.hid hm0
            clear hm0
            go_wp2_with fail
            go_meet
            case rel => exact ⟨rfl, Lib.hid (by rw [if_neg HM.out, List.append_nil]; exact HO7.out), Lib.hid (Ap.refl _ _), Lib.hid (Below.refl _ _)⟩
        case rest =>
          obtain ⟨rfl, HO8, HA8, HB8⟩ := hcut
          generalize hwc : wc = w8 at *
          clear hwc wc
          obtain ⟨Q, hQ⟩ : ∃ Q, Q = P ++ (if 0 < m then [38] else []) := ⟨_, rfl⟩
          have HQL : Hid (Q.length + 2 + 2400 * (t.sum fun _ => 1) ≤ 100000000) := Lib.hid (by
            have := HLen.out
            rw [hQ, List.length_append]
            split <;> simp <;> omega)
          rw [← hQ] at HO8 HSN
          clear hQ
          have HA9 := Lib.hid (HA7.out.trans HA8.out)
          have HB9 := Lib.hid (HB7.out.trans HB8.out)
          have hd0 : w8.cell? ⟨g, 0, none⟩ = some (.int .i64 k) := (World.cell?_of_block (w := w7) (HA8.out.block g HSz.out HGV.out)).trans HC0.out
          have hd1 : w8.cell? ⟨g, 1, none⟩ = some (.bool nt) := (World.cell?_of_block (w := w7) (HA8.out.block g HSz.out HGV.out)).trans HC1.out
          have hg8 : g < w8.heap.size := Nat.lt_of_lt_of_le HSz.out HA8.out.size
          have hgv8 : u3.ownBlock ≠ some g := fun e => by
            rcases HA8.out.own g e with h | h
            · exact HGV.out h
            · have := HSz.out; omega
          have HG8 := Lib.hid hg8
          have HGV8 := Lib.hid hgv8
          have HD0 := Lib.hid hd0
          clear hg8 hgv8 hd0 HO HA HO7 HA7 HA8 HB8 HC0 HC1
          go_upto_if 23 with fail
          go_cut [3, 12] from 12 to 33 (fun u x wr => x = .int .i64 m ∧ Hid (Out w.heap.size wr u (Q ++ if nt then [33] else [])) ∧ Hid (Ap w8 u3 wr u) ∧ Hid (Below w.heap.size w8 wr))
          case first =>
            cases nt
            · go_wp2_with fail
              go_meet
              case rel => exact ⟨rfl, Lib.hid (by rw [if_neg (by decide), List.append_nil]; exact HO8.out), Lib.hid (Ap.refl _ _), Lib.hid (Below.refl _ _)⟩
            · go_wp2_with (refine wpList_out rfl _ _ rfl w.heap.size u3 Q [33] _ rfl rfl HO8.out rfl (by have := HQL.out; simp; omega) HB9.out.size ?_; intro v9 w9 hO9 hB9 hA9; have HO10 := Lib.hid hO9; have HB10 := Lib.hid hB9; have HA10 := Lib.hid hA9; clear hO9 hB9 hA9)
              go_meet
              case rel => exact ⟨rfl, Lib.hid (by (first | rw [if_pos rfl] | rw [if_pos trivial]); exact HO10.out), HA10, HB10⟩
          case rest =>
            obtain ⟨rfl, HO10, HA10, HB10⟩ := hcut
            generalize hwc : wc = w9 at *
            clear hwc wc
            have hd0 : w9.cell? ⟨g, 0, none⟩ = some (.int .i64 k) := (World.cell?_of_block (w := w8) (HA10.out.block g HG8.out HGV8.out)).trans HD0.out
            have HA11 := Lib.hid (HA9.out.trans HA10.out)
            have HB11 := Lib.hid (HB9.out.trans HB10.out)
            have ht0 : w9.cell? ⟨w.heap.size, 0, none⟩ = some (.slice na N.length nc) := (World.cell?_of_block (w := w2) (HA11.out.block w.heap.size HS0.out (by simp [Value.ownBlock]))).trans HT0.out
            obtain ⟨Z, hZ⟩ : ∃ Z, Z = Q ++ (if nt = true then [33] else []) := ⟨_, rfl⟩
            have HZL : Hid (Z.length + 2400 * (t.sum fun _ => 1) ≤ 100000000) := Lib.hid (by
              have := HQL.out
              rw [hZ, List.length_append]
              split <;> simp <;> omega)
            rw [← hZ] at HO10 HSN
            clear hZ
            go_wp2_with fail
            refine (HAd.out _ Z w9 HO10.out HB11.out HZL.out).mono ?_
            rintro e w10 ⟨v10, rfl, hO12, hB12, hA12⟩
            have HO12 := Lib.hid hO12
            have HB12 := Lib.hid (HB11.out.trans hB12)
            have HA12 := Lib.hid (HA11.out.trans hA12)
            clear hO12 hB12 hA12
            go_wp2_with fail
            go_roundw
            case rel =>
              refine ⟨m + 1, by go_num, hml, Lib.hid ?_, HB12, HA12⟩
              rw [HSN.out]
              exact HO12.out
            case measure => simp only [intOf]; omega
      · have : m = R.length := by omega
        subst this
        have hdm : decide (R.length < R.length) = false := decide_eq_false (by omega)
        rw [List.take_length] at HO
        have hpp : ∀ c ∈ pr N R, c < 256 := by
          have hok : ∀ p ∈ parts N R, OkX p.1 := by
            intro p hp
            obtain ⟨q, hq, rfl⟩ := List.mem_map.1 hp
            have hq2 := HR.out.rts q.1 (List.mem_map.2 ⟨q, hq, rfl⟩)
            obtain ⟨t, ht, hrt⟩ := is_of_low HR.out.low q.1.toNat (by omega)
            show OkX (abs N (tr N q.1.toNat))
            rw [← hrt, tr_of ht]
            refine okX_abs HR.out.snd (fun i hi => ?_) t ht
            exact (HN.out.1 _ (by rw [List.getD_eq_getElem?_getD, List.getElem?_eq_getElem hi]; exact List.getElem_mem hi)).s
          intro c hc
          have := prParts_plain (parts N R) 0 hok c hc
          omega
        have hpl := prParts_len N R 0
        have hsa := sSum_all HR.out
        have hconv := bytes_string (owns_bytes HO.out hpp (by show (prParts 0 (parts N R)).length ≤ _; unfold maxLen; omega))
        obtain ⟨oa, oc, hv, -⟩ := HO.out.slice
        have HConv := hconv
        clear hm hml hpp hpl hsa HO HRt
        have hcv : (convert 41 9 u3).run Tryd.prog w6 = .ok (.string (strN (pr N R))) w6 := hconv
        clear hconv HConv HA
        subst hv
        go_wp2_with fail
        go_ret
        exact ⟨rfl, HB.out⟩
end Go.Proofs.YtpchahlnnbgpkaaDoor
