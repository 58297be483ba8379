/- TreeTwo holds: of any two trees the call answers true. No condition. -/
import Derived.Test.YtpchahlnnbgpkaaDoorTAl0
import Derived.Test.YtpchahlnnbgpkaaDoorTAlN1a
import Derived.Test.YtpchahlnnbgpkaaDoorTAlN1b
import Derived.Test.YtpchahlnnbgpkaaDoorTAlN2a
import Derived.Test.YtpchahlnnbgpkaaDoorTAl3
import Derived.Test.YtpchahlnnbgpkaaDoorTAl4
import Derived.Test.YtpchahlnnbgpkaaDoorTAl5
import Derived.Test.YtpchahlnnbgpkaaDoorTAl6
import Derived.Test.YtpchahlnnbgpkaaDoorTAl7
import Derived.Test.YtpchahlnnbgpkaaDoorTwoM
import Derived.Test.YtpchahlnnbgpkaaDoorRows
import Derived.Test.YtpchahlnnbgpkaaDoorKit
import Derived.Test.YtpchahlnnbgpkaaDoorSets
import Derived.ProofKit
import Derived.LaidMore
import Derived.OpenShut
import Derived.Stop.Joined
import Derived.Carry
import Derived.Laws.IdiomArrays
import Derived.Test.YtpchahlnnbgpkaaDoorOct3
import Derived.Lay
import Derived.Lib.LaidU8
import Derived.MakeChecks
import Derived.Test.YtpchahlnnbgpkaaDoorTPla
import Derived.Deep.Slices
import Derived.Test.YtpchahlnnbgpkaaDoorTie
import Derived.Test.YtpchahlnnbgpkaaDoorCards
import Derived.SevenTiedAt
import Derived.WalkKit
namespace Go.Proofs.YtpchahlnnbgpkaaDoor
open Go.RowKit Sets Tr
set_option maxHeartbeats 12800000 in
set_option maxRecDepth 100000 in
theorem alk_n2b (W : World) (nv pv mv qv : Value) (N M : List Nd) (hN : NodesAt W nv N) (hM : NodesAt W mv M) (sn : ∀ i, i < N.length → sound (N.getD i default) = true) (sm : ∀ i, i < M.length → sound (M.getD i default) = true)
    (n : Nat) (ih : ∀ (t u : T), (t.sum fun _ => 1) ≤ n → Is N t → Is M u → Alk W nv pv mv qv t.root u.root (decide (abs N t = abs M u))) (t u : T) (_ : (t.sum fun _ => 1) ≤ n + 1) (ht : Is N t) (hu : Is M u) (hcase : ((N.getD t.root default).k = (M.getD u.root default).k ∧ (N.getD t.root default).s = (M.getD u.root default).s) ∧ (N.getD t.root default).mn = (M.getD u.root default).mn ∧ ¬ ((N.getD t.root default).mx = (M.getD u.root default).mx)) : Alk W nv pv mv qv t.root u.root (decide (abs N t = abs M u)) := by
  obtain ⟨na, nc, rfl⟩ : ∃ a c, nv = .slice a N.length c := by obtain ⟨-, -, a, c, e, -⟩ := hN; exact ⟨a, c, e⟩
  obtain ⟨ma, mc, rfl⟩ : ∃ a c, mv = .slice a M.length c := by obtain ⟨-, -, a, c, e, -⟩ := hM; exact ⟨a, c, e⟩
  have HN := Lib.hid hN
  have HM := Lib.hid hM
  have HSn := Lib.hid sn
  have HSm := Lib.hid sm
  clear hN hM sn sm
  intro w hW
  have IH := Lib.hid ih
  clear ih
  have hti := ht.lt
  have huj := hu.lt
  have hsf := same_fields ht hu (HSn.out _ hti) (HSm.out _ huj)
  have hsx := HSn.out _ hti
  have hsy := HSm.out _ huj
  obtain ⟨b, o, rfl, hr0, hok⟩ := HN.out.at hti
  obtain ⟨b', o', rfl, hr0', hok'⟩ := HM.out.at huj
  have hdi : decide (t.root < N.length) = true := decide_eq_true hti
  have hdj : decide (u.root < M.length) = true := decide_eq_true huj
  have e1 := (Below.refl w.heap.size w).alloc (Nat.le_refl _) (.cells #[.slice (some ⟨b, o, none⟩) N.length nc, pv] 33)
  have e2 := e1.alloc e1.size (.cells #[.slice (some ⟨b', o', none⟩) M.length mc, qv] 33)
  have HR := Lib.hid (range_kept (range_kept hr0 hW) e2)
  have HX : Hid (N.getD t.root default = N.getD t.root default) := Lib.hid rfl
  obtain ⟨x, hx⟩ : ∃ x, x = N.getD t.root default := ⟨_, rfl⟩
  obtain ⟨y, hy⟩ : ∃ y, y = M.getD u.root default := ⟨_, rfl⟩
  rw [← hx] at hsf hsx hok HR
  rw [← hy] at hsf hsy hok'
  have e3 := e2.alloc e2.size (.cells (nd9 x).toArray 27)
  have HR' := Lib.hid (range_kept (range_kept hr0' hW) e3)
  rw [← hy] at HR'
  have hsh := shape2 ht hu (HSn.out _ hti)
  rw [← hx, ← hy] at hsh
  have HSh := Lib.hid hsh
  have HSz4 : Hid ((((((w.alloc (.cells #[.slice (some ⟨b, o, none⟩) N.length nc, pv] 33)).alloc (.cells #[.slice (some ⟨b', o', none⟩) M.length mc, qv] 33)).alloc (.cells (nd9 x).toArray 27)).alloc (.cells (nd9 y).toArray 27))).heap.size = w.heap.size + 1 + 1 + 1 + 1) := Lib.hid (by simp only [World.size_alloc])
  have hbx0 := BoxAt.new ((w.alloc (.cells #[.slice (some ⟨b, o, none⟩) N.length nc, pv] 33)).alloc (.cells #[.slice (some ⟨b', o', none⟩) M.length mc, qv] 33)) x
  have hby := BoxAt.new (((w.alloc (.cells #[.slice (some ⟨b, o, none⟩) N.length nc, pv] 33)).alloc (.cells #[.slice (some ⟨b', o', none⟩) M.length mc, qv] 33)).alloc (.cells (nd9 x).toArray 27)) y
  have hbx := hbx0.kept ((Below.refl _ _).alloc (Nat.le_refl _) (.cells (nd9 y).toArray 27)) (by simp only [World.size_alloc]; omega)
  rw [World.size_alloc, World.size_alloc] at hbx
  rw [World.size_alloc, World.size_alloc, World.size_alloc] at hby
  have HBX := Lib.hid hbx
  have HBY := Lib.hid hby
  rw [← hx, ← hy] at hcase
  have HC := Lib.hid hcase
  have hx2 := ((Box2.new w (.slice (some ⟨b, o, none⟩) N.length nc) pv (.slice (some ⟨b', o', none⟩) M.length mc) qv).kept ((Below.refl _ _).alloc (Nat.le_refl _) (.cells (nd9 x).toArray 27))).kept ((Below.refl _ _).alloc (Nat.le_refl _) (.cells (nd9 y).toArray 27))
  have HX2 := Lib.hid hx2
  have HXE := Lib.hid hx
  have HYE := Lib.hid hy
  have HSF := Lib.hid hsf
  have HSX := Lib.hid hsx
  have HSY := Lib.hid hsy
  have HOX := Lib.hid hok
  have HOY := Lib.hid hok'
  have HT := Lib.hid ht
  have HU := Lib.hid hu
  have e4 := e3.alloc e3.size (.cells (nd9 y).toArray 27)
  have HB4 := Lib.hid e4
  have HW := Lib.hid hW
  clear hcase hx2 hbx hbx0 hby hsh hr0 hr0' HX hx hy hsf hsx hsy hok hok' ht hu e1 e2 e3 e4
  obtain ⟨c0, c1, c2, c3, c4, c5, c6, c7, c8⟩ := nd9_get x
  obtain ⟨d0, d1, d2, d3, d4, d5, d6, d7, d8⟩ := nd9_get y
  clear HSh HBX HBY HX2 HSz4 IH HSX HSY HN HM HSn HSm HT HU HXE HYE hW
  go_enter Tryd.func18, Tryd.ntmps18
  have hk := HC.out.1.1
  have hs := HC.out.1.2
  have gk : ((x.k : Int) != (y.k : Int)) = false := by rw [bne_eq_false_iff_eq]; omega
  have hm := HC.out.2.1
  have gm : (x.mn != y.mn) = false := by rw [bne_eq_false_iff_eq]; exact hm
  by_cases hmx : x.mx = y.mx
  case neg =>
    have g : (x.mx != y.mx) = true := by rw [bne_iff_ne]; exact hmx
    have HNE := Lib.hid hmx
    have HS := Lib.hid hs
    clear hm hs hmx
    go_wp2_with (first
      | (refine wpList_load_node rfl _ rfl b (o + t.root * 9) x rfl HR.out ?_)
      | (refine wpList_load_node rfl _ rfl b' (o' + u.root * 9) y rfl HR'.out ?_)
      | (refine wpList_store_node rfl _ _ rfl x (by first | rfl | (simp only [World.size_alloc]; rfl)) rfl ?_)
      | (refine wpList_store_node rfl _ _ rfl y (by first | rfl | (simp only [World.size_alloc]; rfl)) rfl ?_)
      | (refine BigFrame.wpList_want rfl (fun K' hK' => ?_); refine wp_neq_set _ _ _ rfl x.s y.s rfl rfl HOX.out.s HOY.out.s ?_; rw [decide_eq_true HS.out]; refine hK' _ _ ?_; clear hK' K'))
    go_ret
    refine ⟨?_, HB4.out⟩
    rw [decide_eq_false (fun h => HNE.out (HSF.out h).2.2.2)]
    rfl
  exact absurd hmx HC.out.2.2
end Go.Proofs.YtpchahlnnbgpkaaDoor
namespace Go.Proofs.YtpchahlnnbgpkaaDoor
open Go.RowKit Sets Tr
theorem alike_any (W : World) (nv pv mv qv : Value) (N M : List Nd) (hN : NodesAt W nv N) (hM : NodesAt W mv M) (sn : ∀ i, i < N.length → sound (N.getD i default) = true) (sm : ∀ i, i < M.length → sound (M.getD i default) = true) :
    ∀ (n : Nat) (t u : T), (t.sum fun _ => 1) ≤ n → Is N t → Is M u → Alk W nv pv mv qv t.root u.root (decide (abs N t = abs M u)) := by
  intro n
  induction n with
  | zero => intro t u hs; have := T.sum_pos t; omega
  | succ n ih =>
    intro t u hsz ht hu
    by_cases h1 : (N.getD t.root default).k = (M.getD u.root default).k
    case neg => exact alk_n1a W nv pv mv qv N M hN hM sn sm n ih t u hsz ht hu h1
    by_cases h2 : (N.getD t.root default).s = (M.getD u.root default).s
    case neg => exact alk_n1b W nv pv mv qv N M hN hM sn sm n ih t u hsz ht hu ⟨h1, h2⟩
    by_cases h3 : (N.getD t.root default).mn = (M.getD u.root default).mn
    case neg => exact alk_n2a W nv pv mv qv N M hN hM sn sm n ih t u hsz ht hu ⟨⟨h1, h2⟩, h3⟩
    by_cases h4 : (N.getD t.root default).mx = (M.getD u.root default).mx
    case neg => exact alk_n2b W nv pv mv qv N M hN hM sn sm n ih t u hsz ht hu ⟨⟨h1, h2⟩, h3, h4⟩
    have e := And.intro h1 (And.intro h2 (And.intro h3 h4))
    rcases (sound_fields (sn _ ht.lt)).1 with k | k | k | k | k
    · exact alk_a1 W nv pv mv qv N M hN hM sn sm n ih t u hsz ht hu ⟨e, k⟩
    · exact alk_a2 W nv pv mv qv N M hN hM sn sm n ih t u hsz ht hu ⟨e, k⟩
    · exact alk_c3 W nv pv mv qv N M hN hM sn sm n ih t u hsz ht hu ⟨e, k⟩
    · exact alk_c4 W nv pv mv qv N M hN hM sn sm n ih t u hsz ht hu ⟨e, k⟩
    · exact alk_b W nv pv mv qv N M hN hM sn sm n ih t u hsz ht hu ⟨e, k⟩
end Go.Proofs.YtpchahlnnbgpkaaDoor
namespace Go.Proofs.YtpchahlnnbgpkaaDoor
open Go.RowKit Sets Tr
theorem strN_list {P Q : List Nat} : (strN P).toList = (strN Q).toList ↔ strN P = strN Q := by
  constructor
  · intro h
    rw [ByteArray.toList_eq, ByteArray.toList_eq] at h
    exact ByteArray.ext (Array.toList_inj.1 h)
  · intro h; rw [h]
set_option maxHeartbeats 12800000 in
set_option maxRecDepth 100000 in
theorem two_from (na pa ma qa : Option Addr) (nc pc mc qc : Nat) (N M : List Nd) (R S : List (Int × Bool)) (w : World) (hU : Uns w na pa nc pc N R) (hV : Uns w ma qa mc qc M S) (hT : Tab w)
    (hA : Right N R → Right M S → greatB N.length R.length = false → greatB M.length S.length = false → ∀ i j : Nat, i < N.length → j < M.length → Alk w (.slice na N.length nc) (.slice pa R.length pc) (.slice ma M.length mc) (.slice qa S.length qc) i j (decide (abs N (tr N i) = abs M (tr M j)))) :
    Calls Tryd.prog 5 #[.agg #[.slice na N.length nc, .slice pa R.length pc], .agg #[.slice ma M.length mc, .slice qa S.length qc]] w fun e w' => e = .returned (.bool true) ∧ Below w.heap.size w w' := by
  have HT := Lib.hid hT
  have HA := Lib.hid hA
  have HG1 := Lib.hid (fun w => great_any na pa N.length nc R.length pc w)
  have HG2 := Lib.hid (fun w => great_any ma qa M.length mc S.length qc w)
  have HU := Lib.hid hU
  have HV := Lib.hid hV
  have hb0 := ((Below.refl w.heap.size w).alloc (Nat.le_refl _) (.cells #[.slice na N.length nc, .slice pa R.length pc] 33))
  have hb1 := hb0.alloc hb0.size (.cells #[.slice ma M.length mc, .slice qa S.length qc] 33)
  have HB0 := Lib.hid hb1
  have HX0 := Lib.hid (Box2.new w (.slice na N.length nc) (.slice pa R.length pc) (.slice ma M.length mc) (.slice qa S.length qc))
  clear hT hA hU hV hb0 hb1
  go_enter Tryd.func5, Tryd.ntmps5
  go_wp2_with fail
  generalize (w.alloc (.cells #[.slice na N.length nc, .slice pa R.length pc] 33)).alloc (.cells #[.slice ma M.length mc, .slice qa S.length qc] 33) = w1 at *
  refine (HG1.out _).mono ?_
  rintro e w2 ⟨rfl, hB2⟩
  have HB2 := Lib.hid (HB0.out.trans (hB2.mono HB0.out.size))
  have HX2 := Lib.hid (HX0.out.kept hB2)
  obtain ⟨x0, x1, x2, x3, -⟩ := HX2.out
  clear hB2
  cases g1 : greatB N.length R.length
  case true =>
    clear g1
    go_wp2_with fail
    refine (awake_any _ (HT.out.below HB2.out (tab_lt HT.out))).mono ?_
    rintro e wz ⟨rfl, hBz⟩
    have HBz := Lib.hid (HB2.out.trans (hBz.mono HB2.out.size))
    clear hBz
    go_wp2_with fail
    go_ret
    exact ⟨rfl, HBz.out⟩
  case false =>
    have HN := Lib.hid (HU.out g1).1
    have HP := Lib.hid (HU.out g1).2
    have HGa := Lib.hid g1
    clear g1
    go_wp2_with fail
    refine (HG2.out _).mono ?_
    rintro e w3 ⟨rfl, hB3⟩
    have HB3 := Lib.hid (HB2.out.trans (hB3.mono HB2.out.size))
    have HX3 := Lib.hid (HX2.out.kept hB3)
    clear hB3 x0 x1 x2 x3
    obtain ⟨x0, x1, x2, x3, -⟩ := HX3.out
    cases g2 : greatB M.length S.length
    case true =>
      clear g2
      go_wp2_with fail
      refine (awake_any _ (HT.out.below HB3.out (tab_lt HT.out))).mono ?_
      rintro e wz ⟨rfl, hBz⟩
      have HBz := Lib.hid (HB3.out.trans (hBz.mono HB3.out.size))
      clear hBz
      go_wp2_with fail
      go_ret
      exact ⟨rfl, HBz.out⟩
    case false =>
      have HM := Lib.hid (HV.out g2).1
      have HQ := Lib.hid (HV.out g2).2
      have HGb := Lib.hid g2
      clear g2
      go_wp2_with fail
      refine (right_any _ _ N R _ (HN.out.kept HB3.out) (HP.out.kept HB3.out)).mono ?_
      rintro e w4 ⟨rfl, hB4⟩
      have HB4 := Lib.hid (HB3.out.trans (hB4.mono HB3.out.size))
      have HX4 := Lib.hid (HX3.out.kept hB4)
      clear hB4 x0 x1 x2 x3
      obtain ⟨x0, x1, x2, x3, -⟩ := HX4.out
      cases r1 : rightB N R
      case false =>
        clear r1
        go_wp2_with fail
        refine (awake_any _ (HT.out.below HB4.out (tab_lt HT.out))).mono ?_
        rintro e wz ⟨rfl, hBz⟩
        have HBz := Lib.hid (HB4.out.trans (hBz.mono HB4.out.size))
        clear hBz
        go_wp2_with fail
        go_ret
        exact ⟨rfl, HBz.out⟩
      case true =>
        have HR := Lib.hid (rightB_iff.1 r1)
        clear r1
        go_wp2_with fail
        refine (right_any _ _ M S _ (HM.out.kept HB4.out) (HQ.out.kept HB4.out)).mono ?_
        rintro e w5 ⟨rfl, hB5⟩
        have HB5 := Lib.hid (HB4.out.trans (hB5.mono HB4.out.size))
        have HX5 := Lib.hid (HX4.out.kept hB5)
        clear hB5 x0 x1 x2 x3
        obtain ⟨x0, x1, x2, x3, -⟩ := HX5.out
        cases r2 : rightB M S
        case false =>
          clear r2
          go_wp2_with fail
          refine (awake_any _ (HT.out.below HB5.out (tab_lt HT.out))).mono ?_
          rintro e wz ⟨rfl, hBz⟩
          have HBz := Lib.hid (HB5.out.trans (hBz.mono HB5.out.size))
          clear hBz
          go_wp2_with fail
          go_ret
          exact ⟨rfl, HBz.out⟩
        case true =>
          have HS := Lib.hid (rightB_iff.1 r2)
          clear r2
          obtain ⟨b0, hb0⟩ : ∃ b0, b0 = ((R.length : Int) == (S.length : Int)) := ⟨_, rfl⟩
          have HB00 : Hid (b0 = true ↔ R.length = S.length) := Lib.hid (by rw [hb0, beq_iff_eq]; omega)
          replace hb0 := hb0.symm
          go_wp2_with fail
          clear x0 x1 x2 x3 hb0
          go_loopw [6, 5] (fun x y wr => ∃ (i : Nat) (b : Bool), x = .int .i64 i ∧ y = .bool b ∧ i ≤ R.length ∧ Hid (b = true → SameTo N M R S i) ∧ Hid (b = false → ¬ SameTo N M R S i) ∧ Hid (Below w5.heap.size w5 wr)) (fun x _ _ => (R.length - intOf x).toNat)
          case atStart => exact ⟨0, b0, rfl, rfl, Nat.zero_le _, Lib.hid (fun h => same_zero.2 (HB00.out.1 h)), Lib.hid (fun h k => by rw [HB00.out.2 (same_zero.1 k)] at h; cases h), Lib.hid (Below.refl _ _)⟩
          case round =>
            obtain ⟨i, b, rfl, rfl, hi, HS1, HS0, HW⟩ := hrel
            generalize hwr : wr = w6 at *
            clear hwr wr
            have HB6 := Lib.hid (HB5.out.trans (HW.out.mono HB5.out.size))
            have HX6 := Lib.hid (HX5.out.kept HW.out)
            obtain ⟨x0, x1, x2, x3, hs7⟩ := HX6.out
            have hs6 : w.heap.size < w6.heap.size := by omega
            by_cases hil : i < R.length
            · have hdi : decide (i < R.length) = true := decide_eq_true hil
              cases b with
              | false =>
                have HEq : Hid (decide (strN (prOf N R) = strN (prOf M S)) = false) := Lib.hid (decide_eq_false (fun h => HS0.out rfl (same_less (same_all.2 ((print_same HN.out.1 HM.out.1 HR.out HS.out).1 h)) hi)))
                clear hil
                have HPr1 := Lib.hid (fun w' (hB : Below w.heap.size w w') => print_any _ _ N R w' (HN.out.kept hB) (HP.out.kept hB) (HT.out.below hB (tab_lt HT.out)) (tab_lt (HT.out.below hB (tab_lt HT.out))))
                have HPr2 := Lib.hid (fun w' (hB : Below w.heap.size w w') => print_any _ _ M S w' (HM.out.kept hB) (HQ.out.kept hB) (HT.out.below hB (tab_lt HT.out)) (tab_lt (HT.out.below hB (tab_lt HT.out))))
                generalize prOf N R = P at *
                generalize prOf M S = Q at *
                have hse : ¬ (strN P).toList = (strN Q).toList := fun h => of_decide_eq_false HEq.out (strN_list.1 h)
                have hse2 : ((strN P).toList == (strN Q).toList) = false := beq_eq_false_iff_ne.2 hse
                clear hi
                go_wp2_with fail
                refine region_mix [(false, 0), (false, 2), (false, 5), (true, 1), (true, 3), (false, 4), (false, 6), (false, 7), (true, 8), (false, 9)] (fun w' => Below w6.heap.size w6 w') (by kernel_rfl) (by kernel_rfl) ((Below.refl _ _).drew) ?_
                simp only [planOps, List.map_cons, List.map_nil, List.getD_cons_zero, List.getD_cons_succ, List.length_cons, List.length_nil, List.drop_succ_cons, List.drop_zero]
                refine mix_seg (seg := [_, _, _]) rfl ((Below.refl _ _).drew) ?_
                intro ι hι F hF
                have f0 := fun n => ((hF n).cell (p := ⟨w.heap.size, 0, none⟩) hs6).trans x0
                have f1 := fun n => ((hF n).cell (p := ⟨w.heap.size, 1, none⟩) hs6).trans x1
                have f2 := fun n => ((hF n).cell (p := ⟨w.heap.size + 1, 0, none⟩) hs7).trans x2
                have f3 := fun n => ((hF n).cell (p := ⟨w.heap.size + 1, 1, none⟩) hs7).trans x3
                repeat (first | (go_big_quiet_step (fail)))
                refine wpQuiet_nil ?_
                clear f0 f1 f2 f3 hF hι F
                refine mix_eff (fun K hK => ?_)
                go_wp2_with (go_at_call 8; refine (HPr1.out _ (HB6.out.trans (((Below.refl w6.heap.size w6).drew).mono HB6.out.size))).mono ?_; rintro e v1 ⟨rfl, hb⟩)
                have hB1 : Below w6.heap.size w6 v1 := (Below.refl w6.heap.size w6).drew.trans (hb.mono (Below.refl w6.heap.size w6).drew.size)
                clear hb
                refine mix_on hK hB1 ?_
                clear hK K
                refine mix_eff (fun K hK => ?_)
                go_wp2_with (go_at_call 8; refine (HPr2.out _ (HB6.out.trans (hB1.mono HB6.out.size))).mono ?_; rintro e v2 ⟨rfl, hb⟩)
                have hB2 : Below w6.heap.size w6 v2 := hB1.trans (hb.mono hB1.size)
                clear hb
                refine mix_on hK hB2 ?_
                clear hK K
                refine mix_seg (seg := [_, _, _]) rfl hB2 ?_
                intro ι hι F hF
                have f0 := fun n => ((hF n).cell (p := ⟨w.heap.size, 0, none⟩) hs6).trans x0
                have f1 := fun n => ((hF n).cell (p := ⟨w.heap.size, 1, none⟩) hs6).trans x1
                have f2 := fun n => ((hF n).cell (p := ⟨w.heap.size + 1, 0, none⟩) hs7).trans x2
                have f3 := fun n => ((hF n).cell (p := ⟨w.heap.size + 1, 1, none⟩) hs7).trans x3
                repeat (first | (go_big_quiet_step (fail)))
                refine wpQuiet_nil ?_
                clear f0 f1 f2 f3 hF hι F
                refine mix_eff (fun K hK => ?_)
                go_wp2_with (go_at_call 12; refine (awake_any _ (HT.out.below (HB6.out.trans (hB2.mono HB6.out.size)) (tab_lt HT.out))).mono ?_; rintro e v3 ⟨rfl, hb⟩)
                have hB3 : Below w6.heap.size w6 v3 := hB2.trans (hb.mono hB2.size)
                clear hb
                refine mix_on hK hB3 ?_
                clear hK K
                refine mix_seg (seg := [_]) (rest := []) rfl hB3 ?_
                intro ι hι F hF
                have f0 := fun n => ((hF n).cell (p := ⟨w.heap.size, 0, none⟩) hs6).trans x0
                have f1 := fun n => ((hF n).cell (p := ⟨w.heap.size, 1, none⟩) hs6).trans x1
                have f2 := fun n => ((hF n).cell (p := ⟨w.heap.size + 1, 0, none⟩) hs7).trans x2
                have f3 := fun n => ((hF n).cell (p := ⟨w.heap.size + 1, 1, none⟩) hs7).trans x3
                repeat (first | (go_big_quiet_step (fail)))
                refine wpQuiet_nil ?_
                clear f0 f1 f2 f3 hF hι F
                show wpList _ _ _ _ _ _
                go_wp2
                refine NoPanic.normal ?_
                go_wp2
                go_ret
                exact ⟨rfl, HB6.out.trans (hB3.mono HB6.out.size)⟩
              | true =>
                clear x0 x1 x2 x3
                have hl := (HS1.out rfl).1
                have hil2 : i < S.length := by omega
                have hdi2 : decide (i < S.length) = true := decide_eq_true hil2
                obtain ⟨pb, po, rfl, hr0, hok⟩ := HP.out.at hil
                obtain ⟨qb, qo, rfl, hq0, hoq⟩ := HQ.out.at hil2
                obtain ⟨x0, x1, x2, x3, -⟩ := HX6.out
                have hrt := HR.out.rts (R.getD i default).1 (List.mem_map.2 ⟨_, (by rw [List.getD_eq_getElem?_getD, List.getElem?_eq_getElem hil]; exact List.getElem_mem hil), rfl⟩)
                have hst := HS.out.rts (S.getD i default).1 (List.mem_map.2 ⟨_, (by rw [List.getD_eq_getElem?_getD, List.getElem?_eq_getElem hil2]; exact List.getElem_mem hil2), rfl⟩)
                have hstep := same_step (HS1.out rfl)
                generalize R.getD i default = X at *
                generalize S.getD i default = Y at *
                obtain ⟨rt, nt⟩ := X
                obtain ⟨st, mt⟩ := Y
                simp only at hrt hst hstep
                obtain ⟨k, rfl⟩ : ∃ k : Nat, rt = (k : Int) := ⟨rt.toNat, by omega⟩
                obtain ⟨j, rfl⟩ : ∃ j : Nat, st = (j : Int) := ⟨st.toNat, by omega⟩
                rw [Int.toNat_natCast, Int.toNat_natCast] at hstep
                have HStep := Lib.hid hstep
                have HAl := Lib.hid (HA.out HR.out HS.out HGa.out HGb.out k j (by omega) (by omega))
                have HRg := Lib.hid hr0
                have HQg := Lib.hid hq0
                have HLe := Lib.hid hil
                clear hr0 hq0 hok hoq hrt hst hstep hl
                go_wp2_with fail
                by_cases hnm : nt = mt
                · subst hnm
                  refine region_mix [(false, 0), (false, 1), (false, 2), (false, 3), (false, 4), (false, 5), (false, 6), (false, 7), (false, 8), (false, 9), (false, 10), (false, 11), (false, 12), (false, 13), (false, 14), (false, 15), (false, 16), (false, 17), (false, 18), (false, 19), (false, 20), (false, 21), (false, 22), (false, 23), (false, 24), (false, 25), (false, 26), (false, 27), (true, 28), (false, 29)] (fun w' => Below w6.heap.size w6 w') (by kernel_rfl) (by kernel_rfl) ((Below.refl _ _).drew) ?_
                  simp only [planOps, List.map_cons, List.map_nil, List.getD_cons_zero, List.getD_cons_succ, List.length_cons, List.length_nil, List.drop_succ_cons, List.drop_zero]
                  refine mix_seg (seg := [_, _, _, _, _, _, _, _, _, _, _, _, _, _, _, _, _, _, _, _, _, _, _, _, _, _, _, _]) rfl ((Below.refl _ _).drew) ?_
                  intro ι hι F hF
                  have f0 := fun n => ((hF n).cell (p := ⟨w.heap.size, 0, none⟩) hs6).trans x0
                  have f1 := fun n => ((hF n).cell (p := ⟨w.heap.size, 1, none⟩) hs6).trans x1
                  have f2 := fun n => ((hF n).cell (p := ⟨w.heap.size + 1, 0, none⟩) hs7).trans x2
                  have f3 := fun n => ((hF n).cell (p := ⟨w.heap.size + 1, 1, none⟩) hs7).trans x3
                  have f4 := fun n => show (F n).cell? ⟨pb, po + i * 2, none⟩ = some (.int .i64 k) from (range_kept HRg.out (HB6.out.trans ((hF n).mono HB6.out.size))) 0 _ rfl
                  have f5 := fun n => show (F n).cell? ⟨pb, po + i * 2 + 1, none⟩ = some (.bool nt) from (range_kept HRg.out (HB6.out.trans ((hF n).mono HB6.out.size))) 1 _ rfl
                  have f6 := fun n => show (F n).cell? ⟨qb, qo + i * 2, none⟩ = some (.int .i64 j) from (range_kept HQg.out (HB6.out.trans ((hF n).mono HB6.out.size))) 0 _ rfl
                  have f7 := fun n => show (F n).cell? ⟨qb, qo + i * 2 + 1, none⟩ = some (.bool nt) from (range_kept HQg.out (HB6.out.trans ((hF n).mono HB6.out.size))) 1 _ rfl
                  repeat (first | (go_big_quiet_step (fail)))
                  refine wpQuiet_nil ?_
                  clear f0 f1 f2 f3 f4 f5 f6 f7 hF hι F
                  refine mix_eff (fun K hK => ?_)
                  go_wp2_with (go_at_call 18; refine (HAl.out _ (HB6.out.trans (((Below.refl w6.heap.size w6).drew).mono HB6.out.size))).mono ?_; rintro e v1 ⟨rfl, hb⟩)
                  have hB1 : Below w6.heap.size w6 v1 := (Below.refl w6.heap.size w6).drew.trans (hb.mono (Below.refl w6.heap.size w6).drew.size)
                  clear hb
                  refine mix_on hK hB1 ?_
                  clear hK K
                  refine mix_seg (seg := [_]) (rest := []) rfl hB1 ?_
                  intro ι hι F hF
                  have f0 := fun n => ((hF n).cell (p := ⟨w.heap.size, 0, none⟩) hs6).trans x0
                  have f1 := fun n => ((hF n).cell (p := ⟨w.heap.size, 1, none⟩) hs6).trans x1
                  have f2 := fun n => ((hF n).cell (p := ⟨w.heap.size + 1, 0, none⟩) hs7).trans x2
                  have f3 := fun n => ((hF n).cell (p := ⟨w.heap.size + 1, 1, none⟩) hs7).trans x3
                  have f4 := fun n => show (F n).cell? ⟨pb, po + i * 2, none⟩ = some (.int .i64 k) from (range_kept HRg.out (HB6.out.trans ((hF n).mono HB6.out.size))) 0 _ rfl
                  have f5 := fun n => show (F n).cell? ⟨pb, po + i * 2 + 1, none⟩ = some (.bool nt) from (range_kept HRg.out (HB6.out.trans ((hF n).mono HB6.out.size))) 1 _ rfl
                  have f6 := fun n => show (F n).cell? ⟨qb, qo + i * 2, none⟩ = some (.int .i64 j) from (range_kept HQg.out (HB6.out.trans ((hF n).mono HB6.out.size))) 0 _ rfl
                  have f7 := fun n => show (F n).cell? ⟨qb, qo + i * 2 + 1, none⟩ = some (.bool nt) from (range_kept HQg.out (HB6.out.trans ((hF n).mono HB6.out.size))) 1 _ rfl
                  repeat (first | (go_big_quiet_step (fail)))
                  refine wpQuiet_nil ?_
                  clear f0 f1 f2 f3 f4 f5 f6 f7 hF hι F
                  show wpList _ _ _ _ _ _
                  have hlt := HLe.out
                  have hfw := HR.out.few.2.1
                  go_wp2
                  refine NoPanic.normal ?_
                  go_wp2
                  go_roundw
                  case rel =>
                    refine ⟨i + 1, decide (abs N (tr N k) = abs M (tr M j)), by go_num, by first | rfl | trivial, HLe.out, Lib.hid (fun h => HStep.out.2 ⟨by first | rfl | trivial, of_decide_eq_true h⟩), Lib.hid (fun h hc => of_decide_eq_false h (HStep.out.1 hc).2), Lib.hid (HW.out.trans (hB1.mono HW.out.size))⟩
                  case measure => simp only [intOf]; omega
                · have hnb : (nt == mt) = false := beq_eq_false_iff_ne.2 hnm
                  have HNM := Lib.hid hnm
                  clear hnm
                  refine region_mix [(false, 0), (false, 1), (false, 2), (false, 3), (false, 4), (false, 5), (false, 6), (false, 7), (false, 8), (false, 9), (false, 10), (false, 11), (false, 12), (false, 13), (false, 14), (false, 15), (false, 16), (false, 17), (false, 18), (false, 19), (false, 20), (false, 21), (false, 22), (false, 23), (false, 24), (false, 25), (false, 26), (false, 27), (true, 28), (false, 29)] (fun w' => Below w6.heap.size w6 w') (by kernel_rfl) (by kernel_rfl) ((Below.refl _ _).drew) ?_
                  simp only [planOps, List.map_cons, List.map_nil, List.getD_cons_zero, List.getD_cons_succ, List.length_cons, List.length_nil, List.drop_succ_cons, List.drop_zero]
                  refine mix_seg (seg := [_, _, _, _, _, _, _, _, _, _, _, _, _, _, _, _, _, _, _, _, _, _, _, _, _, _, _, _]) rfl ((Below.refl _ _).drew) ?_
                  intro ι hι F hF
                  have f0 := fun n => ((hF n).cell (p := ⟨w.heap.size, 0, none⟩) hs6).trans x0
                  have f1 := fun n => ((hF n).cell (p := ⟨w.heap.size, 1, none⟩) hs6).trans x1
                  have f2 := fun n => ((hF n).cell (p := ⟨w.heap.size + 1, 0, none⟩) hs7).trans x2
                  have f3 := fun n => ((hF n).cell (p := ⟨w.heap.size + 1, 1, none⟩) hs7).trans x3
                  have f4 := fun n => show (F n).cell? ⟨pb, po + i * 2, none⟩ = some (.int .i64 k) from (range_kept HRg.out (HB6.out.trans ((hF n).mono HB6.out.size))) 0 _ rfl
                  have f5 := fun n => show (F n).cell? ⟨pb, po + i * 2 + 1, none⟩ = some (.bool nt) from (range_kept HRg.out (HB6.out.trans ((hF n).mono HB6.out.size))) 1 _ rfl
                  have f6 := fun n => show (F n).cell? ⟨qb, qo + i * 2, none⟩ = some (.int .i64 j) from (range_kept HQg.out (HB6.out.trans ((hF n).mono HB6.out.size))) 0 _ rfl
                  have f7 := fun n => show (F n).cell? ⟨qb, qo + i * 2 + 1, none⟩ = some (.bool mt) from (range_kept HQg.out (HB6.out.trans ((hF n).mono HB6.out.size))) 1 _ rfl
                  repeat (first | (go_big_quiet_step (fail)))
                  refine wpQuiet_nil ?_
                  clear f0 f1 f2 f3 f4 f5 f6 f7 hF hι F
                  refine mix_eff (fun K hK => ?_)
                  go_wp2
                  refine mix_on hK ((Below.refl _ _).drew) ?_
                  clear hK K
                  refine mix_seg (seg := [_]) (rest := []) rfl ((Below.refl _ _).drew) ?_
                  intro ι hι F hF
                  have f0 := fun n => ((hF n).cell (p := ⟨w.heap.size, 0, none⟩) hs6).trans x0
                  have f1 := fun n => ((hF n).cell (p := ⟨w.heap.size, 1, none⟩) hs6).trans x1
                  have f2 := fun n => ((hF n).cell (p := ⟨w.heap.size + 1, 0, none⟩) hs7).trans x2
                  have f3 := fun n => ((hF n).cell (p := ⟨w.heap.size + 1, 1, none⟩) hs7).trans x3
                  have f4 := fun n => show (F n).cell? ⟨pb, po + i * 2, none⟩ = some (.int .i64 k) from (range_kept HRg.out (HB6.out.trans ((hF n).mono HB6.out.size))) 0 _ rfl
                  have f5 := fun n => show (F n).cell? ⟨pb, po + i * 2 + 1, none⟩ = some (.bool nt) from (range_kept HRg.out (HB6.out.trans ((hF n).mono HB6.out.size))) 1 _ rfl
                  have f6 := fun n => show (F n).cell? ⟨qb, qo + i * 2, none⟩ = some (.int .i64 j) from (range_kept HQg.out (HB6.out.trans ((hF n).mono HB6.out.size))) 0 _ rfl
                  have f7 := fun n => show (F n).cell? ⟨qb, qo + i * 2 + 1, none⟩ = some (.bool mt) from (range_kept HQg.out (HB6.out.trans ((hF n).mono HB6.out.size))) 1 _ rfl
                  repeat (first | (go_big_quiet_step (fail)))
                  refine wpQuiet_nil ?_
                  clear f0 f1 f2 f3 f4 f5 f6 f7 hF hι F
                  show wpList _ _ _ _ _ _
                  have hlt := HLe.out
                  have hfw := HR.out.few.2.1
                  go_wp2
                  refine NoPanic.normal ?_
                  go_wp2
                  go_roundw
                  case rel =>
                    refine ⟨i + 1, false, by go_num, by first | rfl | trivial, HLe.out, Lib.hid (fun h => by cases h), Lib.hid (fun h hc => HNM.out (HStep.out.1 hc).1), Lib.hid (HW.out.trans ((Below.refl w6.heap.size w6).drew.mono HW.out.size))⟩
                  case measure => simp only [intOf]; omega
            · have hdi : decide (i < R.length) = false := decide_eq_false hil
              have hie : i = R.length := by omega
              subst hie
              cases b with
              | false =>
                have HEq : Hid (decide (strN (prOf N R) = strN (prOf M S)) = false) := Lib.hid (decide_eq_false (fun h => HS0.out rfl (same_all.2 ((print_same HN.out.1 HM.out.1 HR.out HS.out).1 h))))
                clear hil
                have HPr1 := Lib.hid (fun w' (hB : Below w.heap.size w w') => print_any _ _ N R w' (HN.out.kept hB) (HP.out.kept hB) (HT.out.below hB (tab_lt HT.out)) (tab_lt (HT.out.below hB (tab_lt HT.out))))
                have HPr2 := Lib.hid (fun w' (hB : Below w.heap.size w w') => print_any _ _ M S w' (HM.out.kept hB) (HQ.out.kept hB) (HT.out.below hB (tab_lt HT.out)) (tab_lt (HT.out.below hB (tab_lt HT.out))))
                generalize prOf N R = P at *
                generalize prOf M S = Q at *
                have hse : ¬ (strN P).toList = (strN Q).toList := fun h => of_decide_eq_false HEq.out (strN_list.1 h)
                have hse2 : ((strN P).toList == (strN Q).toList) = false := beq_eq_false_iff_ne.2 hse
                clear hi
                go_wp2_with fail
                refine region_mix [(false, 0), (false, 2), (false, 5), (true, 1), (true, 3), (false, 4), (false, 6), (false, 7), (true, 8), (false, 9)] (fun w' => Below w6.heap.size w6 w') (by kernel_rfl) (by kernel_rfl) ((Below.refl _ _).drew) ?_
                simp only [planOps, List.map_cons, List.map_nil, List.getD_cons_zero, List.getD_cons_succ, List.length_cons, List.length_nil, List.drop_succ_cons, List.drop_zero]
                refine mix_seg (seg := [_, _, _]) rfl ((Below.refl _ _).drew) ?_
                intro ι hι F hF
                have f0 := fun n => ((hF n).cell (p := ⟨w.heap.size, 0, none⟩) hs6).trans x0
                have f1 := fun n => ((hF n).cell (p := ⟨w.heap.size, 1, none⟩) hs6).trans x1
                have f2 := fun n => ((hF n).cell (p := ⟨w.heap.size + 1, 0, none⟩) hs7).trans x2
                have f3 := fun n => ((hF n).cell (p := ⟨w.heap.size + 1, 1, none⟩) hs7).trans x3
                repeat (first | (go_big_quiet_step (fail)))
                refine wpQuiet_nil ?_
                clear f0 f1 f2 f3 hF hι F
                refine mix_eff (fun K hK => ?_)
                go_wp2_with (go_at_call 8; refine (HPr1.out _ (HB6.out.trans (((Below.refl w6.heap.size w6).drew).mono HB6.out.size))).mono ?_; rintro e v1 ⟨rfl, hb⟩)
                have hB1 : Below w6.heap.size w6 v1 := (Below.refl w6.heap.size w6).drew.trans (hb.mono (Below.refl w6.heap.size w6).drew.size)
                clear hb
                refine mix_on hK hB1 ?_
                clear hK K
                refine mix_eff (fun K hK => ?_)
                go_wp2_with (go_at_call 8; refine (HPr2.out _ (HB6.out.trans (hB1.mono HB6.out.size))).mono ?_; rintro e v2 ⟨rfl, hb⟩)
                have hB2 : Below w6.heap.size w6 v2 := hB1.trans (hb.mono hB1.size)
                clear hb
                refine mix_on hK hB2 ?_
                clear hK K
                refine mix_seg (seg := [_, _, _]) rfl hB2 ?_
                intro ι hι F hF
                have f0 := fun n => ((hF n).cell (p := ⟨w.heap.size, 0, none⟩) hs6).trans x0
                have f1 := fun n => ((hF n).cell (p := ⟨w.heap.size, 1, none⟩) hs6).trans x1
                have f2 := fun n => ((hF n).cell (p := ⟨w.heap.size + 1, 0, none⟩) hs7).trans x2
                have f3 := fun n => ((hF n).cell (p := ⟨w.heap.size + 1, 1, none⟩) hs7).trans x3
                repeat (first | (go_big_quiet_step (fail)))
                refine wpQuiet_nil ?_
                clear f0 f1 f2 f3 hF hι F
                refine mix_eff (fun K hK => ?_)
                go_wp2_with (go_at_call 12; refine (awake_any _ (HT.out.below (HB6.out.trans (hB2.mono HB6.out.size)) (tab_lt HT.out))).mono ?_; rintro e v3 ⟨rfl, hb⟩)
                have hB3 : Below w6.heap.size w6 v3 := hB2.trans (hb.mono hB2.size)
                clear hb
                refine mix_on hK hB3 ?_
                clear hK K
                refine mix_seg (seg := [_]) (rest := []) rfl hB3 ?_
                intro ι hι F hF
                have f0 := fun n => ((hF n).cell (p := ⟨w.heap.size, 0, none⟩) hs6).trans x0
                have f1 := fun n => ((hF n).cell (p := ⟨w.heap.size, 1, none⟩) hs6).trans x1
                have f2 := fun n => ((hF n).cell (p := ⟨w.heap.size + 1, 0, none⟩) hs7).trans x2
                have f3 := fun n => ((hF n).cell (p := ⟨w.heap.size + 1, 1, none⟩) hs7).trans x3
                repeat (first | (go_big_quiet_step (fail)))
                refine wpQuiet_nil ?_
                clear f0 f1 f2 f3 hF hι F
                show wpList _ _ _ _ _ _
                go_wp2
                refine NoPanic.normal ?_
                go_wp2
                go_ret
                exact ⟨rfl, HB6.out.trans (hB3.mono HB6.out.size)⟩
              | true =>
                have HEq : Hid (decide (strN (prOf N R) = strN (prOf M S)) = true) := Lib.hid (decide_eq_true ((print_same HN.out.1 HM.out.1 HR.out HS.out).2 (same_all.1 (HS1.out rfl))))
                clear hil
                have HPr1 := Lib.hid (fun w' (hB : Below w.heap.size w w') => print_any _ _ N R w' (HN.out.kept hB) (HP.out.kept hB) (HT.out.below hB (tab_lt HT.out)) (tab_lt (HT.out.below hB (tab_lt HT.out))))
                have HPr2 := Lib.hid (fun w' (hB : Below w.heap.size w w') => print_any _ _ M S w' (HM.out.kept hB) (HQ.out.kept hB) (HT.out.below hB (tab_lt HT.out)) (tab_lt (HT.out.below hB (tab_lt HT.out))))
                generalize prOf N R = P at *
                generalize prOf M S = Q at *
                have hse : (strN P).toList = (strN Q).toList := strN_list.2 (of_decide_eq_true HEq.out)
                clear hi
                go_wp2_with fail
                refine region_mix [(false, 0), (false, 2), (false, 5), (true, 1), (true, 3), (false, 4), (false, 6), (false, 7), (true, 8), (false, 9)] (fun w' => Below w6.heap.size w6 w') (by kernel_rfl) (by kernel_rfl) ((Below.refl _ _).drew) ?_
                simp only [planOps, List.map_cons, List.map_nil, List.getD_cons_zero, List.getD_cons_succ, List.length_cons, List.length_nil, List.drop_succ_cons, List.drop_zero]
                refine mix_seg (seg := [_, _, _]) rfl ((Below.refl _ _).drew) ?_
                intro ι hι F hF
                have f0 := fun n => ((hF n).cell (p := ⟨w.heap.size, 0, none⟩) hs6).trans x0
                have f1 := fun n => ((hF n).cell (p := ⟨w.heap.size, 1, none⟩) hs6).trans x1
                have f2 := fun n => ((hF n).cell (p := ⟨w.heap.size + 1, 0, none⟩) hs7).trans x2
                have f3 := fun n => ((hF n).cell (p := ⟨w.heap.size + 1, 1, none⟩) hs7).trans x3
                repeat (first | (go_big_quiet_step (fail)))
                refine wpQuiet_nil ?_
                clear f0 f1 f2 f3 hF hι F
                refine mix_eff (fun K hK => ?_)
                go_wp2_with (go_at_call 8; refine (HPr1.out _ (HB6.out.trans (((Below.refl w6.heap.size w6).drew).mono HB6.out.size))).mono ?_; rintro e v1 ⟨rfl, hb⟩)
                have hB1 : Below w6.heap.size w6 v1 := (Below.refl w6.heap.size w6).drew.trans (hb.mono (Below.refl w6.heap.size w6).drew.size)
                clear hb
                refine mix_on hK hB1 ?_
                clear hK K
                refine mix_eff (fun K hK => ?_)
                go_wp2_with (go_at_call 8; refine (HPr2.out _ (HB6.out.trans (hB1.mono HB6.out.size))).mono ?_; rintro e v2 ⟨rfl, hb⟩)
                have hB2 : Below w6.heap.size w6 v2 := hB1.trans (hb.mono hB1.size)
                clear hb
                refine mix_on hK hB2 ?_
                clear hK K
                refine mix_seg (seg := [_, _, _]) rfl hB2 ?_
                intro ι hι F hF
                have f0 := fun n => ((hF n).cell (p := ⟨w.heap.size, 0, none⟩) hs6).trans x0
                have f1 := fun n => ((hF n).cell (p := ⟨w.heap.size, 1, none⟩) hs6).trans x1
                have f2 := fun n => ((hF n).cell (p := ⟨w.heap.size + 1, 0, none⟩) hs7).trans x2
                have f3 := fun n => ((hF n).cell (p := ⟨w.heap.size + 1, 1, none⟩) hs7).trans x3
                repeat (first | (go_big_quiet_step (fail)))
                refine wpQuiet_nil ?_
                clear f0 f1 f2 f3 hF hι F
                refine mix_eff (fun K hK => ?_)
                go_wp2_with (go_at_call 12; refine (awake_any _ (HT.out.below (HB6.out.trans (hB2.mono HB6.out.size)) (tab_lt HT.out))).mono ?_; rintro e v3 ⟨rfl, hb⟩)
                have hB3 : Below w6.heap.size w6 v3 := hB2.trans (hb.mono hB2.size)
                clear hb
                refine mix_on hK hB3 ?_
                clear hK K
                refine mix_seg (seg := [_]) (rest := []) rfl hB3 ?_
                intro ι hι F hF
                have f0 := fun n => ((hF n).cell (p := ⟨w.heap.size, 0, none⟩) hs6).trans x0
                have f1 := fun n => ((hF n).cell (p := ⟨w.heap.size, 1, none⟩) hs6).trans x1
                have f2 := fun n => ((hF n).cell (p := ⟨w.heap.size + 1, 0, none⟩) hs7).trans x2
                have f3 := fun n => ((hF n).cell (p := ⟨w.heap.size + 1, 1, none⟩) hs7).trans x3
                repeat (first | (go_big_quiet_step (fail)))
                refine wpQuiet_nil ?_
                clear f0 f1 f2 f3 hF hι F
                show wpList _ _ _ _ _ _
                go_wp2
                refine NoPanic.normal ?_
                go_wp2
                go_ret
                exact ⟨rfl, HB6.out.trans (hB3.mono HB6.out.size)⟩
end Go.Proofs.YtpchahlnnbgpkaaDoor
namespace Go.Proofs.YtpchahlnnbgpkaaDoor
open Go.RowKit Sets Tr
theorem two_any (na pa ma qa : Option Addr) (nc pc mc qc : Nat) (N M : List Nd) (R S : List (Int × Bool)) (w : World) (hU : Uns w na pa nc pc N R) (hV : Uns w ma qa mc qc M S) (hT : Tab w) :
    Calls Tryd.prog 5 #[.agg #[.slice na N.length nc, .slice pa R.length pc], .agg #[.slice ma M.length mc, .slice qa S.length qc]] w fun e w' => e = .returned (.bool true) ∧ Below w.heap.size w w' := by
  refine two_from na pa ma qa nc pc mc qc N M R S w hU hV hT ?_
  intro hR hS g1 g2 i j hi hj
  obtain ⟨t, ht, hrt⟩ := is_of_low hR.low i hi
  obtain ⟨u, hu, hru⟩ := is_of_low hS.low j hj
  have h := alike_any w (.slice na N.length nc) (.slice pa R.length pc) (.slice ma M.length mc) (.slice qa S.length qc) N M (hU g1).1 (hV g2).1 hR.snd hS.snd _ t u (Nat.le_refl _) ht hu
  rw [hrt, hru] at h
  have e1 : tr N i = t := by rw [← hrt]; exact tr_of ht
  have e2 : tr M j = u := by rw [← hru]; exact tr_of hu
  rw [e1, e2]
  exact h
end Go.Proofs.YtpchahlnnbgpkaaDoor
namespace Go.Proofs.YtpchahlnnbgpkaaDoor
open Go.ChangeShapes Go.WideShapes Go.ChangeAt Go.WideMaps Go.WideElems Go.RowKit Sets
section
variable {H : Type} {enc : TypeId × Value → H} {P : Program}
theorem TrodAll_stays (hl : laidOutB P = true) {W W' : World} {sp' : Nat → Bool} : ∀ {ts : List TypeId} {vs : List Value} {ds : List (DataW H)} {ps : List MemPlace}, (ts.all fun t => P.readableRec t && decide (t < P.types.size)) = true →
    DataW.TrodAll enc P W 0 (fun _ => true) true ts vs ds ps → (∀ p ∈ ps, W.sameAt W' p) → (∀ p ∈ ps, sp' p.block = true) → DataW.TrodAll enc P W' 0 sp' true ts vs ds ps
  | [], [], [], _, _, h, _, _ => h
  | t :: _, _ :: _, _ :: _, _, hT, ⟨p, q, h1, h2, e⟩, hs, hb => by
    simp only [List.all_cons, Bool.and_eq_true, decide_eq_true_eq] at hT
    subst e
    exact ⟨p, q, Trod_stays hl hT.1.1 hT.1.2 h1 (fun x hx => hs x (List.mem_append_left _ hx)) (fun x hx => hb x (List.mem_append_left _ hx)),
      TrodAll_stays hl hT.2 h2 (fun x hx => hs x (List.mem_append_right _ hx)) (fun x hx => hb x (List.mem_append_right _ hx)), rfl⟩
/-- A law that answers true and leaves what was there: its row's word on what stands behind the call. -/
theorem post_law {f : Func} {s : ChangeSpec} {W W' : World} {args : Array Value} {ds gs : List (DataW H)} {before : List MemPlace} {tb : TypeId}
    (hW : DataW.Whole enc P f.params.toList s.vars false W args.toList ds gs before) (hvars : s.vars = []) (hl : laidOutB P = true)
    (hpar : (f.params.toList.all fun t => P.readableRec t && decide (t < P.types.size)) = true) (hrt : f.resultTypes = #[tb]) (htb : P.underlying tb = some .bool)
    (hfn : s.fn H (ds ++ gs) = { results := [.lit (.bool true)], args := ds }) (hb : Below W.heap.size W W') : s.post enc P f false true false false W args (.bool true) W' := by
  have hlt : ∀ p ∈ before, p.block < W.heap.size := fun p hp => hW.lt p hp
  have hW' := hW
  obtain ⟨p, q, hA, hV, hpq, -, -⟩ := hW'
  rw [hvars] at hV
  obtain ⟨hgs, hq⟩ := trodVars_none hV
  subst hgs hq
  rw [List.append_nil] at hpq
  subst hpq
  refine ⟨ds, [], before, [], before, [], hW, ?_, ?_, ?_, World.keptBut_mono (fun p hp => ⟨hp, .inr (.inl hp)⟩) (hb.frame (· ∈ before)), fun h => by cases h⟩
  · rw [hfn, hrt]; exact trodAll_mk1 (shut_bool htb _)
  · rw [hfn]; exact TrodAll_stays hl hpar hA (fun x hx => hb.same (hlt x hx)) (fun x hx => by simpa using hlt x hx)
  · rw [hfn, hvars]; rfl
end
section
variable {H : Type} {enc : TypeId × Value → H} {W : World} {base : Nat} {spare : Nat → Bool} {held : Bool}
theorem open_set {r : Reach} {b0 : Nat} {v : Value} {d : DataW H} {p : List MemPlace} (hv : Value.okWide Tryd.prog W r b0 24 v) (h : DataW.Trod enc Tryd.prog W base spare held 24 v d p) :
    ∃ S, S < 2 ^ 256 ∧ v = .agg #[.int .u64 (wd S 0), .int .u64 (wd S 1), .int .u64 (wd S 2), .int .u64 (wd S 3)] := by
  simp only [Value.okWide, Tryd.underlying24] at hv
  obtain ⟨cs, rfl, hsz, -⟩ := hv
  have hc : Tryd.prog.cellsOf 24 = 4 := by kernel_rfl
  have hce : Tryd.prog.cellsOf 22 = 1 := by kernel_rfl
  rw [hc] at hsz
  obtain ⟨l⟩ := cs
  match l, hsz with
  | [c0, c1, c2, c3], _ =>
    obtain ⟨fuel, hf⟩ := h
    obtain ⟨y0, y1, y2, y3, n, -, h0, h1, h2, h3⟩ := trod_array4 Tryd.underlying24 hce hf
    obtain ⟨n0, e0, -, w0⟩ := DataW.trod_int Tryd.underlying22 h0
    obtain ⟨n1, e1, -, w1⟩ := DataW.trod_int Tryd.underlying22 h1
    obtain ⟨n2, e2, -, w2⟩ := DataW.trod_int Tryd.underlying22 h2
    obtain ⟨n3, e3, -, w3⟩ := DataW.trod_int Tryd.underlying22 h3
    have bnd : ∀ n : Int, (Lit.int .u64 n).wf = true → ∃ m : Nat, n = m ∧ m < 2 ^ 64 := by
      intro n hn
      simp [Lit.wf, IntKind.min, IntKind.max, IntKind.signed, IntKind.bits] at hn
      exact ⟨n.toNat, by omega, by omega⟩
    obtain ⟨m0, rfl, l0⟩ := bnd _ w0
    obtain ⟨m1, rfl, l1⟩ := bnd _ w1
    obtain ⟨m2, rfl, l2⟩ := bnd _ w2
    obtain ⟨m3, rfl, l3⟩ := bnd _ w3
    obtain ⟨S, hS, s0, s1, s2, s3⟩ := of_words m0 m1 m2 m3 l0 l1 l2 l3
    simp at e0 e1 e2 e3
    exact ⟨S, hS, by rw [s0, s1, s2, s3, e0, e1, e2, e3]⟩
end
end Go.Proofs.YtpchahlnnbgpkaaDoor
namespace Go.Proofs.YtpchahlnnbgpkaaDoor
theorem own : ownKnob Tryd.prog.godebug = none := by kernel_rfl
theorem laidOut : laidOutB Tryd.prog = true := by kernel_rfl
end Go.Proofs.YtpchahlnnbgpkaaDoor
namespace Go.Proofs.YtpchahlnnbgpkaaDoor
open Go.ChangeShapes Go.WideShapes Go.ChangeAt Go.WideMaps Go.WideElems Go.RowKit Sets
def laidT : List (String × DataW Unit) := Rows.treeKnownRow.laid
theorem laid_list : (Rows.laid_math_bits_deBruijn64tab : DataW Unit) = .agg (Lib.deBruijn64tab.map fun (n : Nat) => .lit (.int .u8 n)) := rfl
theorem of_laid {W : World} (h : laidMetH Tryd.prog laidT W) : Tab W := by
  rw [MakeChecks.laidMetH_plain _ _ _ (by kernel_rfl)] at h
  have hu := Lib.laidMet.reads h (n := "math/bits.deBruijn64tab") (d := Rows.laid_math_bits_deBruijn64tab) (by unfold laidT Rows.treeKnownRow; simp)
  obtain ⟨g0, t0, cs0, f0, p0, hg0, ht0, hv0, hd0⟩ := hu
  obtain rfl := Option.some.inj ((show Tryd.prog.globalNamed "math/bits.deBruijn64tab" = some 0 by kernel_rfl).symm.trans hg0)
  obtain rfl := Option.some.inj ((show (Tryd.prog.globals[0]?).map (·.type) = some 83 by kernel_rfl).symm.trans ht0)
  have ce : Tryd.prog.cellsOf 5 = 1 := by kernel_rfl
  have hcell := fun j => World.var?_cell hg0 hv0 j
  rw [laid_list] at hd0
  intro i hi
  have hi64 : i < 64 := hi
  obtain ⟨fu, d, q, hd1, hd2⟩ := Lib.array_elem Tryd.underlying83 hd0 i hi64
  rw [ce] at hd2
  rw [List.getElem?_map, List.getElem?_eq_getElem hi] at hd1
  simp only [Option.map_some, Option.some.injEq] at hd1
  subst hd1
  obtain ⟨n, e1, e2, -⟩ := DataW.trod_int Tryd.underlying5 hd2
  simp only [Prod.mk.injEq, DataW.lit.injEq, Lit.int.injEq] at e2
  have e0 := congrArg (·[0]?) e1
  simp [List.getElem?_drop] at e0
  rw [hcell, List.getD_eq_getElem?_getD, List.getElem?_eq_getElem hi, Option.getD_some, e2.1.2]
  simpa using e0
end Go.Proofs.YtpchahlnnbgpkaaDoor
namespace Go.Proofs.YtpchahlnnbgpkaaDoor
open Go.ChangeShapes Go.WideShapes Go.ChangeAt Go.WideMaps Go.WideElems Go.RowKit Sets Tr
section
variable {H : Type} {enc : TypeId × Value → H} {W : World} {base : Nat} {spare : Nat → Bool} {held : Bool}
theorem set_cells {n : Nat} {cs : List Value} {x : DataW H × List MemPlace} (hl : cs.length = 4) (h : DataW.trod enc Tryd.prog W base spare held n 24 cs = some x) :
    ∃ S, S < 2 ^ 256 ∧ ∀ q, q < 4 → cs[q]? = some (.int .u64 (wd S q)) := by
  match cs, hl with
  | [c0, c1, c2, c3], _ =>
    have hce : Tryd.prog.cellsOf 22 = 1 := by kernel_rfl
    obtain ⟨y0, y1, y2, y3, n, -, h0, h1, h2, h3⟩ := trod_array4 Tryd.underlying24 hce h
    obtain ⟨n0, e0, -, w0⟩ := DataW.trod_int Tryd.underlying22 h0
    obtain ⟨n1, e1, -, w1⟩ := DataW.trod_int Tryd.underlying22 h1
    obtain ⟨n2, e2, -, w2⟩ := DataW.trod_int Tryd.underlying22 h2
    obtain ⟨n3, e3, -, w3⟩ := DataW.trod_int Tryd.underlying22 h3
    have bnd : ∀ n : Int, (Lit.int .u64 n).wf = true → ∃ m : Nat, n = m ∧ m < 2 ^ 64 := by
      intro n hn
      simp [Lit.wf, IntKind.min, IntKind.max, IntKind.signed, IntKind.bits] at hn
      exact ⟨n.toNat, by omega, by omega⟩
    obtain ⟨m0, rfl, l0⟩ := bnd _ w0
    obtain ⟨m1, rfl, l1⟩ := bnd _ w1
    obtain ⟨m2, rfl, l2⟩ := bnd _ w2
    obtain ⟨m3, rfl, l3⟩ := bnd _ w3
    obtain ⟨S, hS, s0, s1, s2, s3⟩ := of_words m0 m1 m2 m3 l0 l1 l2 l3
    simp at e0 e1 e2 e3
    refine ⟨S, hS, fun q hq => ?_⟩
    have : q = 0 ∨ q = 1 ∨ q = 2 ∨ q = 3 := by omega
    rcases this with rfl | rfl | rfl | rfl
    · simp [e0, s0]
    · simp [e1, s1]
    · simp [e2, s2]
    · simp [e3, s3]
theorem list_of {α : Type} [Inhabited α] {P : Nat → α → Prop} : ∀ n, (∀ i, i < n → ∃ S, P i S) → ∃ L : List α, L.length = n ∧ ∀ i, i < n → P i (L.getD i default)
  | 0, _ => ⟨[], rfl, fun i hi => by omega⟩
  | n + 1, h => by
    obtain ⟨L, hl, hL⟩ := list_of n (fun i hi => h i (by omega))
    obtain ⟨S, hS⟩ := h n (by omega)
    refine ⟨L ++ [S], by simp [hl], fun i hi => ?_⟩
    by_cases e : i < n
    · rw [List.getD_eq_getElem?_getD, List.getElem?_append_left (by omega), ← List.getD_eq_getElem?_getD]; exact hL i e
    · have : i = n := by omega
      subst this
      rw [List.getD_eq_getElem?_getD, List.getElem?_append_right (by omega), hl, Nat.sub_self]
      exact hS
theorem int_ok {n : Int} (h : (Lit.int .i64 n).wf = true) : I64 n := by
  simp [Lit.wf, IntKind.min, IntKind.max, IntKind.signed, IntKind.bits] at h
  exact h
theorem node_cells {n : Nat} {cs : List Value} {x : DataW H × List MemPlace} (h : DataW.trod enc Tryd.prog W base spare held n 27 cs = some x) :
    ∃ X, NdOk X ∧ cs = nd9 X := by
  obtain ⟨xs, m, -, -, hl, hlen, hf⟩ := DataW.trod_struct Tryd.underlying27 h
  have c9 : Tryd.prog.cellsOf 27 = 9 := by kernel_rfl
  have c1 : Tryd.prog.cellsOf 5 = 1 := by kernel_rfl
  have c4 : Tryd.prog.cellsOf 24 = 4 := by kernel_rfl
  have ci : Tryd.prog.cellsOf 3 = 1 := by kernel_rfl
  rw [c9] at hl
  match cs, hl with
  | [a0, a1, a2, a3, a4, a5, a6, a7, a8], _ =>
    match xs, hlen with
    | [y0, y1, y2, y3, y4, y5], _ =>
      have h0 : DataW.trod enc Tryd.prog W base spare held m 5 (List.take (Tryd.prog.cellsOf 5) (List.drop 0 [a0, a1, a2, a3, a4, a5, a6, a7, a8])) = some y0 := hf 0 _ rfl
      have h1 : DataW.trod enc Tryd.prog W base spare held m 24 (List.take (Tryd.prog.cellsOf 24) (List.drop 1 [a0, a1, a2, a3, a4, a5, a6, a7, a8])) = some y1 := hf 1 _ rfl
      have h2 : DataW.trod enc Tryd.prog W base spare held m 3 (List.take (Tryd.prog.cellsOf 3) (List.drop 5 [a0, a1, a2, a3, a4, a5, a6, a7, a8])) = some y2 := hf 2 _ rfl
      have h3 : DataW.trod enc Tryd.prog W base spare held m 3 (List.take (Tryd.prog.cellsOf 3) (List.drop 6 [a0, a1, a2, a3, a4, a5, a6, a7, a8])) = some y3 := hf 3 _ rfl
      have h4 : DataW.trod enc Tryd.prog W base spare held m 3 (List.take (Tryd.prog.cellsOf 3) (List.drop 7 [a0, a1, a2, a3, a4, a5, a6, a7, a8])) = some y4 := hf 4 _ rfl
      have h5 : DataW.trod enc Tryd.prog W base spare held m 3 (List.take (Tryd.prog.cellsOf 3) (List.drop 8 [a0, a1, a2, a3, a4, a5, a6, a7, a8])) = some y5 := hf 5 _ rfl
      rw [c1] at h0
      rw [c4] at h1
      rw [ci] at h2 h3 h4 h5
      simp only [List.drop_succ_cons, List.drop_zero, List.take_succ_cons, List.take_zero] at h0 h1 h2 h3 h4 h5
      obtain ⟨n0, e0, -, w0⟩ := DataW.trod_int Tryd.underlying5 h0
      obtain ⟨S, hS, hq⟩ := set_cells rfl h1
      obtain ⟨n2, e2, -, w2⟩ := DataW.trod_int Tryd.underlying3 h2
      obtain ⟨n3, e3, -, w3⟩ := DataW.trod_int Tryd.underlying3 h3
      obtain ⟨n4, e4, -, w4⟩ := DataW.trod_int Tryd.underlying3 h4
      obtain ⟨n5, e5, -, w5⟩ := DataW.trod_int Tryd.underlying3 h5
      simp [Lit.wf, IntKind.min, IntKind.max, IntKind.signed, IntKind.bits] at w0
      obtain ⟨k, rfl⟩ : ∃ k : Nat, n0 = (k : Int) := ⟨n0.toNat, by omega⟩
      have q0 := hq 0 (by decide)
      have q1 := hq 1 (by decide)
      have q2 := hq 2 (by decide)
      have q3 := hq 3 (by decide)
      simp at e0 e2 e3 e4 e5 q0 q1 q2 q3
      have hk256 : k < 256 := by omega
      refine ⟨⟨k, S, n2, n3, n4, n5⟩, ⟨hk256, hS, int_ok w2, int_ok w3, int_ok w4, int_ok w5⟩, ?_⟩
      simp [nd9, e0, e2, e3, e4, e5, q0, q1, q2, q3]
theorem part_cells {n : Nat} {cs : List Value} {x : DataW H × List MemPlace} (h : DataW.trod enc Tryd.prog W base spare held n 30 cs = some x) :
    ∃ X : Int × Bool, I64 X.1 ∧ cs = pt2 X := by
  obtain ⟨y0, y1, m, -, hl, h0, h1⟩ := trod_struct2 Tryd.underlying30 h
  have c2 : Tryd.prog.cellsOf 30 = 2 := by kernel_rfl
  have cb : Tryd.prog.cellsOf 4 = 1 := by kernel_rfl
  have ci : Tryd.prog.cellsOf 3 = 1 := by kernel_rfl
  rw [c2] at hl
  match cs, hl with
  | [a0, a1], _ =>
    rw [ci] at h0
    rw [cb] at h1
    simp only [List.drop_succ_cons, List.drop_zero, List.take_succ_cons, List.take_zero] at h0 h1
    obtain ⟨n0, e0, -, w0⟩ := DataW.trod_int Tryd.underlying3 h0
    obtain ⟨b, e1, -⟩ := DataW.trod_bool Tryd.underlying4 h1
    simp at e0 e1
    exact ⟨(n0, b), int_ok w0, by simp [pt2, e0, e1]⟩
theorem rows_of {e : TypeId} {α : Type} [Inhabited α] (f : α → List Value) (ok : α → Prop) (k : Nat) (hk : Tryd.prog.cellsOf e = k) (hk0 : 0 < k) (hlen : ∀ x, (f x).length = k) {t : TypeId} (ht : Tryd.prog.underlying t = some (.slice e))
    (hcell : ∀ (n : Nat) (cs : List Value) (x : DataW H × List MemPlace), DataW.trod enc Tryd.prog W base (fun _ => true) true n e cs = some x → ∃ X, ok X ∧ cs = f X)
    {fuel : Nat} {c : Value} {x : DataW H × List MemPlace} (h : DataW.trod enc Tryd.prog W base (fun _ => true) true fuel t [c] = some x) :
    ∃ (L : List α) (a : Option Addr) (cap : Nat), c = .slice a L.length cap ∧ (∀ X ∈ L, ok X) ∧ ∀ i, i < L.length → ∃ b o, a = some ⟨b, o, none⟩ ∧ W.rangeAt b (o + i * k) (f (L.getD i default)) := by
  rcases Deep.open_slice ht h with ⟨hcs, -⟩ | ⟨a', len, cap, m, n, D, Pl, hcs, -, hl, hm, hmm, -, hel⟩
  · simp at hcs
    exact ⟨[], none, 0, hcs, by simp, by simp⟩
  · simp at hcs
    simp only [if_true] at hmm
    subst hmm
    rw [hk] at hel
    obtain ⟨L, hLl, hL⟩ := list_of (P := fun i X => ok X ∧ ∀ j v, (f X)[j]? = some v → W.cell? ((a'.add (i * k)).add j) = some v) len (fun i hi => by
      obtain ⟨cs, hc, htr⟩ := hel i (by omega)
      obtain ⟨-, -, hcell2⟩ := World.cells?_some hc
      obtain ⟨X, hX, e⟩ := hcell n cs _ htr
      refine ⟨X, hX, fun j v hj => ?_⟩
      have hj4 : j < k := by have := (List.getElem?_eq_some_iff.1 hj).1; rwa [hlen] at this
      rw [hcell2 j hj4, e]; exact hj)
    obtain ⟨ab, ao, spot⟩ := a'
    refine ⟨L, some ⟨ab, ao, spot⟩, _, by rw [hLl]; exact hcs, fun X hX => ?_, fun i hi => ?_⟩
    · obtain ⟨i, hi, rfl⟩ := List.mem_iff_getElem.1 hX
      have := (hL i (by omega)).1
      rw [List.getD_eq_getElem?_getD, List.getElem?_eq_getElem hi] at this
      exact this
    · rw [hLl] at hi
      have hc := (hL i hi).2
      have hspot : spot = none := by
        have hlt : 0 < (f (L.getD 0 default)).length := by rw [hlen]; exact hk0
        have h0 := (hL 0 (by omega)).2 0 _ (List.getElem?_eq_getElem hlt)
        simpa [Addr.add] using World.cell?_spot h0
      subst hspot
      refine ⟨ab, ao, rfl, fun j v hj => ?_⟩
      have := hc j v hj
      rw [Addr.add_lit, Addr.add_lit] at this
      exact this
theorem open_tree {r : Reach} {b0 : Nat} {v : Value} {d : DataW H} {p : List MemPlace} (hv : Value.okWide Tryd.prog W r b0 33 v) (h : DataW.Trod enc Tryd.prog W base (fun _ => true) true 33 v d p) :
    ∃ na pa nc pc N R, v = .agg #[.slice na (List.length N) nc, .slice pa (List.length R) pc] ∧ Uns W na pa nc pc N R := by
  simp only [Value.okWide, Tryd.underlying33] at hv
  obtain ⟨cs, rfl, hsz, -⟩ := hv
  have c2 : Tryd.prog.cellsOf 33 = 2 := by kernel_rfl
  have cn : Tryd.prog.cellsOf 28 = 1 := by kernel_rfl
  have cp : Tryd.prog.cellsOf 31 = 1 := by kernel_rfl
  rw [c2] at hsz
  obtain ⟨l⟩ := cs
  match l, hsz with
  | [a0, a1], _ =>
    obtain ⟨fuel, hf⟩ := h
    obtain ⟨y0, y1, m, -, -, h0, h1⟩ := trod_struct2 Tryd.underlying33 hf
    rw [cn] at h0
    rw [cp] at h1
    simp only [Value.cells, List.drop_succ_cons, List.drop_zero, List.take_succ_cons, List.take_zero] at h0 h1
    obtain ⟨N, na, nc, rfl, hN1, hN2⟩ := rows_of (α := Nd) nd9 NdOk 9 (by kernel_rfl) (by decide) nd9_len Tryd.underlying28 (fun n cs x hx => node_cells hx) h0
    obtain ⟨R, pa, pc, rfl, hR1, hR2⟩ := rows_of (α := Int × Bool) pt2 (fun X => I64 X.1) 2 (by kernel_rfl) (by decide) pt2_len Tryd.underlying31 (fun n cs x hx => part_cells hx) h1
    refine ⟨na, pa, nc, pc, N, R, rfl, fun hg => ?_⟩
    unfold greatB at hg
    rw [Bool.or_eq_false_iff] at hg
    have g1 := of_decide_eq_false hg.1
    have g2 := of_decide_eq_false hg.2
    exact ⟨⟨hN1, by omega, na, nc, rfl, hN2⟩, ⟨hR1, by omega, pa, pc, rfl, hR2⟩⟩
end
end Go.Proofs.YtpchahlnnbgpkaaDoor
namespace Go.Proofs.YtpchahlnnbgpkaaDoor
open Go.ChangeShapes Go.WideShapes Go.ChangeAt Go.WideMaps Go.WideElems Go.RowKit
namespace LawTTwo
set_option maxRecDepth 100000 in
theorem lifted (os : Os) (started : os.Started) (H : Type) (enc : TypeId × Value → H) :
    ReturnsInHanded {} Tryd.checked os 5 .any (fun w args => (Rows.treeTwoSpec.pre enc Tryd.prog Tryd.f5 [] false w args ∧ laidMetH Tryd.prog laidT w) ∧ sizedMet enc Tryd.prog Tryd.f5 (OpenSpec.ofChange Rows.treeTwoSpec) false w args)
      (Rows.treeTwoSpec.post enc Tryd.prog Tryd.f5 false true false false) := by
  refine returnsInHanded_of_change_and (C := Tryd.checked) (X := fun w _ => laidMetH Tryd.prog laidT w) (fun _ _ _ hh h => h.of_heap hh) own started (by kernel_rfl) Tryd.func5
    (ChangeSpec.witness_shaped (enc := enc) (C := Tryd.checked) (os := os) (X := fun w _ => laidMetH Tryd.prog laidT w) false (World.laidAll Tryd.prog os laidT) #[.agg #[.slice none 0 0, .slice none 0 0], .agg #[.slice none 0 0, .slice none 0 0]] 8 (World.laidAll_os _ _ _) (World.shaped_of_ZipB (by kernel_rfl) (by kernel_rfl)) (by kernel_rfl) (by kernel_rfl) (by kernel_rfl)
      (by rw [MakeChecks.laidMetH_plain _ _ _ (by kernel_rfl)]; exact laidMet_laidAll _ (by kernel_rfl) (by kernel_rfl))) ?_
  intro W base args ds gs before hval0 hW _ _ hL _
  have hval : ∀ (j : Nat) t v, Tryd.f5.params[j]? = some t → args[j]? = some v → Value.okWide Tryd.prog W .any base t v := hval0
  have hW' := hW
  obtain ⟨p, q, hA0, hV, rfl, hfz, hnd⟩ := hW
  have hA : DataW.TrodAll enc Tryd.prog W 0 (fun _ => true) true Tryd.f5.params.toList args.toList ds p := hA0
  rw [Tryd.params5] at hA hval
  obtain ⟨v0, vs0, d0, ds0, p0, q0, hargs, rfl, rfl, h0, r0⟩ := trodAll_cons hA
  obtain ⟨v1, vs1, d1, ds1, p1, q1, rfl, rfl, rfl, h1, r1⟩ := trodAll_cons r0
  obtain ⟨rfl, rfl, rfl⟩ := trodAll_nil r1
  obtain rfl : args = #[v0, v1] := by cases args; simp_all
  obtain ⟨rfl, rfl⟩ := trodVars_none hV
  obtain ⟨na0, pa0, nc0, pc0, N0, R0, rfl, u0⟩ := open_tree (hval 0 _ v0 rfl rfl) h0
  obtain ⟨na1, pa1, nc1, pc1, N1, R1, rfl, u1⟩ := open_tree (hval 1 _ v1 rfl rfl) h1
  have hT := of_laid hL
  refine (two_any na0 pa0 na1 pa1 nc0 pc0 nc1 pc1 N0 N1 R0 R1 W u0 u1 hT).mono fun e W' ⟨he, hb⟩ => ?_
  subst he
  exact ⟨_, rfl, post_law hW' rfl laidOut (by kernel_rfl) (by kernel_rfl) Tryd.underlying4 rfl hb⟩
theorem law_holds : Rows.TreeTwoSaid :=
  OpenClaim.holds_of_wide 5 Tryd.f5 rfl rfl rfl rfl rfl rfl rfl ⟨rfl, rfl, rfl, rfl, rfl⟩ rfl rfl rfl rfl rfl (by kernel_rfl) Tryd.func5 (by kernel_rfl)
    (of_decide_eq_true (by kernel_rfl)) (by unfold Func.isWrapper; first | (rw [if_pos (by decide +kernel)]; kernel_rfl) | (rw [if_neg (by decide +kernel)]; exact ⟨rfl, rfl⟩))
    (fun os started H enc _ => lifted os started H enc)
theorem card_holds : Rows.TreeTwoCardSaid :=
  Claim7.holds_tied_plain_at .later [] [.data, .data, .data] true (true, "3dad1d64b76144937fd6823c5a113735aec3f5f5ac696528df5d98a58067adb0") false
    law_holds (fun _ h => by cases h) (by kernel_rfl) (fun _ h => by cases h) treeTwo_row_tie rfl ⟨rfl, rfl⟩ (by kernel_rfl) rfl
    (fun f fn hf hfn => by
      obtain rfl : f = 5 := Option.some.inj ((show Tryd.prog.funcNamed "shibboleth/shibbolethlaw06.TreeTwo" = some 5 by kernel_rfl).symm.trans hf) |>.symm
      obtain rfl : fn = Tryd.f5 := (Option.some.inj (Tryd.func5.symm.trans hfn)).symm
      exact ⟨by kernel_rfl, fun j t ht => by
        have hm := Array.mem_of_getElem? ht
        have hall : ((Tryd.f5.params).all fun u => !Tryd.prog.wantsStandIn u) = true := by kernel_rfl
        show Tryd.prog.wantsStandIn t = false
        simpa using Array.all_eq_true_iff_forall_mem.1 hall t hm⟩)
    (by kernel_rfl)
#print axioms card_holds
end LawTTwo
end Go.Proofs.YtpchahlnnbgpkaaDoor
