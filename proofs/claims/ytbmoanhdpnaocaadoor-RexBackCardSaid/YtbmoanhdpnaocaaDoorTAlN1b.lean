/- shibbolethlaw06.Alike, a case. -/
import Derived.Test.YtbmoanhdpnaocaaDoorPkH
namespace Go.Proofs.YtbmoanhdpnaocaaDoor
open Go.RowKit Sets Tr
set_option maxHeartbeats 12800000 in
set_option maxRecDepth 100000 in
theorem alk_n1b (W : World) (nv pv mv qv : Value) (N M : List Nd) (hN : NodesAt W nv N) (hM : NodesAt W mv M) (sn : ∀ i, i < N.length → sound (N.getD i default) = true) (sm : ∀ i, i < M.length → sound (M.getD i default) = true)
    (n : Nat) (ih : ∀ (t u : T), (t.sum fun _ => 1) ≤ n → Is N t → Is M u → Alk W nv pv mv qv t.root u.root (decide (abs N t = abs M u))) (t u : T) (_ : (t.sum fun _ => 1) ≤ n + 1) (ht : Is N t) (hu : Is M u) (hcase : (N.getD t.root default).k = (M.getD u.root default).k ∧ ¬ ((N.getD t.root default).s = (M.getD u.root default).s)) : Alk W nv pv mv qv t.root u.root (decide (abs N t = abs M u)) := by
  obtain ⟨na, nc, rfl⟩ : ∃ a c, nv = .slice a N.length c := by obtain ⟨-, -, a, c, e, -⟩ := hN; exact ⟨a, c, e⟩
  obtain ⟨ma, mc, rfl⟩ : ∃ a c, mv = .slice a M.length c := by obtain ⟨-, -, a, c, e, -⟩ := hM; exact ⟨a, c, e⟩
  have HN := Lib.hid hN
  have HM := Lib.hid hM
  have HSn := Lib.hid sn
  have HSm := Lib.hid sm
  clear hN hM sn sm
  intro w hW
  have IH := Lib.hid ih
  clear ih
  have hti := ht.lt
  have huj := hu.lt
  have hsf := same_fields ht hu (HSn.out _ hti) (HSm.out _ huj)
  have hsx := HSn.out _ hti
  have hsy := HSm.out _ huj
  obtain ⟨b, o, rfl, hr0, hok⟩ := HN.out.at hti
  obtain ⟨b', o', rfl, hr0', hok'⟩ := HM.out.at huj
  have hdi : decide (t.root < N.length) = true := decide_eq_true hti
  have hdj : decide (u.root < M.length) = true := decide_eq_true huj
  have e1 := (Below.refl w.heap.size w).alloc (Nat.le_refl _) (.cells #[.slice (some ⟨b, o, none⟩) N.length nc, pv] 25)
  have e2 := e1.alloc e1.size (.cells #[.slice (some ⟨b', o', none⟩) M.length mc, qv] 25)
  have HR := Lib.hid (range_kept (range_kept hr0 hW) e2)
  have HX : Hid (N.getD t.root default = N.getD t.root default) := Lib.hid rfl
  obtain ⟨x, hx⟩ : ∃ x, x = N.getD t.root default := ⟨_, rfl⟩
  obtain ⟨y, hy⟩ : ∃ y, y = M.getD u.root default := ⟨_, rfl⟩
  rw [← hx] at hsf hsx hok HR
  rw [← hy] at hsf hsy hok'
  have e3 := e2.alloc e2.size (.cells (nd9 x).toArray 41)
  have HR' := Lib.hid (range_kept (range_kept hr0' hW) e3)
  rw [← hy] at HR'
  have hsh := shape2 ht hu (HSn.out _ hti)
  rw [← hx, ← hy] at hsh
  have HSh := Lib.hid hsh
  have HSz4 : Hid ((((((w.alloc (.cells #[.slice (some ⟨b, o, none⟩) N.length nc, pv] 25)).alloc (.cells #[.slice (some ⟨b', o', none⟩) M.length mc, qv] 25)).alloc (.cells (nd9 x).toArray 41)).alloc (.cells (nd9 y).toArray 41))).heap.size = w.heap.size + 1 + 1 + 1 + 1) := Lib.hid (by simp only [World.size_alloc])
  have hbx0 := BoxAt.new ((w.alloc (.cells #[.slice (some ⟨b, o, none⟩) N.length nc, pv] 25)).alloc (.cells #[.slice (some ⟨b', o', none⟩) M.length mc, qv] 25)) x
  have hby := BoxAt.new (((w.alloc (.cells #[.slice (some ⟨b, o, none⟩) N.length nc, pv] 25)).alloc (.cells #[.slice (some ⟨b', o', none⟩) M.length mc, qv] 25)).alloc (.cells (nd9 x).toArray 41)) y
  have hbx := hbx0.kept ((Below.refl _ _).alloc (Nat.le_refl _) (.cells (nd9 y).toArray 41)) (by simp only [World.size_alloc]; omega)
  rw [World.size_alloc, World.size_alloc] at hbx
  rw [World.size_alloc, World.size_alloc, World.size_alloc] at hby
  have HBX := Lib.hid hbx
  have HBY := Lib.hid hby
  rw [← hx, ← hy] at hcase
  have HC := Lib.hid hcase
  have hx2 := ((Box2.new w (.slice (some ⟨b, o, none⟩) N.length nc) pv (.slice (some ⟨b', o', none⟩) M.length mc) qv).kept ((Below.refl _ _).alloc (Nat.le_refl _) (.cells (nd9 x).toArray 41))).kept ((Below.refl _ _).alloc (Nat.le_refl _) (.cells (nd9 y).toArray 41))
  have HX2 := Lib.hid hx2
  have HXE := Lib.hid hx
  have HYE := Lib.hid hy
  have HSF := Lib.hid hsf
  have HSX := Lib.hid hsx
  have HSY := Lib.hid hsy
  have HOX := Lib.hid hok
  have HOY := Lib.hid hok'
  have HT := Lib.hid ht
  have HU := Lib.hid hu
  have e4 := e3.alloc e3.size (.cells (nd9 y).toArray 41)
  have HB4 := Lib.hid e4
  have HW := Lib.hid hW
  clear hcase hx2 hbx hbx0 hby hsh hr0 hr0' HX hx hy hsf hsx hsy hok hok' ht hu e1 e2 e3 e4
  obtain ⟨c0, c1, c2, c3, c4, c5, c6, c7, c8⟩ := nd9_get x
  obtain ⟨d0, d1, d2, d3, d4, d5, d6, d7, d8⟩ := nd9_get y
  clear HSh HBX HBY HX2 HSz4 IH HSX HSY HN HM HSn HSm HT HU HXE HYE hW
  go_enter Tryd.func22, Tryd.ntmps22
  have hk := HC.out.1
  have gk : ((x.k : Int) != (y.k : Int)) = false := by rw [bne_eq_false_iff_eq]; omega
  by_cases hs : x.s = y.s
  case neg =>
    have HNE := Lib.hid hs
    clear hs
    go_wp2_with (first
      | (refine wpList_load_node rfl _ rfl b (o + t.root * 9) x rfl HR.out ?_)
      | (refine wpList_load_node rfl _ rfl b' (o' + u.root * 9) y rfl HR'.out ?_)
      | (refine wpList_store_node rfl _ _ rfl x (by first | rfl | (simp only [World.size_alloc]; rfl)) rfl ?_)
      | (refine wpList_store_node rfl _ _ rfl y (by first | rfl | (simp only [World.size_alloc]; rfl)) rfl ?_)
      | (refine BigFrame.wpList_want rfl (fun K' hK' => ?_); refine wp_neq_set _ _ _ rfl x.s y.s rfl rfl HOX.out.s HOY.out.s ?_; rw [decide_eq_false HNE.out]; refine hK' _ _ ?_; clear hK' K'))
    go_ret
    refine ⟨?_, HB4.out⟩
    rw [decide_eq_false (fun h => HNE.out (HSF.out h).2.1)]
    rfl
  exact absurd hs HC.out.2
end Go.Proofs.YtbmoanhdpnaocaaDoor
