/- Several texts in one. -/
import Derived.Test.YtmjjkamndlefmaaDoorPqS0
import Derived.Test.YtmjjkamndlefmaaDoorPq19
namespace Go.Proofs.YtmjjkamndlefmaaDoor
open Go.RowKit Sets Nf
namespace Sk
/-- n bytes lie in block g from its start on. -/
structure Bg (w : World) (g n : Nat) (f : Nat → Nat) : Prop where
  cell : ∀ i, i < n → w.cell? ⟨g, i, none⟩ = some (.int .u8 (f i))
  free : ∀ i, w.frozen? ⟨g, i, none⟩ = false
theorem Bg.set {w : World} {g n : Nat} {f : Nat → Nat} (h : Bg w g n f) {i : Nat} (hi : i < n) (v : Nat) : Bg (w.setCell ⟨g, i, none⟩ (.int .u8 v)) g n (fun j => if j = i then v else f j) := by
  refine ⟨fun j hj => ?_, fun j => ?_⟩
  · by_cases e : j = i
    · subst e
      rw [World.cell?_setCell_same _ _ _ (h.cell j hj), if_pos rfl]
    · rw [World.cell?_setCell_other _ _ _ _ (fun e2 => e (by injection e2 with _ e3; exact e3.symm)), h.cell j hj, if_neg e]
  · rw [World.frozen?_setCell]; exact h.free j
theorem Bg.congr {w : World} {g n : Nat} {f f' : Nat → Nat} (h : Bg w g n f) (e : ∀ i, i < n → f i = f' i) : Bg w g n f' := ⟨fun i hi => by rw [h.cell i hi, e i hi], h.free⟩
theorem Bg.drew {w : World} {g n : Nat} {f : Nat → Nat} (h : Bg w g n f) : Bg w.drew g n f := ⟨h.cell, h.free⟩
/-- What i exchanges have made of the bytes. -/
def rv (n i : Nat) (f : Nat → Nat) : Nat → Nat := fun k => if k < i ∨ n ≤ k + i then f (n - 1 - k) else f k
theorem rv_step {n i : Nat} (f : Nat → Nat) (h : 2 * i + 1 < n) (k : Nat) (hk : k < n) :
    rv n (i + 1) f k = if k = n - 1 - i then f i else if k = i then f (n - 1 - i) else rv n i f k := by
  unfold rv
  by_cases e1 : k = n - 1 - i
  · rw [if_pos e1, if_pos (by omega)]; congr 1; omega
  · rw [if_neg e1]
    by_cases e2 : k = i
    · rw [if_pos e2, if_pos (by omega)]; congr 1; omega
    · rw [if_neg e2]
      by_cases e3 : k < i ∨ n ≤ k + i
      · rw [if_pos e3, if_pos (by omega)]
      · rw [if_neg e3, if_neg (by omega)]
theorem rv_end {n i : Nat} (f : Nat → Nat) (h : n ≤ 2 * i + 1) (h2 : 2 * i ≤ n) (k : Nat) (hk : k < n) : rv n i f k = f (n - 1 - k) := by
  unfold rv
  by_cases e : k < i ∨ n ≤ k + i
  · rw [if_pos e]
  · rw [if_neg e]; congr 1; omega
set_option maxHeartbeats 6400000 in
set_option maxRecDepth 100000 in
theorem reverse_any (g n c : Nat) (f : Nat → Nat) (w : World) (h : Bg w g n f) (hn : n ≤ 100000) :
    Calls Tryd.prog 57 #[.slice (some ⟨g, 0, none⟩) n c] w fun e w' => e = .returned (.tuple #[]) ∧ Bg w' g n (fun k => f (n - 1 - k)) ∧ But g w w' := by
  have HN := Lib.hid hn
  have H0 := Lib.hid h
  clear h hn
  go_enter Tryd.func57, Tryd.ntmps57
  have HW0 : Hid (wrap64 ((n : Int) - 1) = (n : Int) - 1) := Lib.hid (by have := HN.out; unfold wrap64; omega)
  go_upto_region 1 with fail
  go_loopw [2, 3] (fun p q wr => ∃ i : Nat, p = .int .i64 i ∧ q = .int .i64 ((n : Int) - 1 - i) ∧ Hid (2 * i ≤ n) ∧ Hid (Bg wr g n (rv n i f)) ∧ Hid (But g w wr)) (fun p q _ => (intOf q - intOf p + 1).toNat)
  case atStart => exact ⟨0, rfl, by simp only [Int.natCast_zero, Int.sub_zero]; rw [HW0.out], Lib.hid (by omega), Lib.hid (H0.out.congr (fun i hi => by unfold rv; rw [if_neg (by omega)])), Lib.hid (But.refl _ _)⟩
  case round =>
    obtain ⟨i, rfl, rfl, HI, HB, HF⟩ := hrel
    generalize hwr : wr = w1 at *
    clear hwr wr
    by_cases hlt : 2 * i + 1 < n
    · have hdd : decide ((i : Int) < (n : Int) - 1 - i) = true := decide_eq_true (by omega)
      have HL := Lib.hid hlt
      obtain ⟨j, hj⟩ : ∃ j : Nat, j = n - 1 - i := ⟨_, rfl⟩
      have hji : (n : Int) - 1 - (i : Int) = (j : Int) := by omega
      rw [hji] at hdd ⊢
      have hdd2 : decide (i < j) = true := decide_eq_true (by omega)
      have hin : i < n := by omega
      have hjn : j < n := by omega
      have hni : (i : Int) < (n : Int) := by omega
      have hnj : (j : Int) < (n : Int) := by omega
      have HJ := Lib.hid hj
      have HW1 : Hid (wrap64 ((i : Int) + 1) = ((i + 1 : Nat) : Int)) := Lib.hid (nat_wrap (by have := HN.out; omega))
      have HW2 : Hid (wrap64 ((j : Int) - 1) = (n : Int) - 1 - ((i + 1 : Nat) : Int)) := Lib.hid (by have := HN.out; unfold wrap64; omega)
      have HS : Hid ((((n : Int) - 1 - ((i + 1 : Nat) : Int)) - ((i + 1 : Nat) : Int) + 1).toNat < ((j : Int) - (i : Int) + 1).toNat) := Lib.hid (by omega)
      have HIN := Lib.hid hin
      have HJN := Lib.hid hjn
      have hv1 : rv n i f i = f i := by unfold rv; rw [if_neg (by omega)]
      have hv2 : rv n i f j = f j := by unfold rv; rw [if_neg (by omega)]
      clear hlt hj hji
      have HC1 : Hid (w1.cell? ⟨g, i, none⟩ = some (.int .u8 (f i))) := Lib.hid (by rw [HB.out.cell i hin, hv1])
      have HC2 : Hid (w1.cell? ⟨g, j, none⟩ = some (.int .u8 (f j))) := Lib.hid (by rw [HB.out.cell j hjn, hv2])
      have HBA := Lib.hid (((HB.out.set hin (f j)).set hjn (f i)).drew.congr (f' := rv n (i + 1) f) (fun k hk => by
        rw [rv_step f HL.out k hk, ← HJ.out]))
      have HFA : Hid (But g w ((w1.setCell ⟨g, i, none⟩ (.int .u8 (f j))).setCell ⟨g, j, none⟩ (.int .u8 (f i))).drew) := Lib.hid ((HF.out.trans (But.set g w1 i _)).trans (But.set g _ j _)).drew
      have c1 := HC1.out
      have c2 := HC2.out
      have c5 : (w1.setCell ⟨g, i, none⟩ (.int .u8 (f j))).cell? ⟨g, j, none⟩ = some (.int .u8 (f j)) := by
        rw [(HB.out.set hin (f j)).cell j hjn]
        by_cases e : j = i
        · rw [if_pos e]
        · rw [if_neg e, hv2]
      have f1 := HB.out.free i
      have f2 := HB.out.free j
      go_upto_region 3 with fail
      go_region
      go_wp2_with fail
      go_roundw
      case rel => exact ⟨i + 1, by rw [HW1.out], by rw [HW2.out], Lib.hid (by have := HL.out; omega), HBA, HFA⟩
      case measure => rw [HW1.out, HW2.out]; exact HS.out
    · have hdd : decide ((i : Int) < (n : Int) - 1 - i) = false := decide_eq_false (by have := HI.out; omega)
      have HE := Lib.hid (HB.out.congr (fun k hk => rv_end f (by omega) HI.out k hk))
      clear hlt
      go_wp2_with fail
      go_end0
      exact ⟨rfl, HE.out, HF.out⟩
set_option maxHeartbeats 6400000 in
set_option maxRecDepth 100000 in
theorem reverse_nil (w : World) :
    Calls Tryd.prog 57 #[.slice none 0 0] w fun e w' => e = .returned (.tuple #[]) ∧ w = w' := by
  go_enter Tryd.func57, Tryd.ntmps57
  go_upto_region 1 with fail
  go_loopw [2, 3] (fun p q wr => p = .int .i64 0 ∧ q = .int .i64 (-1) ∧ w = wr) (fun p q _ => 0)
  case atStart => exact ⟨rfl, rfl, rfl⟩
  case round =>
    obtain ⟨rfl, rfl, rfl⟩ := hrel
    go_wp2_with fail
    go_end0
    exact ⟨rfl, rfl⟩
theorem convert_row (w : World) (g c : Nat) (l : List Nat) (hl : ∀ x ∈ l, x < 256) (h : Bg w g l.length (fun i => l.getD i 0)) :
    (convert 35 9 (.slice (some ⟨g, 0, none⟩) l.length c)).run Tryd.prog w = .ok (.string ⟨(l.map UInt8.ofNat).toArray⟩) w := by
  have := run_convert_bytes_back (P := Tryd.prog) w 35 9 5 ⟨g, 0, none⟩ c (l.map UInt8.ofNat) Tryd.underlying35 Tryd.underlying5 Tryd.underlying9 (fun j hj => by
    have hjl : j < l.length := by simpa using hj
    rw [Addr.add_lit, Nat.zero_add, h.cell j hjl]
    have h2 := hl l[j] (List.getElem_mem _)
    have : (UInt8.ofNat l[j]).toNat = l[j] := by simp; omega
    simp [this, hjl])
  simpa using this
theorem convert_nil (w : World) : (convert 35 9 (.slice none 0 0)).run Tryd.prog w = .ok (.string ⟨#[]⟩) w := by kernel_rfl
theorem bs_of (l : List Nat) (hl : ∀ x ∈ l, x < 256) : bs ⟨(l.map UInt8.ofNat).toArray⟩ = l := by
  unfold Nf.bs
  rw [List.toList_toArray, List.map_map]
  conv => rhs; rw [← List.map_id l]
  refine List.map_congr_left fun x hx => ?_
  have := hl x hx
  simp; omega
/-- A visit: a state, which one it was found behind, by what. -/
abbrev Vs := Nat × Nat × Nat
def vs3 (x : Vs) : List Value := [.int .i64 x.1, .int .i64 x.2.1, .int .u8 x.2.2]
def vsL : List Vs → List Value
  | [] => []
  | x :: l => vs3 x ++ vsL l
def gv (F : List Vs) (i : Nat) : Vs := F.getD i (0, 0, 0)
theorem vsL_len : ∀ L : List Vs, (vsL L).length = L.length * 3
  | [] => rfl
  | x :: l => by
    show (vs3 x ++ vsL l).length = _
    rw [List.length_append, vsL_len l, List.length_cons]
    show 3 + _ = _
    omega
theorem vsL_app : ∀ L M : List Vs, vsL (L ++ M) = vsL L ++ vsL M
  | [], _ => rfl
  | x :: l, M => by
    show vs3 x ++ vsL (l ++ M) = _
    rw [vsL_app l M, ← List.append_assoc]; rfl
theorem vsL_get : ∀ (L : List Vs) (i k : Nat), i < L.length → k < 3 → (vsL L)[i * 3 + k]? = (vs3 (gv L i))[k]?
  | [], _, _, h, _ => absurd h (Nat.not_lt_zero _)
  | x :: l, 0, k, _, hk => by
    show (vs3 x ++ vsL l)[0 * 3 + k]? = _
    rw [Nat.zero_mul, Nat.zero_add, List.getElem?_append_left (by show k < 3; exact hk)]; rfl
  | x :: l, i + 1, k, h, hk => by
    show (vs3 x ++ vsL l)[(i + 1) * 3 + k]? = _
    rw [List.getElem?_append_right (by show 3 ≤ _; omega), show (i + 1) * 3 + k - (vs3 x).length = i * 3 + k from by show (i + 1) * 3 + k - 3 = _; omega]
    exact vsL_get l i k (by simpa using h) hk
/-- The visits, readable. -/
def VisIn (w : World) (g : Nat) (F : List Vs) : Prop := ∀ j, j < F.length → w.cell? ⟨g, j * 3, none⟩ = some (.int .i64 (gv F j).1) ∧ w.cell? ⟨g, j * 3 + 1, none⟩ = some (.int .i64 (gv F j).2.1) ∧ w.cell? ⟨g, j * 3 + 2, none⟩ = some (.int .u8 (gv F j).2.2)
theorem VisIn.kept {w w' : World} {g : Nat} {F : List Vs} (h : VisIn w g F) (hb : Below w.heap.size w w') : VisIn w' g F := fun j hj => by
  obtain ⟨h1, h2, h3⟩ := h j hj
  exact ⟨(hb.cell (World.block_lt_of_cell? _ _ h1)).trans h1, (hb.cell (World.block_lt_of_cell? _ _ h2)).trans h2, (hb.cell (World.block_lt_of_cell? _ _ h3)).trans h3⟩
theorem own_vis {B : Nat} {w : World} {g c : Nat} {F : List Vs} (h : w.ownsRow B 66 3 (.slice (some ⟨g, 0, none⟩) F.length c) F.length (vsL F)) : VisIn w g F := fun j hj => by
  have hk : ∀ k, k < 3 → w.cell? ⟨g, j * 3 + k, none⟩ = (vs3 (gv F j))[k]? := fun k hk => by
    rw [World.ownsRow.cellAt h (j * 3 + k) (by omega), vsL_get F j k hj hk]
  exact ⟨hk 0 (by decide), hk 1 (by decide), hk 2 (by decide)⟩
/-- The texts by which they were found. -/
structure Txs (F : List Vs) (T : List (List Nat)) : Prop where
  len : T.length = F.length
  hd : T.getD 0 [] = []
  on : ∀ j, 0 < j → j < F.length → (gv F j).2.1 < j ∧ (gv F j).2.2 < 256 ∧ T.getD j [] = T.getD (gv F j).2.1 [] ++ [(gv F j).2.2]
theorem infoU8 : (Tryd.prog.info? 5).map (fun i => (i.zero, i.size, i.bytes)) = some (some (.int .u8 0), 1, 1) := by kernel_rfl
theorem u8s_app (l k : List Nat) : u8s (l ++ k) = u8s l ++ u8s k := List.map_append
theorem own_bg {B : Nat} {w : World} {g c : Nat} {D : List Nat} (h : w.ownsRow B 5 1 (.slice (some ⟨g, 0, none⟩) D.length c) D.length (u8s D)) : Bg w g D.length (fun i => D.getD i 0) := by
  refine ⟨fun i hi => ?_, fun i => ?_⟩
  · rw [World.ownsRow.cellAt h i (by omega)]
    unfold u8s
    rw [List.getElem?_map, List.getD_eq_getElem?_getD, List.getElem?_eq_getElem hi]; rfl
  · obtain ⟨-, h2⟩ := h
    rcases h2 with ⟨h2, -⟩ | ⟨g', cap, cur, e, -, hc, -⟩
    · cases h2
    · injection e with e1
      injection e1 with e1
      injection e1 with e1
      subst e1
      exact frozen_of_row w g i _ _ hc
set_option maxHeartbeats 6400000 in
set_option maxRecDepth 100000 in
theorem text_any (g c n : Nat) (F : List Vs) (T : List (List Nat)) (w : World) (h : VisIn w g F) (hT : Txs F T) (hn : n < F.length) (hF : F.length ≤ 100000) (hb : ∀ x ∈ T.getD n [], x < 256) (hl : (T.getD n []).length ≤ 100000) :
    Calls Tryd.prog 31 #[.slice (some ⟨g, 0, none⟩) F.length c, .int .i64 n] w fun e w' => (∃ s, e = .returned (.string s) ∧ bs s = T.getD n []) ∧ Below w.heap.size w w' := by
  have H0 := Lib.hid h
  have HT := Lib.hid hT
  have HN := Lib.hid hn
  have HF := Lib.hid hF
  have HBY := Lib.hid hb
  have HTL := Lib.hid hl
  clear h hT hn hF hb hl
  go_enter Tryd.func31, Tryd.ntmps31
  go_upto_region 2 with fail
  have HO0 : Hid (w.ownsRow w.heap.size 5 1 (.slice none 0 0) ([] : List Nat).length (u8s [])) := Lib.hid (World.ownsRow_nil _ _ _ _)
  obtain ⟨B, hB⟩ : ∃ B, Hid (w.heap.size = B) := ⟨_, Lib.hid rfl⟩
  rw [hB.out] at HO0
  have HS0 : Hid (B ≤ w.heap.size) := Lib.hid (Nat.le_of_eq hB.out.symm)
  go_loopw [1, 5] (fun p v wr => ∃ (k : Nat) (D : List Nat), p = .int .i64 k ∧ Hid (k ≤ n) ∧ Hid (T.getD n [] = T.getD k [] ++ D.reverse) ∧ Hid (wr.ownsRow B 5 1 v D.length (u8s D)) ∧ Hid (Below B w wr) ∧ Hid (B ≤ wr.heap.size)) (fun p v _ => (intOf p).toNat)
  case atStart => exact ⟨n, [], rfl, Lib.hid (Nat.le_refl _), Lib.hid (by simp), HO0, Lib.hid (Below.refl _ _), HS0⟩
  case round =>
    obtain ⟨k, D, rfl, HK, HD, HO, HB, HSZ⟩ := hrel
    generalize hwr : wr = w1 at *
    clear hwr wr HO0 HS0
    by_cases hk : 0 < k
    · have hdd : decide ((0 : Int) < (k : Int)) = true := decide_eq_true (by omega)
      have hd2 : decide (0 < k) = true := decide_eq_true hk
      have hkF : k < F.length := by have := HK.out; have := HN.out; omega
      have hki : (k : Int) < (F.length : Int) := by omega
      obtain ⟨q1, q2, q3⟩ := HT.out.on k hk hkF
      have hv : VisIn w1 g F := fun j hj => by
        obtain ⟨h1, h2, h3⟩ := H0.out j hj
        have hb := HB.out
        rw [← hB.out] at hb
        exact ⟨(hb.cell (World.block_lt_of_cell? _ _ h1)).trans h1, (hb.cell (World.block_lt_of_cell? _ _ h2)).trans h2, (hb.cell (World.block_lt_of_cell? _ _ h3)).trans h3⟩
      obtain ⟨-, c1, c2⟩ := hv k hkF
      have HB2 := Lib.hid (HB.out.alloc HSZ.out (.cells #[.int .u8 (gv F k).2.2] 5))
      have HLD : Hid (D.length ≤ 100000) := Lib.hid (by
        have h1 := HTL.out
        rw [HD.out, List.length_append, List.length_reverse] at h1
        omega)
      have HGB : Hid (g < B) := Lib.hid (by
        have hl := World.block_lt_of_cell? _ _ (H0.out k hkF).1
        rw [hB.out] at hl
        exact hl)
      have HNX : Hid (T.getD n [] = T.getD (gv F k).2.1 [] ++ (D ++ [(gv F k).2.2]).reverse) := Lib.hid (by
        rw [HD.out, q3, List.reverse_append, List.append_assoc]; rfl)
      have HQ1 := Lib.hid q1
      have HKN : Hid ((gv F k).2.1 ≤ n) := Lib.hid (by have := HK.out; omega)
      clear q1 q2 q3 hv hk
      generalize (gv F k).2.1 = a at *
      generalize (gv F k).2.2 = b at *
      go_upto_region 4 with (refine wpList_push 35 5 (.int .u8 0) 1 1 Tryd.underlying35 infoU8 rfl (by decide) rfl (.tmp 8) (.tmp 14) rfl B _ D.length (u8s D) rfl HO.out [.int .u8 b] _ rfl rfl (fun u hu => by rw [List.mem_singleton.1 hu]; rfl) rfl HLD.out (by decide) HSZ.out ?_; intro v2 w2 ho2 hb2 ha2; have HO2 := Lib.hid ho2; have HB3 := Lib.hid (HB.out.trans hb2); have HBW := Lib.hid hb2; have c1' := (hb2.cell (p := ⟨g, k * 3 + 1, none⟩) HGB.out).trans c1; clear ho2 hb2 ha2)
      have HS2 : Hid (B ≤ w2.heap.size) := Lib.hid (Nat.le_trans HSZ.out HBW.out.size)
      clear c1 c2 HB2
      go_wp2_with fail
      go_roundw
      case rel => exact ⟨a, D ++ [b], rfl, HKN, HNX, Lib.hid (by rw [u8s_app, List.length_append]; exact HO2.out), HB3, HS2⟩
      case measure => simp only [intOf]; have := HQ1.out; omega
    · have hk0 : k = 0 := by omega
      subst hk0
      have HE : Hid (T.getD n [] = D.reverse) := Lib.hid (by rw [HD.out, HT.out.hd]; rfl)
      have HLD : Hid (D.length ≤ 100000) := Lib.hid (by
        have h1 := HTL.out
        rw [HE.out, List.length_reverse] at h1
        exact h1)
      have HBD : Hid (∀ x ∈ D.reverse, x < 256) := Lib.hid (by rw [← HE.out]; exact HBY.out)
      clear hk
      rcases own_slice HO.out with ⟨a, cc, rfl, h3⟩
      rcases a with _ | ⟨⟨gg, oo, sp⟩⟩
      · have hD : D = [] := by
          rcases h3 with h3 | ⟨g', h3, -⟩
          · exact List.length_eq_zero_iff.1 h3
          · cases h3
        subst hD
        have hcc : cc = 0 := by
          rcases HO.out.2 with ⟨h4, -⟩ | ⟨g', cap, cur, h4, -⟩
          · injection h4
          · cases h4
        subst hcc
        have hcv := convert_nil
        clear h3
        go_wp2_with (go_at_call 57; refine (reverse_nil _).mono ?_; rintro e w2 ⟨rfl, rfl⟩)
        go_ret
        exact ⟨⟨_, rfl, by rw [HE.out]; rfl⟩, by rw [hB.out]; exact HB.out⟩
      · have h4 : oo = 0 ∧ sp = none ∧ B ≤ gg := by
          rcases HO.out.2 with ⟨h4, -⟩ | ⟨g', cap, cur, h4, h5, -⟩
          · cases h4
          · injection h4 with h4
            injection h4 with h4
            injection h4 with h6 h7 h8
            subst h6
            exact ⟨h7, h8, h5⟩
        obtain ⟨rfl, rfl, hgg⟩ := h4
        have HGG := Lib.hid hgg
        have HBG := Lib.hid (own_bg HO.out)
        clear h3 hgg
        go_upto_region 6 with (go_at_call 57; refine (reverse_any gg D.length cc _ _ HBG.out HLD.out).mono ?_; rintro e w2 ⟨rfl, hb2, hbt⟩; have HBG2 := Lib.hid hb2; have HBT := Lib.hid hbt; clear hb2 hbt)
        have HBR : Hid (Bg w2 gg D.reverse.length (fun i => D.reverse.getD i 0)) := Lib.hid (by
          rw [List.length_reverse]
          refine HBG2.out.congr fun i hi => ?_
          rw [List.getD_eq_getElem?_getD, List.getD_eq_getElem?_getD, List.getElem?_reverse hi])
        have hcv := convert_row w2 gg cc D.reverse HBD.out HBR.out
        rw [List.length_reverse] at hcv
        go_wp2_with fail
        go_ret
        exact ⟨⟨_, rfl, by rw [HE.out]; have h9 := bs_of D.reverse HBD.out; rw [List.map_reverse] at h9; exact h9⟩, by rw [hB.out]; exact HBT.out.below HB.out HGG.out HSZ.out⟩
end Sk
end Go.Proofs.YtmjjkamndlefmaaDoor
namespace Go.Proofs.YtmjjkamndlefmaaDoor
open Go.RowKit Sets Nf Df Cls
namespace Sk
/-- Row i of single bytes. -/
theorem row_one {w : World} {g n : Nat} {f : Nat → Nat} (h : BytesRow w g ((List.range n).map fun j => [f j])) (i : Nat) (hi : i < n) :
    ∃ b o c, w.cell? ⟨g, i, none⟩ = some (.slice (some ⟨b, o, none⟩) 1 c) ∧ w.cell? ⟨b, o, none⟩ = some (.int .u8 (f i)) := by
  obtain ⟨v, hv, hb⟩ := h.at i (by simpa using hi)
  have e : ((List.range n).map fun j => [f j]).getD i [] = [f i] := by simp [hi]
  rw [e] at hb
  obtain ⟨-, -, a, c, rfl, hc⟩ := hb
  obtain ⟨b, o, rfl, hq⟩ := hc 0 (by simp)
  exact ⟨b, o, c, hv, by simpa using hq⟩
/-- The search's memory: which states are seen, in gs; the visits, in v; all from q on. -/
structure WdI (q gs N : Nat) (w2 : World) (v : Value) (F : List Vs) (S : Nat → Bool) (W : World) : Prop where
  sn : W.rowIs gs 4 N (fun k => .bool (S k))
  fo : W.ownsRow q 66 3 v F.length (vsL F)
  lq : q ≤ gs
  below : Below q w2 W
section
variable {q gs N : Nat} {w2 : World} {v v' : Value} {F : List Vs} {S : Nat → Bool} {W W' : World}
theorem WdI.sz (h : WdI q gs N w2 v F S W) : q ≤ W.heap.size := Nat.le_of_lt (Nat.lt_of_le_of_lt h.lq (World.rowIs.lt h.sn))
theorem WdI.stay (h : WdI q gs N w2 v F S W) (hb : Below W.heap.size W W') : WdI q gs N w2 v F S W' :=
  ⟨World.rowIs.of_block h.sn (hb.block gs (World.rowIs.lt h.sn)), own_stay h.fo hb, h.lq, h.below.trans (hb.mono h.sz)⟩
theorem WdI.setS (h : WdI q gs N w2 v F S W) (k : Nat) (t : Bool) : WdI q gs N w2 v F (fun j => if j = k then t else S j) (W.setCell ⟨gs, k, none⟩ (.bool t)) := by
  obtain ⟨c2, h2⟩ := row_type h.sn
  have hset : ∀ q, q ≠ gs → (W.setCell ⟨gs, k, none⟩ (.bool t)).heap[q]? = W.heap[q]? := fun q hq => Below.heap_setCell W ⟨gs, k, none⟩ _ q hq
  refine ⟨(World.rowIs.set h.sn k (.bool t)).congr (fun i _ => ?_), own_kept h.fo (fun b hb => ?_), h.lq, h.below.setCell h.lq _⟩
  · by_cases e : i = k
    · simp [e]
    · simp [e]
  · obtain ⟨cs, hcs⟩ := own_type h.fo hb
    exact hset b (type_ne hcs h2 (by decide))
theorem WdI.push {x : Vs} (h : WdI q gs N w2 v F S W) (ho : W'.ownsRow q 66 3 v' (F.length + 1) (vsL F ++ vs3 x)) (hb : Below q W W') (ha : Ap W v W' v') : WdI q gs N w2 v' (F ++ [x]) S W' := by
  obtain ⟨c2, h2⟩ := row_type h.sn
  refine ⟨World.rowIs.of_block h.sn (ha.block gs (World.rowIs.lt h.sn) (fun e => ?_)), ?_, h.lq, h.below.trans hb⟩
  · obtain ⟨cs, hcs⟩ := own_type h.fo e
    exact type_ne hcs h2 (by decide) rfl
  · rw [List.length_append, vsL_app]
    show W'.ownsRow q _ 3 v' (F.length + 1) (vsL F ++ (vs3 x ++ []))
    rw [List.append_nil]
    exact ho
end
theorem Txs.push {F : List Vs} {T : List (List Nat)} (h : Txs F T) (h0 : 0 < F.length) {n k b : Nat} (hn : n < F.length) (hb : b < 256) : Txs (F ++ [(k, n, b)]) (T ++ [T.getD n [] ++ [b]]) := by
  have hgv : ∀ j, j < F.length → gv (F ++ [(k, n, b)]) j = gv F j := fun j hj => getD_app _ _ _ hj
  have hge : gv (F ++ [(k, n, b)]) F.length = (k, n, b) := getD_end _ _ _
  have ht : ∀ i, i < F.length → (T ++ [T.getD n [] ++ [b]]).getD i [] = T.getD i [] := fun i hi => getD_app _ _ _ (by rw [h.len]; exact hi)
  have hte : (T ++ [T.getD n [] ++ [b]]).getD F.length [] = T.getD n [] ++ [b] := by rw [← h.len]; exact getD_end _ _ _
  refine ⟨by simp [h.len], by rw [ht 0 h0]; exact h.hd, fun j h1 hj => ?_⟩
  by_cases e : j < F.length
  · obtain ⟨a1, a2, a3⟩ := h.on j h1 e
    rw [hgv j e, ht j e, ht _ (by omega)]
    exact ⟨a1, a2, a3⟩
  · have e2 : j = F.length := by rw [List.length_append] at hj; simp at hj; omega
    rw [e2, hge, hte]
    refine ⟨hn, hb, ?_⟩
    rw [ht n hn]
theorem gv_fst (F : List Vs) (j : Nat) : (F.map (·.1)).getD j 0 = (gv F j).1 := by
  unfold gv
  rw [List.getD_eq_getElem?_getD, List.getElem?_map, List.getD_eq_getElem?_getD]
  cases F[j]? <;> rfl
theorem infoVs : (Tryd.prog.info? 66).map (fun i => (i.zero, i.size, i.bytes)) = some (some (.agg #[.int .i64 0, .int .i64 0, .int .u8 0]), 3, 24) := by kernel_rfl
theorem buildV0 (w : World) : (Instr.build 66 #[]).run Tryd.prog w = .ok (.agg #[.int .i64 0, .int .i64 0, .int .u8 0]) w := by kernel_rfl
theorem buildV (a b c : Int) (w : World) : (Instr.build 66 #[(0, .int .i64 a), (1, .int .i64 b), (2, .int .u8 c)]).run Tryd.prog w = .ok (.agg #[.int .i64 a, .int .i64 b, .int .u8 c]) w := by kernel_rfl
theorem own_one (w : World) (B g : Nat) (hg : w.heap.size = g) (hB : B ≤ g) (x : Vs) : (w.alloc (.cells #[.int .i64 x.1, .int .i64 x.2.1, .int .u8 x.2.2] 66)).ownsRow B 66 3 (.slice (some ⟨g, 0, none⟩) 1 1) [x].length (vsL [x]) := by
  subst hg
  exact ⟨rfl, .inr ⟨w.heap.size, 1, #[.int .i64 x.1, .int .i64 x.2.1, .int .u8 x.2.2], rfl, hB, heap_alloc_new w _, Nat.le_refl _, by decide, rfl, rfl⟩⟩
/-- What Word answers. -/
def WordIs (d : Dm) (s : ByteArray) (ok : Bool) : Prop :=
  (ok = true ∧ DRt d ∧ Best d (Nf.bs s) ∧ (Nf.bs s).length < d.R.length) ∨ (ok = false ∧ s = ⟨#[]⟩ ∧ ∀ u, byt u → takesD d u = false)
end Sk
end Go.Proofs.YtmjjkamndlefmaaDoor
