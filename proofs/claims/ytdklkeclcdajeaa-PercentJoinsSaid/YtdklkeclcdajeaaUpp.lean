/- Upper. -/
import Derived.Test.YtdklkeclcdajeaaWrit
import Derived.Test.YtdklkeclcdajeaaBld
import Derived.Lib.ConvBytes
import Derived.Laws.IdiomCopy
import Derived.Laws.IdiomStrings
import Derived.Lib.SlBuf
import Derived.Deep.LoopGhost
namespace Go.Proofs.Ytdklkeclcdajeaa
open Go.RowKit Pct
/-- Block g holds these bytes, and they may be written. -/
def Row (w : World) (g : Nat) (U : List UInt8) : Prop := ∀ j x, U[j]? = some x → w.cell? ⟨g, j, none⟩ = some (.int .u8 (x.toNat : Int)) ∧ w.frozen? ⟨g, j, none⟩ = false
theorem Row.kept {w w' : World} {g : Nat} {U : List UInt8} (h : Row w g U) (hb : Below w.heap.size w w') : Row w' g U := fun j x hj => by
  obtain ⟨h1, h2⟩ := h j x hj
  have := World.block_lt_of_cell? _ _ h1
  exact ⟨(hb.cell this).trans h1, (hb.frozen this).trans h2⟩
theorem below_setCells {B : Nat} {w0 : World} (g : Nat) (hB : B ≤ g) : ∀ (vs : List Value) (o : Nat) (w : World), Below B w0 w → Below B w0 (w.setCells g o vs)
  | [], _, _, h => h
  | v :: r, o, _, h => below_setCells g hB r (o + 1) _ (h.setCell (p := ⟨g, o, none⟩) hB v)
theorem Row.splice {w : World} {g : Nat} {P R M : List UInt8} (h : Row w g (P ++ R)) (hM : M.length ≤ R.length) : Row (w.setCells g P.length (Lib.byteCells M)) g (P ++ M ++ R.drop M.length) := by
  intro j x hj
  have hl := Lib.byteCells_length M
  rw [World.frozen?_setCells]
  have hlen : j < P.length + R.length := by
    have := (List.getElem?_eq_some_iff.1 hj).1
    simp at this; omega
  obtain ⟨y, hy⟩ : ∃ y, (P ++ R)[j]? = some y := ⟨_, List.getElem?_eq_getElem (by simp; omega)⟩
  refine ⟨?_, (h j y hy).2⟩
  by_cases h1 : P.length ≤ j ∧ j < P.length + M.length
  · obtain ⟨i, rfl⟩ : ∃ i, j = P.length + i := ⟨j - P.length, by omega⟩
    have hi : i < (Lib.byteCells M).length := by omega
    rw [World.cell?_setCells_in g (Lib.byteCells M) P.length w (fun q hq => by
      obtain ⟨z, hz⟩ : ∃ z, (P ++ R)[P.length + q]? = some z := ⟨_, List.getElem?_eq_getElem (by simp; omega)⟩
      rw [(h _ z hz).1]; rfl) i hi]
    rw [List.append_assoc, List.getElem?_append_right (by omega), Nat.add_sub_cancel_left, List.getElem?_append_left (by omega)] at hj
    have : (Lib.byteCells M)[i]? = some (.int .u8 (x.toNat : Int)) := by unfold Lib.byteCells; rw [List.getElem?_map, hj]; rfl
    rw [List.getElem?_eq_getElem hi] at this
    exact this
  · rw [World.cell?_setCells_out g _ _ _ _ (fun _ _ => by show j < P.length ∨ P.length + (Lib.byteCells M).length ≤ j; omega)]
    refine (h j x ?_).1
    by_cases h2 : j < P.length
    · rw [List.append_assoc, List.getElem?_append_left h2] at hj
      rw [List.getElem?_append_left h2]; exact hj
    · rw [List.getElem?_append_right (by simp; omega), List.getElem?_drop] at hj
      rw [List.getElem?_append_right (by omega), ← hj]
      congr 1; simp; omega
theorem row_copy {w : World} {g : Nat} {P R M : List UInt8} (h : Row w g (P ++ R)) (hM : M.length ≤ R.length) (ad : Addr) (sCap dCap : Nat) (hm : ∀ j u, (Lib.byteCells M)[j]? = some u → w.cell? (ad.add j) = some u) (ty : TypeId) (n : Nat) (hn : n = R.length) :
    (Builtin.copy_ #[46, 46] ty #[.slice (some ⟨g, P.length, none⟩) n dCap, .slice (some ad) M.length sCap]).run Try.prog w = .ok (goInt M.length) (w.setCells g P.length (Lib.byteCells M)) := by
  have hl := Lib.byteCells_length M
  have key := run_copy_cells (P := Try.prog) w 46 46 ty 5 g P.length n dCap ad M.length sCap (Lib.byteCells M) Try.underlying46 (by kernel_rfl) (by rw [hl]; exact (Nat.min_eq_left (by omega)).symm) hm
    (fun j hj => by
      obtain ⟨z, hz⟩ : ∃ z, (P ++ R)[P.length + j]? = some z := ⟨_, List.getElem?_eq_getElem (by simp; omega)⟩
      rw [(h _ z hz).1]; rfl)
    (fun j hj => by
      obtain ⟨z, hz⟩ : ∃ z, (P ++ R)[P.length + j]? = some z := ⟨_, List.getElem?_eq_getElem (by simp; omega)⟩
      exact (h _ z hz).2) (fun v hv => by obtain ⟨x, -, rfl⟩ := List.mem_map.1 hv; rfl)
  rw [hl] at key
  exact key
theorem row_string {w : World} {g : Nat} {U : List UInt8} (h : Row w g U) (n cap : Nat) (hn : n = U.length) : (convert 46 9 (.slice (some ⟨g, 0, none⟩) n cap)).run Try.prog w = .ok (.string (str U)) w := by
  subst hn
  refine run_convert_bytes_back (P := Try.prog) w 46 9 5 ⟨g, 0, none⟩ cap U Try.underlying46 Try.underlying5 Try.underlying9 (fun j hj => ?_)
  rw [Addr.add_lit, Nat.zero_add]
  exact (h j _ (List.getElem?_eq_getElem hj)).1
/-- []byte(s): a new row. -/
theorem conv_row (s : ByteArray) (w : World) : ∃ cap w1, s.size ≤ cap ∧ (convert 9 46 (.string s)).run Try.prog w = .ok (.slice (some ⟨w.heap.size, 0, none⟩) s.size cap) w1 ∧ Row w1 w.heap.size (tx s) ∧ Below w.heap.size w w1 := by
  have h1 := Lib.run_convert_string_bytes (P := Try.prog) w 9 46 5 s Try.underlying9 Try.underlying46 Try.underlying5
  refine ⟨_, _, ?_, h1, ?_, ?_⟩
  · exact grownCap_ge w s.size 0 _
  · intro j x hj
    have hlt : j < s.size := by rw [size_tx]; exact (List.getElem?_eq_some_iff.1 hj).1
    rw [Lib.bytesWorld_cell w _ s j hlt]
    refine ⟨?_, ?_⟩
    · have : s.data.toList.getD j 0 = x := by rw [List.getD_eq_getElem?_getD]; unfold tx at hj; rw [hj]; rfl
      rw [this]
    · have hc : j < (Lib.bytesCells w 5 s).size := by
        unfold Lib.bytesCells; rw [Array.size_append, Array.size_map]
        have : s.data.size = s.size := rfl
        omega
      unfold World.frozen?
      rw [Lib.bytesWorld_at_new]
      simp; omega
  · refine ⟨rfl, rfl, rfl, by rw [Lib.bytesWorld_size]; omega, fun k hk => Lib.bytesWorld_at_old w _ s k hk⟩
theorem up_none_at (s : ByteArray) (k : Nat) (h : k < s.size) (he : esc ((tx s).drop k) = none) : up ((tx s).drop k) 0 = (tx s).getD k 0 :: up ((tx s).drop (k + 1)) 0 := by
  rw [drop_tx s k h] at he ⊢; exact up_none he
theorem up_esc_at (s : ByteArray) (k v : Nat) (he : esc ((tx s).drop k) = some v) : up ((tx s).drop k) 0 = 37 :: dig (v / 16) :: dig (v % 16) :: up ((tx s).drop (k + 3)) 0 := by
  rw [up_esc he, List.drop_drop]
theorem esc_ne_at (s : ByteArray) (k : Nat) (h : k < s.size) (h37 : (tx s).getD k 0 ≠ 37) : esc ((tx s).drop k) = none := by
  rw [drop_tx s k h]; exact esc_ne h37 _
/-- Behind an escape's % no % stands in it. -/
theorem esc_in (s : ByteArray) (k v : Nat) (he : esc ((tx s).drop k) = some v) : k + 3 ≤ s.size ∧ ∀ j, k + 1 ≤ j → j < k + 3 → (tx s).getD j 0 ≠ 37 := by
  obtain ⟨a, c, r, x, y, hl, hx, hy, -⟩ := esc_some he
  have hlen : ((tx s).drop k).length = r.length + 3 := by rw [hl]; simp
  rw [List.length_drop, ← size_tx] at hlen
  refine ⟨by omega, fun j h1 h2 => ?_⟩
  have hj : (tx s).getD j 0 = ((tx s).drop k).getD (j - k) 0 := by
    rw [List.getD_eq_getElem?_getD, List.getD_eq_getElem?_getD, List.getElem?_drop, show k + (j - k) = j from by omega]
  rw [hj, hl]
  have : j - k = 1 ∨ j - k = 2 := by omega
  rcases this with h | h
  · rw [h]; exact val_ne hx
  · rw [h]; exact val_ne hy
def escN (v : Nat) : List UInt8 := [37, dig (v / 16), dig (v % 16)]
theorem escN_cells (v : Nat) (w : World) : ∀ j u, (Lib.byteCells (escN v))[j]? = some u →
    (w.alloc (.cells #[.int .u8 37, .int .u8 ((dig (v / 16)).toNat : Int), .int .u8 ((dig (v % 16)).toNat : Int)] 54)).cell? ((⟨w.heap.size, 0, none⟩ : Addr).add j) = some u := by
  intro j u h
  unfold escN Lib.byteCells at h
  match j with
  | 0 => simpa [Addr.add] using h
  | 1 => simpa [Addr.add] using h
  | 2 => simpa [Addr.add] using h
  | j + 3 => simp at h
set_option maxHeartbeats 1600000 in
set_option maxRecDepth 100000 in
theorem upper_any (s : ByteArray) (w : World) (hs : s.size ≤ 1000000000) :
    Calls Try.prog 24 #[.string s] w fun e w' => e = .returned (.string (str (up (tx s) 0))) ∧ Below w.heap.size w w' := by
  obtain ⟨cap, w1, hcap, hcv, hR, hb0⟩ := conv_row s w
  obtain ⟨G, hG⟩ : ∃ G, G = w.heap.size := ⟨_, rfl⟩
  rw [← hG] at hcv hR hb0
  go_enter Try.func24, Try.ntmps24
  go_wp2
  rw [← hG]
  have hBr : G ≤ w1.heap.size := by have := hb0.size; omega
  have HG := Lib.hid hG
  clear hG hcv
  go_loopw [12] (fun i wr => ∃ (k q : Nat) (P : List UInt8), i = .int .i64 k ∧ k ≤ q ∧ q ≤ s.size ∧ P.length = q ∧ Row wr G (P ++ (tx s).drop q) ∧ Below G w wr ∧ G ≤ wr.heap.size ∧ Hid (∀ j, k ≤ j → j < q → (tx s).getD j 0 ≠ 37) ∧ Hid (up (tx s) 0 = P ++ up ((tx s).drop q) 0)) (fun i _ => (s.size - intOf i).toNat)
  case atStart => exact ⟨0, 0, [], rfl, by omega, by omega, rfl, by simpa using hR, hb0, hBr, Lib.hid (fun j _ h => by omega), Lib.hid (by simp)⟩
  case round =>
    obtain ⟨k, q, P, rfl, hkq, hq, hPl, hR, hb, hBr, HN, HJ⟩ := hrel
    by_cases hlt : k < s.size
    · have hd : decide ((k : Int) < (s.size : Int)) = true := decide_eq_true (by omega)
      have hsd := said_any s k wr hlt hs
      cases he : esc ((tx s).drop k) with
      | none =>
        rw [he] at hsd
        simp only [valV] at hsd
        by_cases hkq2 : k < q
        · have HN2 := Lib.hid (fun j (h1 : k + 1 ≤ j) (h2 : j < q) => HN.out j (by omega) h2)
          clear he HN
          go_wp2_with fail
          refine hsd.mono ?_; rintro e w' ⟨rfl, rfl⟩
          go_wp2_with fail
          go_roundw
          case rel => exact ⟨k + 1, q, P, by go_num, by omega, hq, hPl, hR, hb, hBr, HN2, HJ⟩
          case measure => simp [intOf]; omega
        · obtain rfl : k = q := by omega
          have hR2 : Row wr G ((P ++ [(tx s).getD k 0]) ++ (tx s).drop (k + 1)) := by rw [List.append_assoc, List.singleton_append, ← drop_tx s k hlt]; exact hR
          have HJ2 := Lib.hid (HJ.out.trans (by rw [up_none_at s k hlt he, List.append_assoc, List.singleton_append] : _ = (P ++ [(tx s).getD k 0]) ++ up ((tx s).drop (k + 1)) 0))
          have HR := Lib.hid hR2
          clear he HN hR HJ hR2
          generalize (tx s).getD k 0 = c at *
          go_wp2_with fail
          refine hsd.mono ?_; rintro e w' ⟨rfl, rfl⟩
          go_wp2_with fail
          go_roundw
          case rel => exact ⟨k + 1, k + 1, P ++ [c], by go_num, by omega, by omega, by simp; omega, HR.out, hb, hBr, Lib.hid (fun j h1 h2 => by omega), HJ2⟩
          case measure => simp [intOf]; omega
      | some v =>
        have hv := esc_lt he
        obtain ⟨h3, hin⟩ := esc_in s k v he
        have hkq2 : ¬ k < q := fun h => HN.out k (Nat.le_refl _) h (by
          obtain ⟨a, c, r, x, y, hl, -⟩ := esc_some he
          rw [drop_tx s k hlt] at hl
          injection hl)
        obtain rfl : k = q := by omega
        have HIN := Lib.hid hin
        have HJ2 := Lib.hid (HJ.out.trans (by rw [up_esc_at s k v he]; simp [escN] : _ = (P ++ escN v) ++ up ((tx s).drop (k + 3)) 0))
        rw [he] at hsd
        simp only [valV] at hsd
        have hRl : ((tx s).drop k).length = s.size - k := by rw [List.length_drop, ← size_tx]
        have HRL := Lib.hid hRl
        have HPL := Lib.hid hPl
        clear he HN HJ hin hRl hPl
        go_wp2_with fail
        refine hsd.mono ?_; rintro e w' ⟨rfl, rfl⟩
        go_wp2_with fail
        refine (written_any v _ hv).mono ?_
        rintro e w2 ⟨rfl, hb2⟩
        unfold escV
        have hR3 := (hR.kept hb2).kept ((Below.refl _ w2).alloc (Nat.le_refl _) (.cells #[.int .u8 37, .int .u8 ((dig (v / 16)).toNat : Int), .int .u8 ((dig (v % 16)).toNat : Int)] 54))
        have hbB3 := (hb.trans (hb2.mono (by omega))).alloc (by have := hb2.size; omega) (.cells #[.int .u8 37, .int .u8 ((dig (v / 16)).toNat : Int), .int .u8 ((dig (v % 16)).toNat : Int)] 54)
        have hBr2 : G ≤ w2.heap.size := Nat.le_trans hBr hb2.size
        have hm := escN_cells v w2
        have hBr3 : G ≤ (w2.alloc (.cells #[.int .u8 37, .int .u8 ((dig (v / 16)).toNat : Int), .int .u8 ((dig (v % 16)).toNat : Int)] 54)).heap.size := by simp; omega
        have hel : (escN v).length = 3 := rfl
        generalize (dig (v / 16)).toNat = d1 at *
        generalize (dig (v % 16)).toNat = d2 at *
        obtain ⟨A, hA⟩ : ∃ A, A = w2.heap.size := ⟨_, rfl⟩
        rw [← hA] at hm
        have hm4 : ∀ j u, (Lib.byteCells (escN v))[j]? = some u → (w2.alloc (.cells #[.int .u8 37, .int .u8 (d1 : Int), .int .u8 (d2 : Int)] 54)).drew.cell? ((⟨A, 0, none⟩ : Addr).add j) = some u := hm
        have hR4 : Row (w2.alloc (.cells #[.int .u8 37, .int .u8 (d1 : Int), .int .u8 (d2 : Int)] 54)).drew G (P ++ (tx s).drop k) := hR3
        have hB4 : Below G w (w2.alloc (.cells #[.int .u8 37, .int .u8 (d1 : Int), .int .u8 (d2 : Int)] 54)).drew := hbB3.drew
        have hBr4 : G ≤ (w2.alloc (.cells #[.int .u8 37, .int .u8 (d1 : Int), .int .u8 (d2 : Int)] 54)).drew.heap.size := hBr3
        have HA := Lib.hid hA
        clear hm hR3 hbB3 hBr3 hb2 hR hb hBr hsd hA
        have HM := Lib.hid hm4
        have HR4 := Lib.hid hR4
        have HB4 := Lib.hid hB4
        have HBR := Lib.hid hBr4
        have hck : k < cap := by omega
        have hck2 : decide (k < cap) = true := decide_eq_true hck
        clear hm4 hR4 hB4 hBr4
        go_wp2_with fail
        rw [← HA.out]
        refine region_tail 4 (by kernel_rfl) (by kernel_rfl) ?_
        generalize (w2.alloc (.cells #[.int .u8 37, .int .u8 (d1 : Int), .int .u8 (d2 : Int)] 54)).drew = w4 at *
        simp only [List.take_succ_cons, List.take_zero, List.drop_succ_cons, List.drop_zero]
        repeat still_step
        refine wpStill_nil ?_
        have hcp := fun (ty : TypeId) (c d n : Nat) (hn : n = ((tx s).drop k).length) => row_copy (HR4.out) (M := escN v) (by rw [hel, HRL.out]; omega) ⟨A, 0, none⟩ c d (HM.out) ty n hn
        rw [if_neg (show ¬ cap = k by omega)]
        have hr := fun ty => hcp ty 3 (cap - k) (s.size - k) HRL.out.symm
        have hR5 := HR4.out.splice (M := escN v) (by rw [hel, HRL.out]; omega)
        have hB5 := below_setCells G (Nat.le_refl _) (Lib.byteCells (escN v)) P.length w4 HB4.out
        rw [HPL.out] at hr hR5 hB5
        have hBr5 := hB5.size
        have hBr6 : G ≤ (w4.setCells G k (Lib.byteCells (escN v))).heap.size := by have := HG.out; omega
        rw [hel] at hr hR5
        rw [List.drop_drop] at hR5
        have HR5 := Lib.hid hR5
        have hPl5 : (P ++ escN v).length = k + 3 := by rw [List.length_append, hel, HPL.out]
        have HP5 := Lib.hid hPl5
        clear hcp hBr5 hR5 hPl5
        refine Lib.wpList_copy_run _ rfl (.tmp 26) (.tmp 27) 46 46 rfl _ _ rfl rfl (hr _) ?_
        generalize w4.setCells G k (Lib.byteCells (escN v)) = w5 at *
        clear hr HR4 HM HB4 HBR
        go_wp2_with fail
        go_roundw
        case rel => exact ⟨k + 1, k + 3, P ++ escN v, by go_num, by omega, h3, HP5.out, HR5.out, hB5, hBr6, HIN, HJ2⟩
        case measure => simp [intOf]; omega
    · have hke : k = s.size := by omega
      have hqe : q = s.size := by omega
      subst hqe
      have HV := Lib.hid (HJ.out.trans (by rw [List.drop_of_length_le (by rw [← size_tx]; exact Nat.le_refl _)]; simp [up] : _ = P))
      have hR2 : Row wr G P := by
        have := hR
        rw [List.drop_of_length_le (by rw [← size_tx]; exact Nat.le_refl _), List.append_nil] at this
        exact this
      have hcv := row_string hR2 s.size cap hPl.symm
      subst hke
      go_wp2_with fail
      go_ret
      rw [HV.out]
      obtain rfl := HG.out
      exact ⟨rfl, hb⟩
end Go.Proofs.Ytdklkeclcdajeaa
