/- use: who is used; Contains. -/
import Derived.Test.YtbmoanhdpnaocaaTre2
import Derived.Test.YtbmoanhdpnaocaaBut
import Derived.Deep.OwnRows
namespace Go.Proofs.Ytbmoanhdpnaocaa
open Go.RowKit Sets Tr
/-- Block u holds n answers. -/
def BoolsAt (w : World) (u n : Nat) (f : Nat → Bool) : Prop := w.rowIs u 4 n (fun j => .bool (f j))
theorem BoolsAt.set {w : World} {u n : Nat} {f : Nat → Bool} (h : BoolsAt w u n f) (i : Nat) (v : Bool) : BoolsAt (w.setCell ⟨u, i, none⟩ (.bool v)) u n (fun j => if j = i then v else f j) :=
  (World.rowIs.set h i (.bool v)).congr (fun j _ => by by_cases hj : j = i <;> simp [hj])
theorem BoolsAt.congr {w : World} {u n : Nat} {f g : Nat → Bool} (h : BoolsAt w u n f) (e : ∀ j, j < n → f j = g j) : BoolsAt w u n g := World.rowIs.congr h (fun j hj => by rw [e j hj])
theorem BoolsAt.kept {w w' : World} {u n : Nat} {f : Nat → Bool} (h : BoolsAt w u n f) (e : w'.heap[u]? = w.heap[u]?) : BoolsAt w' u n f := World.rowIs.of_block h e
theorem BoolsAt.alloc {w : World} {u n : Nat} {f : Nat → Bool} (h : BoolsAt w u n f) (o : Obj) : BoolsAt (w.alloc o) u n f := World.rowIs.alloc h o
theorem BoolsAt.cell {w : World} {u n : Nat} {f : Nat → Bool} (h : BoolsAt w u n f) {i : Nat} (hi : i < n) : w.cell? ⟨u, i, none⟩ = some (.bool (f i)) := World.rowIs.cell h hi
theorem BoolsAt.frozen {w : World} {u n : Nat} {f : Nat → Bool} (h : BoolsAt w u n f) (i : Nat) : w.frozen? ⟨u, i, none⟩ = false := World.rowIs.frozen h i
theorem BoolsAt.lt {w : World} {u n : Nat} {f : Nat → Bool} (h : BoolsAt w u n f) : u < w.heap.size := World.rowIs.lt h
/-- May these be used, below i? -/
def okB (f : Nat → Bool) (i : Nat) (K : List Int) : Prop := (∀ c ∈ K, 0 ≤ c ∧ c < i ∧ f c.toNat = false) ∧ K.Nodup
def mark (f : Nat → Bool) (K : List Int) (j : Nat) : Bool := f j || K.contains (j : Int)
theorem okB_snoc (f : Nat → Bool) (i : Nat) (L : List Int) (c : Int) : okB f i (L ++ [c]) ↔ okB f i L ∧ 0 ≤ c ∧ c < i ∧ mark f L c.toNat = false := by
  unfold okB mark
  rw [List.nodup_append]
  constructor
  · rintro ⟨h1, h2, -, h4⟩
    have hc := h1 c (by simp)
    refine ⟨⟨fun x hx => h1 x (by simp [hx]), h2⟩, hc.1, hc.2.1, ?_⟩
    rw [hc.2.2, Bool.false_or, Bool.eq_false_iff]
    intro h
    rw [List.contains_iff_mem, Int.toNat_of_nonneg hc.1] at h
    exact h4 c h c (by simp) rfl
  · rintro ⟨⟨h1, h2⟩, h3, h4, h5⟩
    rw [Bool.or_eq_false_iff, Int.toNat_of_nonneg h3] at h5
    refine ⟨fun x hx => ?_, h2, by simp, fun a ha b hb e => ?_⟩
    · rcases List.mem_append.1 hx with hx | hx
      · exact h1 x hx
      · rw [List.mem_singleton.1 hx]; exact ⟨h3, h4, h5.1⟩
    · rw [List.mem_singleton.1 hb] at e
      subst e
      have := h5.2
      rw [Bool.eq_false_iff] at this
      exact this (List.contains_iff_mem.2 ha)
theorem okB_prefix {f : Nat → Bool} {i : Nat} {L M : List Int} (h : okB f i (L ++ M)) : okB f i L :=
  ⟨fun c hc => h.1 c (by simp [hc]), (List.nodup_append.1 h.2).1⟩
theorem mark_snoc (f : Nat → Bool) (L : List Int) (c : Int) (hc : 0 ≤ c) (j : Nat) : mark f (L ++ [c]) j = if j = c.toNat then true else mark f L j := by
  unfold mark
  by_cases h : j = c.toNat
  · have : (j : Int) = c := by omega
    simp [h, Int.toNat_of_nonneg hc]
  · have : ¬ (j : Int) = c := by omega
    simp [h, this]
theorem mark_nil (f : Nat → Bool) : mark f [] = f := by funext j; simp [mark]
/-- what use leaves -/
def UseEnd (u n i : Nat) (f : Nat → Bool) (K : List Int) (w : World) (e : Ending) (w' : World) : Prop :=
  ∃ r g, e = .returned (.bool r) ∧ BoolsAt w' u n g ∧ But u w w' ∧ (r = true ↔ okB f i K) ∧ (r = true → g = mark f K)
set_option maxHeartbeats 3200000 in
set_option maxRecDepth 100000 in
theorem use_any (u n i cap B : Nat) (f : Nat → Bool) (v : Value) (K : List Int) (w : World) (hR : BoolsAt w u n f) (hi : i ≤ n) (hu : u < B) (hK : IntsAt B w v K) (hl : K.length ≤ 1000) :
    Calls Try.prog 25 #[.slice (some ⟨u, 0, none⟩) i cap, v] w (UseEnd u n i f K w) := by
  obtain ⟨a, cp, rfl, hc⟩ := hK
  go_enter Try.func25, Try.ntmps25
  go_wp2_with fail
  go_loopw [9] (fun x wr => ∃ m : Nat, x = .int .i64 m ∧ m ≤ K.length ∧ Hid (okB f i (K.take m)) ∧ BoolsAt wr u n (mark f (K.take m)) ∧ Hid (But u w wr)) (fun x _ => (K.length - intOf x).toNat)
  case atStart => exact ⟨0, rfl, Nat.zero_le _, Lib.hid ⟨by simp, by simp⟩, by rw [List.take_zero, mark_nil]; exact hR, Lib.hid (But.refl _ _)⟩
  case round =>
    obtain ⟨m, rfl, hm, HO, hB, HW⟩ := hrel
    by_cases hml : m < K.length
    · obtain ⟨b, hb, rfl, hx0⟩ := hc m hml
      clear hc
      have hx := HW.out.cell hx0 (by show b ≠ u; omega)
      have hdm : decide ((m : Int) < (K.length : Int)) = true := decide_eq_true (by omega)
      have htk : K.take (m + 1) = K.take m ++ [K.getD m 0] := by
        rw [List.take_add_one, List.getElem?_eq_getElem hml, List.getD_eq_getElem?_getD, List.getElem?_eq_getElem hml]; rfl
      have HTK := Lib.hid htk
      have HPre : Hid (okB f i K → okB f i (K.take m ++ [K.getD m 0])) := Lib.hid (fun h => by rw [← htk]; rw [← List.take_append_drop (m + 1) K] at h; exact okB_prefix h)
      clear htk hx0
      generalize K.getD m 0 = c at *
      by_cases hc0 : c < 0
      · go_wp2_with fail
        go_ret
        refine ⟨_, _, rfl, hB, HW.out, ⟨fun h => (by cases h), fun h => ?_⟩, fun h => (by cases h)⟩
        have := ((okB_snoc _ _ _ _).1 (HPre.out h)).2.1
        omega
      · have hc0' : 0 ≤ c := by omega
        by_cases hci : c < i
        · obtain ⟨j, rfl⟩ : ∃ j : Nat, c = (j : Int) := ⟨c.toNat, by omega⟩
          have hji : j < i := by omega
          have hcj := hB.cell (i := j) (by omega)
          have hfj := hB.frozen j
          have HB := Lib.hid hB
          have hdj : decide (i ≤ j) = false := decide_eq_false (by omega)
          clear hB hc0 hci hc0'
          cases hmj : mark f (K.take m) j
          · rw [hmj] at hcj
            have HM := Lib.hid hmj
            clear hmj
            go_wp2_with fail
            go_roundw
            case rel =>
              refine ⟨m + 1, by go_num, hml, Lib.hid ?_, ?_, Lib.hid (HW.out.trans (But.set _ _ _ _))⟩
              · rw [HTK.out]
                exact (okB_snoc _ _ _ _).2 ⟨HO.out, by omega, by omega, HM.out⟩
              · rw [HTK.out]
                exact (HB.out.set j true).congr (fun q _ => by rw [mark_snoc _ _ _ (by omega)]; rfl)
            case measure => simp only [intOf]; omega
          · rw [hmj] at hcj
            have HM := Lib.hid hmj
            clear hmj
            go_wp2_with fail
            go_ret
            refine ⟨_, _, rfl, HB.out, HW.out, ⟨fun h => (by cases h), fun h => ?_⟩, fun h => (by cases h)⟩
            have := ((okB_snoc _ _ _ _).1 (HPre.out h)).2.2.2
            rw [show ((j : Int)).toNat = j from by omega, HM.out] at this
            cases this
        · have hge : decide ((i : Int) ≤ c) = true := decide_eq_true (by omega)
          go_wp2_with fail
          go_ret
          refine ⟨_, _, rfl, hB, HW.out, ⟨fun h => (by cases h), fun h => ?_⟩, fun h => (by cases h)⟩
          have := ((okB_snoc _ _ _ _).1 (HPre.out h)).2.2.1
          omega
    · have : m = K.length := by omega
      subst this
      have hdm : decide ((K.length : Int) < (K.length : Int)) = false := decide_eq_false (by omega)
      clear hc
      rw [List.take_length] at hB HO
      go_wp2_with fail
      go_ret
      exact ⟨_, _, rfl, hB, HW.out, ⟨fun _ => HO.out, fun _ => rfl⟩, fun _ => rfl⟩
def allB (f : Nat → Bool) (n : Nat) : Bool := (List.range n).all f
set_option maxHeartbeats 3200000 in
set_option maxRecDepth 100000 in
theorem index_any (u n cap : Nat) (f : Nat → Bool) (w : World) (hR : BoolsAt w u n f) (hn : n ≤ 1000) :
    Calls Try.prog 30 #[.slice (some ⟨u, 0, none⟩) n cap, .bool false] w fun e w' => ∃ k : Int, e = .returned (.int .i64 k) ∧ (decide (0 ≤ k) = !allB f n) ∧ w = w' := by
  go_enter Try.func30, Try.ntmps30
  go_wp2_with fail
  go_loopw [8] (fun x wr => ∃ m : Nat, x = .int .i64 m ∧ m ≤ n ∧ Hid (∀ j, j < m → f j = true) ∧ wr = w) (fun x _ => (n - intOf x).toNat)
  case atStart => exact ⟨0, rfl, Nat.zero_le _, Lib.hid (fun j hj => absurd hj (Nat.not_lt_zero _)), rfl⟩
  case round =>
    obtain ⟨m, rfl, hm, HA, rfl⟩ := hrel
    by_cases hml : m < n
    · have hcj := hR.cell hml
      have hdm : decide ((m : Int) < (n : Int)) = true := decide_eq_true (by omega)
      have HR := Lib.hid hR
      clear hR
      cases hf : f m
      · rw [hf] at hcj
        have HF := Lib.hid hf
        clear hf
        go_wp2_with fail
        go_ret
        refine ⟨_, rfl, ?_, rfl⟩
        rw [decide_eq_true (by omega)]
        symm
        rw [Bool.not_eq_true', Bool.eq_false_iff]
        intro h
        have := List.all_eq_true.1 h m (List.mem_range.2 hml)
        rw [HF.out] at this
        cases this
      · rw [hf] at hcj
        have HF := Lib.hid hf
        clear hf
        go_wp2_with fail
        go_roundw
        case rel =>
          refine ⟨m + 1, by go_num, hml, Lib.hid (fun j hj => ?_), by first | rfl | trivial⟩
          by_cases h : j = m
          · rw [h]; exact HF.out
          · exact HA.out j (by omega)
        case measure => simp only [intOf]; omega
    · have : m = n := by omega
      subst this
      have hdm : decide ((m : Int) < (m : Int)) = false := decide_eq_false (by omega)
      have HR := Lib.hid hR
      clear hR
      go_wp2_with fail
      go_ret
      refine ⟨_, rfl, ?_, rfl⟩
      rw [decide_eq_false (by omega)]
      symm
      rw [Bool.not_eq_false']
      exact List.all_eq_true.2 (fun j hj => HA.out j (List.mem_range.1 hj))
theorem contains_any (u n cap : Nat) (f : Nat → Bool) (w : World) (hR : BoolsAt w u n f) (hn : n ≤ 1000) :
    Calls Try.prog 26 #[.slice (some ⟨u, 0, none⟩) n cap, .bool false] w fun e w' => e = .returned (.bool (!allB f n)) ∧ w = w' := by
  go_enter Try.func26, Try.ntmps26
  have HR := Lib.hid hR
  clear hR
  go_wp2_with (go_at_call 30; refine (index_any _ _ _ _ _ HR.out hn).mono ?_; rintro e w' ⟨k, rfl, hk, rfl⟩)
  go_ret
  exact ⟨by rw [← hk]; rfl, rfl⟩
end Go.Proofs.Ytbmoanhdpnaocaa
