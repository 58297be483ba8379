/- DeleteFunc by odd; the mean. -/
import Derived.Test.YtkodhaapllmdhaaDoorTal2
import Derived.Laws.FloatArith
namespace Go.Proofs.YtkodhaapllmdhaaDoor
open Go.RowKit Rk Go.Sort
def plD (x : Dn) : Bool := plainB x.v
theorem odd_gives (x : Dn) (W : World) : FnGives Tryd.prog 25 #[] #[enc x] (.bool (!plD x)) W :=
  (odd_any x.v x.lt W).mono fun _ _ ⟨he, hw⟩ => ⟨he, 0, hw.symm⟩
theorem eg25 : ∀ args w, (callFunc 25 args).run Tryd.prog w = .ok (.enter 25 args) w := enters_of Tryd.func25 (by kernel_rfl) rfl
theorem zeroF (w : World) : (zeroValue 22).run Tryd.prog w = .ok (enc (toD 0)) w := by
  have e0 : enc (toD 0) = .float .f64 0 := by unfold enc; rw [toD_v (by decide)]; rfl
  rw [e0]; exact Tryd.zeroValue22 w
/-- a row, read as a slice of its first doubles -/
theorem floats_of_holds {w : World} {B : Nat} {d : Array Dn} (hH : Holds enc w B 0 d) (l : List Nat) (cap : Nat) (hl : l.length ≤ 1000) (hd : ∀ j, j < l.length → j < d.size ∧ (d[j]!).v = l.getD j 0) (hlt : ∀ x ∈ l, x < 2 ^ 64) :
    FloatsAt w (.slice (some ⟨B, 0, none⟩) l.length cap) l := by
  refine ⟨hlt, by unfold maxLen; omega, _, cap, rfl, fun i hi => ⟨B, 0, rfl, ?_⟩⟩
  obtain ⟨h1, h2⟩ := hd i hi
  rw [(hH i h1).1, ← h2]
  rfl
theorem delete_any (B cap : Nat) (d : Array Dn) (w : World) (hH : Holds enc w B 0 d) (hn : d.size ≤ 1000) (hcap : d.size ≤ cap) :
    Calls Tryd.prog 24 #[.slice (some ⟨B, 0, none⟩) d.size cap, .func (.func 25) #[] #[]] w fun e w' =>
      e = .returned (.slice (some ⟨B, 0, none⟩) ((d.toList.map Dn.v).filter plainB).length cap) ∧ FloatsAt w' (.slice (some ⟨B, 0, none⟩) ((d.toList.map Dn.v).filter plainB).length cap) ((d.toList.map Dn.v).filter plainB) ∧ Below B w w' := by
  have hc := AnyE.slices_DeleteFunc Tryd.delL enc one_enc (fun x => !plD x) 25 #[] eg25 (toD 0) zeroF B 0 cap d w (fun W x _ => odd_gives x W) (fun n os dk x _ => odd_gives x _) hH (by omega) hcap
  have e1 : (fun x => !(fun x => !plD x) x) = plD := by funext x; simp
  have e2 : (d.toList.filter plD).map Dn.v = (d.toList.map Dn.v).filter plainB := by rw [List.filter_map]; rfl
  have e3 : ((d.toList.map Dn.v).filter plainB).length = (d.toList.filter plD).length := by rw [← e2, List.length_map]
  rw [e1] at hc
  refine hc.mono fun e w' ⟨he, q, hw⟩ => ⟨by rw [he, e3], ?_, ?_⟩
  · have hle : (d.toList.filter plD).length ≤ d.size := by
      have := List.length_filter_le plD d.toList
      simpa using this
    have hsz : (d.toList.filter plD ++ List.replicate (d.size - (d.toList.filter plD).length) (toD 0)).toArray.size = d.size := by simp; omega
    have hH2 := holds_putRow enc (Sort.ahead w q) B 0 d _ hH hsz
    rw [← hw] at hH2
    refine floats_of_holds hH2 _ cap (by rw [e3]; omega) (fun j hj => ?_) (fun x hx => ?_)
    · rw [e3] at hj
      refine ⟨by rw [hsz]; omega, ?_⟩
      rw [getElem!_pos _ j (by rw [hsz]; omega), ← e2]
      simp [hj, List.getD_eq_getElem?_getD]
    · obtain ⟨hx1, -⟩ := List.mem_filter.1 hx
      obtain ⟨y, -, rfl⟩ := List.mem_map.1 hx1
      exact y.lt
  · rw [hw]
    exact below_putRow enc (w0 := w) (w := Sort.ahead w q) ⟨rfl, rfl, rfl, Nat.le_refl _, fun _ _ => rfl⟩ B 0 (Nat.le_refl _) _
theorem sumL_take (l : List Nat) (k : Nat) (hk : k < l.length) : sumL (l.take (k + 1)) = plus (sumL (l.take k)) (l.getD k 0) := by
  unfold sumL
  rw [List.take_add_one, List.foldl_append, List.getElem?_eq_getElem hk, List.getD_eq_getElem?_getD, List.getElem?_eq_getElem hk]
  rfl
theorem float_of_int (n : Nat) : floatOfInt .f64 (n : Int) = dblN n := by
  unfold floatOfInt dblN
  show Ieee.double.write (.number (decide ((n : Int) < 0)) (n : Int).natAbs 0) = _
  rw [decide_eq_false (by omega), Int.natAbs_natCast]
  rfl
set_option maxHeartbeats 1600000 in
theorem mean_any (v : Value) (l : List Nat) (w : World) (hq : FloatsAt w v l) (hp : ∀ x ∈ l, plainB x = true) (h0 : l ≠ []) (hn : l.length ≤ 1000) :
    Calls Tryd.prog 26 #[v] w fun e w' => e = .returned (.float .f64 (meanL l)) ∧ w = w' := by
  obtain ⟨h1, -, a, c, rfl, h3⟩ := hq
  have hm := mean_is l (fun x hx => ⟨h1 x hx, hp x hx⟩) h0 (by omega)
  have hadd : ∀ k, k < l.length → Ieee.double.add (sumL (l.take k)) (l.getD k 0) = some (sumL (l.take (k + 1))) := by
    intro k hk
    have hin : l.getD k 0 ∈ l := by rw [List.getD_eq_getElem?_getD, List.getElem?_eq_getElem hk]; exact List.getElem_mem hk
    rw [sumL_take l k hk]
    exact (plus_is (sumL_ok _ (fun x hx => ⟨h1 x (List.mem_of_mem_take hx), hp x (List.mem_of_mem_take hx)⟩)) (h1 _ hin) (hp _ hin)).1
  have HQ := Lib.hid hm.1
  have HA := Lib.hid hadd
  have HL := Lib.hid h3
  have HF := Lib.hid (float_of_int l.length)
  have s0 : sumL (l.take 0) = 0 := rfl
  have sl : sumL (l.take l.length) = sumL l := by rw [List.take_length]
  have S0 := Lib.hid s0
  have SL := Lib.hid sl
  generalize meanL l = m at *
  generalize dblN l.length = n' at *
  clear hm hadd h3 h1 hp h0 s0 sl
  go_enter Tryd.func26, Tryd.ntmps26
  go_wp2_with fail
  go_loop [3, 8] (fun s i => ∃ k : Nat, i = .int .i64 k ∧ k ≤ l.length ∧ s = .float .f64 (sumL (l.take k))) (fun _ i => (l.length - intOf i).toNat)
  case atStart => exact ⟨0, rfl, Nat.zero_le _, by rw [S0.out]⟩
  case round =>
    obtain ⟨k, rfl, hk, rfl⟩ := hrel
    by_cases hlt : k < l.length
    · obtain ⟨b, o, rfl, hc⟩ := HL.out k hlt
      have hdk : decide (k < l.length) = true := decide_eq_true hlt
      have hs := fun w => run_float_arith (P := Tryd.prog) w .add 22 .f64 _ _ _ (HA.out k hlt)
      generalize l.getD k 0 = x at *
      generalize sumL (l.take k) = s at *
      generalize hs' : sumL (l.take (k + 1)) = s' at *
      have HS' := Lib.hid hs'
      clear hs'
      go_wp2_with fail
      go_round
      case rel => exact ⟨k + 1, by go_num, by omega, by rw [HS'.out]⟩
      case measure => simp [intOf]; omega
    · have hc' : k = l.length := by omega
      subst hc'
      have hdk : decide (l.length < l.length) = false := decide_eq_false hlt
      have hd := fun w => run_float_arith (P := Tryd.prog) w .quo 22 .f64 _ _ _ HQ.out
      have hcv : ∀ w, (convert 3 22 (.int .i64 (l.length : Int))).run Tryd.prog w = .ok (.float .f64 n') w := fun w => by
        rw [run_convert_int_float w 3 22 .i64 .f64 _ (by kernel_rfl) Tryd.underlying22, HF.out]
      rw [SL.out]
      generalize sumL l = s at *
      clear HQ
      go_wp2_with fail
      go_ret
      exact ⟨rfl, rfl⟩
end Go.Proofs.YtkodhaapllmdhaaDoor
