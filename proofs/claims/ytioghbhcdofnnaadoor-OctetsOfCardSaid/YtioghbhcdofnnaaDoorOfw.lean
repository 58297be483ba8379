import Derived.Test.YtioghbhcdofnnaaDoorFam
import Derived.Test.YtioghbhcdofnnaaDoorAwk
import Derived.Test.YtioghbhcdofnnaaDoorMem
import Derived.WalkSpells
namespace Go.Proofs.YtioghbhcdofnnaaDoor
open Go.RowKit Sets
def inL (l : List Nat) (c : Nat) : Bool := l.contains c
set_option maxHeartbeats 800000 in
set_option maxRecDepth 100000 in
theorem ofw_any (v : Value) (l : List Nat) (w : World) (h : BytesAt w v l) (hT : Tab w) (hg : 0 < w.heap.size) :
    Calls Tryd.prog 5 #[v] w fun e w' => e = .returned (.bool true) ∧ Below w.heap.size w w' := by
  obtain ⟨hl, hm, a, cap, rfl, hc⟩ := h
  unfold maxLen at hm
  by_cases hlen : 1000 < l.length
  · go_enter Tryd.func5, Tryd.ntmps5
    go_wp2_with (go_at_call 15; refine (awake_any _ hT hg).mono ?_; rintro e w' ⟨rfl, hb⟩)
    go_ret
    exact ⟨rfl, hb⟩
  · have hle : l.length ≤ 1000 := by omega
    have hz := zero35
    go_enter Tryd.func5, Tryd.ntmps5
    go_wp2
    go_loopw [4] (fun i wr => ∃ k : Nat, i = .int .i64 k ∧ k ≤ l.length ∧ wr = w.alloc (.cells (arr (inL (l.take k))) 35)) (fun i _ => (l.length - intOf i).toNat)
    case atStart => exact ⟨0, rfl, Nat.zero_le _, by rw [arr_congr (fun _ => false) (inL (l.take 0)) (fun c _ => by simp [inL])]⟩
    case round =>
      obtain ⟨k, rfl, hk, rfl⟩ := hrel
      by_cases hlt : k < l.length
      · obtain ⟨b, o, rfl, hcell⟩ := hc k hlt
        clear hc
        have hbk := World.block_lt_of_cell? _ _ hcell
        have hx : l.getD k 0 < 256 := by
          rw [List.getD_eq_getElem?_getD, List.getElem?_eq_getElem hlt]; exact hl _ (List.getElem_mem hlt)
        have hnext : ∀ c, inL (l.take (k + 1)) c = if c = l.getD k 0 then true else inL (l.take k) c := by
          intro c
          unfold inL
          rw [List.take_succ_eq_append_getElem hlt, List.contains_append, List.getD_eq_getElem?_getD, List.getElem?_eq_getElem hlt]
          by_cases h : c = l[k] <;> simp [h]
        have hset := arr_set (inL (l.take k)) (l.getD k 0) true
        rw [← arr_congr _ _ (fun c _ => hnext c)] at hset
        have HN := Lib.hid hset
        have harr := arr_get (inL (l.take k)) (l.getD k 0) hx
        generalize inL (l.take k) = p at *
        generalize l.getD k 0 = x at *
        clear hnext hset
        go_wp2
        go_roundw
        case rel =>
          rw [HN.out]
          exact ⟨k + 1, by go_num, by omega, rfl⟩
        case measure => simp [intOf]; omega
      · have hkl : k = l.length := by omega
        subst hkl
        rw [List.take_length]
        go_wp2
        obtain ⟨W, hW⟩ : ∃ W, W = w.alloc (.cells (arr (inL l)) 35) := ⟨_, rfl⟩
        rw [← hW]
        have hrow : W.heap[w.heap.size]? = some (.cells (arr (inL l)) 35 (0, 0)) := by rw [hW]; exact heap_alloc_new w _
        have HB : Below w.heap.size w W := by rw [hW]; exact (Below.refl _ _).alloc (Nat.le_refl _) _
        have hby : BytesAt W (.slice a l.length cap) l := BytesAt.kept (w := w) ⟨hl, by unfold maxLen; exact hm, a, cap, rfl, hc⟩ HB
        have hT' := hT.below HB hg
        have hg' : 0 < W.heap.size := Nat.lt_of_lt_of_le hg HB.size
        clear hW hc hz
        refine region_fam (by kernel_rfl) (by kernel_rfl) ?_
        intro ι hι F hF hX
        have hTF := fun n => Lib.hid (hT'.below (hF n) hg')
        have hgF := fun n => Nat.lt_of_lt_of_le hg' (hF n).size
        have hlt0 : w.heap.size < W.heap.size := (Array.getElem?_eq_some_iff.1 hrow).1
        have hpk : packN (inL l) = ofN l := packN_eq _ _ (ofN_lt l hl) (fun c _ => by rw [ofN_testBit]; rfl)
        repeat (go_big_quiet_step (first
          | (go_at_call 11; exact fam_call hF hX (of_any _ l _ (hby.kept (hF _))))))
        refine BigFrame.wpQuiet_want rfl (fun K hK => ?_)
        refine quiet_load_row 35 (.tmp 3) rfl w.heap.size rfl 35 (arr (inL l)) (0, 0) _ (fun w' hw' => by obtain ⟨n, rfl⟩ := hw'; rw [(hF n).block _ hlt0]; exact hrow) Tryd.underlying35 rfl (by rw [arr_size]; kernel_rfl) ?_
        refine hK _ ?_
        clear hK K
        go_simp
        repeat (go_big_quiet_step (first
          | (go_at_call 19; exact fam_call hF hX (pack_any _ _))
          | (go_at_call 15; exact fam_call hF hX (awake_any _ (hTF _).out (hgF _)))))
        refine wpQuiet_nil ?_
        intro n
        have HB' := HB.trans ((hF n).mono HB.size)
        generalize F n = W3 at *
        go_wp2
        go_ret
        exact ⟨rfl, HB'⟩
end Go.Proofs.YtioghbhcdofnnaaDoor
