/- The contracts of what ApplyHunks calls: linesWithout, spanIsIn. No statement is proved here. -/
import Derived.Test.YtakegfhbhhkakaiRows
import Derived.Test.YtakegfhbhhkakaiLem
import Derived.Test.YtakegfhbhhkakaiStrs
import Derived.Test.YtakegfhbhhkakaiLFLem
import Derived.Test.YtakegfhbhhkakaiLF
import Derived.Test.YtakegfhbhhkakaiDTab
import Derived.Test.YtakegfhbhhkakaiOwn
import Derived.Test.YtakegfhbhhkakaiFr
import Derived.Test.YtakegfhbhhkakaiHkL
import Derived.Test.YtakegfhbhhkakaiHkC
import Derived.WalkKit
import Derived.ProofKit
import Derived.Below
import Derived.WalkSpells
import Derived.Maps.AppendAt
namespace Go.Proofs.Ytakegfhbhhkakai
open Go.ChangeShapes Go.WideShapes Go.ChangeAt Go.RowKit

/-- The lines behind the marks, without those that bear the mark b. -/
def wout (b : Int) (ss : List ByteArray) : List ByteArray := (ss.filter fun s => mark0 s != b).map fun s => s.extract 1 s.size
theorem wout_take (b : Int) (ss : List ByteArray) (k : Nat) (h : k < ss.length) :
    wout b (ss.take (k + 1)) = wout b (ss.take k) ++ (if (mark0 (ss.getD k ByteArray.empty) != b) = true then [(ss.getD k ByteArray.empty).extract 1 (ss.getD k ByteArray.empty).size] else []) := by
  unfold wout
  rw [List.take_succ_eq_append_getElem h, List.filter_append, List.map_append, getD_at ss k h]
  congr 1
  by_cases e : (mark0 ss[k] != b) = true
  · simp [List.filter, e]
  · simp [List.filter, e]
theorem wout_length (b : Int) (ss : List ByteArray) : (wout b ss).length ≤ ss.length := by
  unfold wout
  rw [List.length_map]
  exact List.length_filter_le _ _
theorem wout_take_length (b : Int) (ss : List ByteArray) (k : Nat) : (wout b (ss.take k)).length ≤ ss.length := by
  have h1 := wout_length b (ss.take k)
  have h2 : (ss.take k).length ≤ ss.length := by rw [List.length_take]; omega
  omega

set_option maxRecDepth 20000 in
set_option maxHeartbeats 2000000 in
theorem linesWithout (b : Int) (x0 x1 : Int) (a : Option Addr) (c : Nat) (ss : List ByteArray) (w : World) (hs : SS w a ss) (hn : ss.length ≤ 1048576) (hall : ss.all okH = true) :
    Calls Try.prog 37 #[.agg #[.int .i64 x0, .int .i64 x1, .slice a ss.length c], .int .u8 b] w fun e w' => (∃ v, e = .returned v ∧ w'.ownsRow w.heap.size 9 1 v (wout b ss).length ((wout b ss).map Value.string)) ∧ Below w.heap.size w w' := by
  obtain ⟨i0, hi, hz0, hz1, hz2⟩ := info_parts infoString
  obtain ⟨W, hW⟩ : ∃ W, w.alloc (.cells #[.int .i64 x0, .int .i64 x1, .slice a ss.length c] 51) = W := ⟨_, rfl⟩
  have hR : Rs W w.heap.size [.int .i64 x0, .int .i64 x1, .slice a ss.length c] := by rw [← hW]; exact Rs.new _ _ _
  have hB : Below w.heap.size w W := by rw [← hW]; exact allocBelow _ _
  have hSB : SSB w.heap.size W a ss := hs.toB.below hB
  have d2 := hR 2 _ rfl
  have zW := hB.size
  go_enter Try.func37, Try.ntmps37
  go_wp2
  clear hW hs hR
  go_loopw [5, 11] (fun v i wr => ∃ k : Nat, k ≤ ss.length ∧ i = .int .i64 k ∧ wr.ownsRow W.heap.size 9 1 v (wout b (ss.take k)).length ((wout b (ss.take k)).map Value.string) ∧ Below W.heap.size W wr) (fun _ i _ => ss.length - (intOf i).toNat)
  case atStart => exact ⟨0, Nat.zero_le _, rfl, ⟨rfl, .inl ⟨rfl, rfl⟩⟩, Below.refl _ _⟩
  case round =>
    obtain ⟨k, hk, rfl, hown, hbel⟩ := hrel
    have hsz := hbel.size
    have hwl := wout_take_length b ss k
    by_cases hlt : k < ss.length
    · have q : (k : Int) < (ss.length : Int) := by omega
      obtain ⟨g, off, e, hg, hc⟩ := (hSB.below hbel).2 k hlt
      subst e
      have htk := wout_take b ss k hlt
      have hp := okH_size (okTo_at hall hlt)
      obtain ⟨s, hse⟩ : ∃ s, ss.getD k ByteArray.empty = s := ⟨_, rfl⟩
      rw [hse] at hc htk hp
      rw [mark0_eq s hp] at htk
      have hzs : (0 : Int) < (s.size : Int) := by omega
      have h1s : (1 : Int) ≤ (s.size : Int) := by omega
      obtain ⟨T, hT⟩ : ∃ T, wout b (ss.take k) = T := ⟨_, rfl⟩
      rw [hT] at hown htk hwl
      clear hse
      cases hm : ((s[0].toNat : Int) != b) with
      | true =>
        rw [hm, if_pos rfl] at htk
        have HTK : Hid (wout b (ss.take (k + 1)) = T ++ [s.extract 1 s.size]) := htk
        clear htk hT
        go_wp2_with ((at_builtin; refine wpList_append_own_at _ rfl (.tmp 19) (.tmp 22) 22 rfl W.heap.size 9 i0 (.string ByteArray.empty) 1 16 Try.underlying22 hi hz0 hz1 hz2 rfl (by decide) _ _ _ rfl (hown.alloc _) ⟨wr.heap.size, 0, none⟩ 1 1 [.string (s.extract 1 s.size)] rfl rfl (cell_one_new _ _ _) (by simp [Value.oneCell']) (by unfold maxLen; omega) (by omega) (by simp; omega) ?_; intro v' W5 p5 g5 _ k5))
        have H5 : Hid (W5.ownsRow W.heap.size 9 1 v' (wout b (ss.take (k + 1))).length ((wout b (ss.take (k + 1))).map Value.string)) := by
          show World.ownsRow _ _ _ _ _ _ _
          rw [HTK.out, List.map_append, List.length_append]; exact p5
        have B5 : Below W.heap.size W W5 := (hbel.alloc hsz _).grown g5 (by simp; omega) (fun i hi => (hown.lt i hi).1)
        clear p5 g5 k5 hown hbel
        go_roundw
        case rel => exact ⟨k + 1, by omega, by first | rfl | go_num, H5.out, B5⟩
        case measure => first | (simp [intOf]; omega) | simp [intOf]
      | false =>
        rw [hm, if_neg Bool.false_ne_true, List.append_nil] at htk
        have H5 : Hid (wr.ownsRow W.heap.size 9 1 u5 (wout b (ss.take (k + 1))).length ((wout b (ss.take (k + 1))).map Value.string)) := by
          show World.ownsRow _ _ _ _ _ _ _
          rw [htk]; exact hown
        clear htk hT hown
        go_wp2
        go_roundw
        case rel => exact ⟨k + 1, by omega, by first | rfl | go_num, H5.out, hbel⟩
        case measure => first | (simp [intOf]; omega) | simp [intOf]
    · have q : ¬ (k : Int) < (ss.length : Int) := by omega
      rw [List.take_of_length_le (by omega)] at hown
      have HO : Hid (wr.ownsRow w.heap.size 9 1 u5 (wout b ss).length ((wout b ss).map Value.string)) := ownMono hown zW
      have HB := hB.trans (hbel.mono zW)
      clear hown hbel hwl
      go_wp2
      go_ret
      exact ⟨⟨_, rfl, HO.out⟩, HB⟩
end Go.Proofs.Ytakegfhbhhkakai
