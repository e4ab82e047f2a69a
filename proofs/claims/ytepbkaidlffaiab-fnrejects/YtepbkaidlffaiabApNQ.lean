/- The contracts of ApplyHunks, of the program and of the specification, whole. No statement is proved here. -/
import Derived.Test.YtepbkaidlffaiabRows
import Derived.Test.YtepbkaidlffaiabLemQ
import Derived.Test.YtepbkaidlffaiabStrsQ
import Derived.Test.YtepbkaidlffaiabLFLemQ
import Derived.Test.YtepbkaidlffaiabLFQ
import Derived.Test.YtepbkaidlffaiabDTabQ
import Derived.Test.YtepbkaidlffaiabOwnQ
import Derived.Test.YtepbkaidlffaiabFrQ
import Derived.Test.YtepbkaidlffaiabHkLQ
import Derived.Test.YtepbkaidlffaiabHfCQ
import Derived.Test.YtepbkaidlffaiabHfIQ
import Derived.Test.YtepbkaidlffaiabHfSQ
import Derived.Test.YtepbkaidlffaiabHnLQ
import Derived.Test.YtepbkaidlffaiabApCQ
import Derived.Test.YtepbkaidlffaiabApBQ
import Derived.Test.YtepbkaidlffaiabApIQ
import Derived.Test.YtepbkaidlffaiabApSQ
import Derived.WalkKit
import Derived.ProofKit
import Derived.Below
namespace Go.Proofs.Ytepbkaidlffaiab
open Go.ChangeShapes Go.WideShapes Go.ChangeAt Go.RowKit

theorem apL_length (xs : List ByteArray) (l : List Hk) : (apL xs l).length ≤ 100 := by
  unfold apL
  split
  · rename_i h; exact (lf_zero' h.2.2.2).1
  · exact Nat.zero_le _
theorem apL_small (xs : List ByteArray) (l : List Hk) (hT : tot xs + totK l l.length ≤ 1048576) : ∀ k, k < (apL xs l).length → ((apL xs l).getD k ByteArray.empty).size ≤ 1048576 := by
  unfold apL
  split
  · rename_i h
    intro k hk
    rw [getD_at _ k hk]
    have h1 := tot_of_mem (List.getElem_mem hk)
    have h2 := apAll_tot (xs := xs) h.2.1
    omega
  · intro k hk; exact absurd hk (Nat.not_lt_zero _)

set_option maxRecDepth 20000 in
set_option maxHeartbeats 4000000 in
theorem implApplyHunks (a1 a3 : Option Addr) (ha1 : ∃ g, a1 = some ⟨g, 0, none⟩) (c1 c3 : Nat) (xs : List ByteArray) (l : List Hk) (w : World) (h1 : SS w a1 xs) (h3 : HB w.heap.size w a3 l) (k1 : xs.length ≤ c1) (n1 : xs.length ≤ 1048576) (n3 : l.length ≤ 1048576) (hs : Shortly l)
    (hT : tot xs + totK l l.length ≤ 1048576) :
    Calls Try.prog 11 #[.slice a1 xs.length c1, .slice a3 l.length c3] w fun e w' => LP (apR xs l) (apL xs l) w e w' := by
  by_cases hx : lf xs = 0
  · by_cases h0 : Go.Proofs.Ytepbkaidlffaiab.hf l = 0
    · exact implApply a1 a3 ha1 c1 c3 xs l w h1 h3 k1 n1 n3 hs hT hx h0
    · have hA := fun w h => implLinesFault a1 c1 xs w h n1
      have hB := fun w h => implHunksFault a3 c3 l w h n3 hs
      have HR : Hid (apR xs l = Go.Proofs.Ytepbkaidlffaiab.hf l) := by show _ = _; unfold apR; rw [if_pos hx, if_neg h0]
      have HL : Hid (apL xs l = []) := by show _ = _; unfold apL; rw [if_neg (fun h => h0 h.2.1)]
      rw [hx] at hA
      have hb := ne_beq h0
      obtain ⟨v, hv⟩ : ∃ v, Go.Proofs.Ytepbkaidlffaiab.hf l = v := ⟨_, rfl⟩
      have HV : Hid (Go.Proofs.Ytepbkaidlffaiab.hf l = v) := hv
      rw [hv] at hB hb
      obtain ⟨W1, hW1⟩ : ∃ W1, w.alloc (.cells #[.int .i64 0, .slice none 0 0] 29) = W1 := ⟨_, rfl⟩
      have b1 : Below w.heap.size w W1 := by rw [← hW1]; exact allocBelow _ _
      have zW : w.heap.size < W1.heap.size := by rw [← hW1]; simp
      have r1 : Res2 W1 w.heap.size (.int .i64 0) (.slice none 0 0) := by rw [← hW1]; exact Res2.new _ _ _ _
      have s1 := h1.below b1
      have s3 := h3.below b1
      clear hx h0 hv
      go_enter Try.func11, Try.ntmps11
      go_wp2_with fail
      refine (hA _ s1).mono ?_; rintro e w1' ⟨rfl, rfl⟩
      go_wp2_with fail
      refine (hB _ (s3.mono (by omega))).mono ?_; rintro e w2 ⟨rfl, b2⟩
      obtain ⟨kk0, kk1, gg0, gg1⟩ := r1.below zW b2
      have HB := below_sets (b1.trans (b2.mono b1.size)) (Nat.le_refl _) (.int .i64 v) (.slice none 0 0)
      clear s1 s3 h1 h3 hA hB r1 b1 b2 hW1
      go_wp2
      refine bodyPost_ret (v := .agg #[.int .i64 v, .slice none 0 0]) (by simp [results, Try.results11, go_sem, kk0, kk1]) rfl ?_
      rw [HR.out, HL.out, HV.out]
      exact ⟨_, rfl, ⟨rfl, .inl ⟨rfl, rfl⟩⟩, HB⟩
  · have hA := fun w h => implLinesFault a1 c1 xs w h n1
    have HR : Hid (apR xs l = lf xs) := by show _ = _; unfold apR; rw [if_neg hx]
    have HL : Hid (apL xs l = []) := by show _ = _; unfold apL; rw [if_neg (fun h => hx h.1)]
    have hb := ne_beq hx
    obtain ⟨v, hv⟩ : ∃ v, lf xs = v := ⟨_, rfl⟩
    have HV : Hid (lf xs = v) := hv
    rw [hv] at hA hb
    obtain ⟨W1, hW1⟩ : ∃ W1, w.alloc (.cells #[.int .i64 0, .slice none 0 0] 29) = W1 := ⟨_, rfl⟩
    have b1 : Below w.heap.size w W1 := by rw [← hW1]; exact allocBelow _ _
    have r1 : Res2 W1 w.heap.size (.int .i64 0) (.slice none 0 0) := by rw [← hW1]; exact Res2.new _ _ _ _
    have s1 := h1.below b1
    clear hx hv
    go_enter Try.func11, Try.ntmps11
    go_wp2_with fail
    refine (hA _ s1).mono ?_; rintro e w1' ⟨rfl, rfl⟩
    obtain ⟨kk0, kk1, gg0, gg1⟩ := r1
    have HB := below_sets b1 (Nat.le_refl _) (.int .i64 v) (.slice none 0 0)
    clear s1 h1 h3 hA b1 hW1
    go_wp2
    refine bodyPost_ret (v := .agg #[.int .i64 v, .slice none 0 0]) (by simp [results, Try.results11, go_sem, kk0, kk1]) rfl ?_
    rw [HR.out, HL.out, HV.out]
    exact ⟨_, rfl, ⟨rfl, .inl ⟨rfl, rfl⟩⟩, HB⟩

set_option maxRecDepth 20000 in
set_option maxHeartbeats 4000000 in
theorem specApplyHunks (a1 a3 : Option Addr) (ha1 : ∃ g, a1 = some ⟨g, 0, none⟩) (c1 c3 : Nat) (xs : List ByteArray) (l : List Hk) (w : World) (h1 : SS w a1 xs) (h3 : HB w.heap.size w a3 l) (k1 : xs.length ≤ c1) (n1 : xs.length ≤ 1048576) (n3 : l.length ≤ 1048576) (hs : Shortly l)
    (hT : tot xs + totK l l.length ≤ 1048576) :
    Calls Try.prog 12 #[.slice a1 xs.length c1, .slice a3 l.length c3] w fun e w' => LP (apR xs l) (apL xs l) w e w' := by
  by_cases hx : lf xs = 0
  · by_cases h0 : Go.Proofs.Ytepbkaidlffaiab.hf l = 0
    · exact specApply a1 a3 ha1 c1 c3 xs l w h1 h3 k1 n1 n3 hs hT hx h0
    · have hA := fun w h => specLinesFault a1 c1 xs w h n1 (by have := totK_pos l l.length; omega)
      have hB := fun w h => specHunksFault a3 c3 l w h n3 hs
      have HR : Hid (apR xs l = Go.Proofs.Ytepbkaidlffaiab.hf l) := by show _ = _; unfold apR; rw [if_pos hx, if_neg h0]
      have HL : Hid (apL xs l = []) := by show _ = _; unfold apL; rw [if_neg (fun h => h0 h.2.1)]
      rw [hx] at hA
      have hb := ne_beq h0
      obtain ⟨v, hv⟩ : ∃ v, Go.Proofs.Ytepbkaidlffaiab.hf l = v := ⟨_, rfl⟩
      have HV : Hid (Go.Proofs.Ytepbkaidlffaiab.hf l = v) := hv
      rw [hv] at hB hb
      obtain ⟨W1, hW1⟩ : ∃ W1, w.alloc (.cells #[.int .i64 0, .slice none 0 0] 29) = W1 := ⟨_, rfl⟩
      have b1 : Below w.heap.size w W1 := by rw [← hW1]; exact allocBelow _ _
      have zW : w.heap.size < W1.heap.size := by rw [← hW1]; simp
      have r1 : Res2 W1 w.heap.size (.int .i64 0) (.slice none 0 0) := by rw [← hW1]; exact Res2.new _ _ _ _
      have s1 := h1.below b1
      have s3 := h3.below b1
      clear hx h0 hv
      go_enter Try.func12, Try.ntmps12
      go_wp2_with fail
      refine (hA _ s1).mono ?_; rintro e w1' ⟨rfl, rfl⟩
      go_wp2_with fail
      refine (hB _ (s3.mono (by omega))).mono ?_; rintro e w2 ⟨rfl, b2⟩
      obtain ⟨kk0, kk1, gg0, gg1⟩ := r1.below zW b2
      have HB := below_sets (b1.trans (b2.mono b1.size)) (Nat.le_refl _) (.int .i64 v) (.slice none 0 0)
      clear s1 s3 h1 h3 hA hB r1 b1 b2 hW1
      go_wp2
      refine bodyPost_ret (v := .agg #[.int .i64 v, .slice none 0 0]) (by simp [results, Try.results12, go_sem, kk0, kk1]) rfl ?_
      rw [HR.out, HL.out, HV.out]
      exact ⟨_, rfl, ⟨rfl, .inl ⟨rfl, rfl⟩⟩, HB⟩
  · have hA := fun w h => specLinesFault a1 c1 xs w h n1 (by have := totK_pos l l.length; omega)
    have HR : Hid (apR xs l = lf xs) := by show _ = _; unfold apR; rw [if_neg hx]
    have HL : Hid (apL xs l = []) := by show _ = _; unfold apL; rw [if_neg (fun h => hx h.1)]
    have hb := ne_beq hx
    obtain ⟨v, hv⟩ : ∃ v, lf xs = v := ⟨_, rfl⟩
    have HV : Hid (lf xs = v) := hv
    rw [hv] at hA hb
    obtain ⟨W1, hW1⟩ : ∃ W1, w.alloc (.cells #[.int .i64 0, .slice none 0 0] 29) = W1 := ⟨_, rfl⟩
    have b1 : Below w.heap.size w W1 := by rw [← hW1]; exact allocBelow _ _
    have r1 : Res2 W1 w.heap.size (.int .i64 0) (.slice none 0 0) := by rw [← hW1]; exact Res2.new _ _ _ _
    have s1 := h1.below b1
    clear hx hv
    go_enter Try.func12, Try.ntmps12
    go_wp2_with fail
    refine (hA _ s1).mono ?_; rintro e w1' ⟨rfl, rfl⟩
    obtain ⟨kk0, kk1, gg0, gg1⟩ := r1
    have HB := below_sets b1 (Nat.le_refl _) (.int .i64 v) (.slice none 0 0)
    clear s1 h1 h3 hA b1 hW1
    go_wp2
    refine bodyPost_ret (v := .agg #[.int .i64 v, .slice none 0 0]) (by simp [results, Try.results12, go_sem, kk0, kk1]) rfl ?_
    rw [HR.out, HL.out, HV.out]
    exact ⟨_, rfl, ⟨rfl, .inl ⟨rfl, rfl⟩⟩, HB⟩
end Go.Proofs.Ytepbkaidlffaiab
