/- The contracts of find and cloneObject. No statement is proved here. -/
import Derived.Test.YtepbkaidlffaiabRows
import Derived.Test.YtepbkaidlffaiabLemQ
import Derived.Test.YtepbkaidlffaiabStrsQ
import Derived.Test.YtepbkaidlffaiabDTabQ
import Derived.Test.YtepbkaidlffaiabOwnQ
import Derived.Test.YtepbkaidlffaiabFrQ
import Derived.Test.YtepbkaidlffaiabInQ
import Derived.Test.YtepbkaidlffaiabHkTQ
import Derived.Test.YtepbkaidlffaiabWvCQ
import Derived.Test.YtepbkaidlffaiabIdLQ
import Derived.Test.YtepbkaidlffaiabIdCQ
import Derived.Test.YtepbkaidlffaiabIdMQ
import Derived.Test.YtepbkaidlffaiabObLQ
import Derived.Test.YtepbkaidlffaiabSfCQ
import Derived.Test.YtepbkaidlffaiabGtSQ
import Derived.Test.YtepbkaidlffaiabShMQ
import Derived.Test.YtepbkaidlffaiabShIQ
import Derived.Test.YtepbkaidlffaiabShPQ
import Derived.Test.YtepbkaidlffaiabShQQ
import Derived.WalkKit
import Derived.ProofKit
import Derived.Below
import Derived.WalkSpells
import Derived.Laws.Cover1
import Derived.Deep.RegionWith
import Derived.Deep.RegionHeld
import Derived.Deep.CutRange
namespace Go.Proofs.Ytepbkaidlffaiab
open Go.ChangeShapes Go.WideShapes Go.ChangeAt Go.RowKit

theorem hexN_is (n : Nat) (h : n < 16) : isHex (hexN n) = true := by
  have key : ∀ m : Fin 16, isHex (hexN m.val) = true := by decide +kernel
  exact key ⟨n, h⟩
theorem letN_is (k : Int) : isLet (letN k) = true := by
  unfold letN
  split
  · decide
  · split <;> decide
theorem idB_idN (k : Int) (s : ByteArray) : idB (idN k s).data.toList = true := by
  unfold idN
  simp only [hexs, idB, letN_is, Bool.true_and]
  simp [hexN_is _ (Nat.mod_lt _ (by decide : 16 > 0))]
theorem sf_id {l : List Ob} (h : sf l = 0) (k : Nat) (hk : k < l.length) : idB (l.getD k onil).1.data.toList = true := by
  have h0 := (sf_zero h).2 k hk
  unfold obF at h0
  split at h0
  · rename_i e
    split at h0
    · rename_i e2
      rw [← e2]
      unfold idK at e
      unfold idT
      split at e
      · rename_i e3
        rw [if_pos e3, if_pos e]
        exact idB_idN _ _
      · omega
    · omega
  · rename_i e; exact absurd h0 e
theorem fz_out {l : List Ob} {id : ByteArray} (h : fz l id = -1) : ∀ o ∈ l, o.1 ≠ id := by
  intro o ho e
  have : fnd l id < l.length := List.findIdx_lt_length_of_exists ⟨o, ho, by simp [e]⟩
  unfold fz at h
  rw [if_pos this] at h
  omega
theorem idB_size {id : ByteArray} (h : idB id.data.toList = true) : id.size = 5 := by
  by_cases e : id.data.toList.length = 5
  · simpa using e
  · rw [idB_len e] at h; cases h
theorem gt_noid {l : List Ob} {k : Int} {id : ByteArray} (hf : sf l = 0) (h : idB id.data.toList = false) : gt l k id = none := by
  rcases fz_cases l id with e | ⟨j, e, hj, e2⟩
  · exact gt_less e
  · have := sf_id hf j hj
    rw [e2, h] at this; cases this

set_option maxRecDepth 20000 in
set_option maxHeartbeats 1000000 in
theorem cloneObjectC (x0 x2 : ByteArray) (x1 : Int) (w : World) (h0 : x0.size ≤ 1048576) (h2 : x2.size ≤ 1048576) :
    Calls Try.prog 83 #[.agg #[.string x0, .int .i64 x1, .string x2]] w fun e w' => e = .returned (.agg #[.string x0, .int .i64 x1, .string x2]) ∧ Below w.heap.size w w' := by
  obtain ⟨WA, hWA⟩ : ∃ W, w.alloc (.cells #[.string x0, .int .i64 x1, .string x2] 63) = W := ⟨_, rfl⟩
  have bA : Below w.heap.size w WA := by rw [← hWA]; exact allocBelow _ _
  have zA : WA.heap.size = w.heap.size + 1 := by rw [← hWA]; simp
  have rA : Rf WA w.heap.size [.string x0, .int .i64 x1, .string x2] := by rw [← hWA]; exact Rf.new _ _ _
  obtain ⟨W0, hW0⟩ : ∃ W, WA.alloc (.cells #[.string ⟨#[]⟩, .int .i64 0, .string ⟨#[]⟩] 63) = W := ⟨_, rfl⟩
  have b0 : Below WA.heap.size WA W0 := by rw [← hW0]; exact allocBelow _ _
  have z0 : W0.heap.size = w.heap.size + 1 + 1 := by rw [← hW0]; simp [zA]
  have R0 : Rf W0 (w.heap.size + 1) [.string ⟨#[]⟩, .int .i64 0, .string ⟨#[]⟩] := by rw [← hW0, ← zA]; exact Rf.new _ _ _
  have r0 := rA.below (by omega) b0
  have B0 : Below w.heap.size w W0 := bA.trans (b0.mono (by omega))
  have hc0 := fun w => cloneS x0 w (by omega)
  have hc2 := fun w => cloneS x2 w (by omega)
  have c0 := r0.at_ 0 _ rfl
  have c1 := r0.at_ 1 _ rfl
  have c2 := r0.at_ 2 _ rfl
  clear rA bA b0
  go_enter Try.func83, Try.ntmps83
  go_wp2
  go_region_held (fun w' => w'.cell? ⟨w.heap.size, 0, none⟩ = some (.string x0) ∧ w'.cell? ⟨w.heap.size, 2, none⟩ = some (.string x2)) (first | with_reducible exact ⟨u0, u2⟩ | with_reducible exact ⟨v0, v2⟩ | with_reducible exact ⟨t0, t2⟩ | with_reducible exact ⟨s0, s2⟩ | exact ⟨c0, c2⟩)
    (first
      | (go_at_call 86; have gd := r1; clear gd; refine (hc2 _).mono ?_; rintro e w2 ⟨rfl, b2⟩; have r2 := Rf.below r1 (by omega) b2; have t0 := r2.at_ 0 _ rfl; have t1 := r2.at_ 1 _ rfl; have t2 := r2.at_ 2 _ rfl; have g0 := r2.fz 0; have g2 := r2.fz 2; have r3 := Rf.set r2 (o := 0) (by simp) (.string x0); have v0 := r3.at_ 0 _ rfl; have v2 := r3.at_ 2 _ rfl; have r4 := Rf.set r3 (o := 2) (by simp) (.string x2); have u0 := r4.at_ 0 _ rfl; have u1 := r4.at_ 1 _ rfl; have u2 := r4.at_ 2 _ rfl)
      | (go_at_call 86; refine (hc0 _).mono ?_; rintro e w1 ⟨rfl, b1⟩; have y1 : W0.heap.size ≤ w1.heap.size := b1.size; have r1 := Rf.below (Rf.drewM r0) (by show w.heap.size < W0.heap.size; omega) b1; have s0 := r1.at_ 0 _ rfl; have s1 := r1.at_ 1 _ rfl; have s2 := r1.at_ 2 _ rfl))
  obtain ⟨W5, hW5⟩ : ∃ W, (w2.setCell ⟨w.heap.size, 0, none⟩ (.string x0)).setCell ⟨w.heap.size, 2, none⟩ (.string x2) = W := ⟨_, rfl⟩
  have R1 := Rf.below (Rf.drewM R0) (by show w.heap.size + 1 < W0.heap.size; omega) b1
  have R2 := Rf.below R1 (by omega) b2
  have R4 := Rf.other (o := 2) (Rf.other (o := 0) R2 (show w.heap.size + 1 ≠ w.heap.size by omega) (.string x0)) (show w.heap.size + 1 ≠ w.heap.size by omega) (.string x2)
  have B1 : Below w.heap.size w w1 := B0.drew.trans (b1.mono (by show w.heap.size ≤ W0.heap.size; omega))
  have B2 : Below w.heap.size w w2 := B1.trans (b2.mono (by omega))
  have B4 := (B2.setCell (p := ⟨w.heap.size, 0, none⟩) (Nat.le_refl _) (.string x0)).setCell (p := ⟨w.heap.size, 2, none⟩) (Nat.le_refl _) (.string x2)
  rw [hW5] at u0 u1 u2 R4 B4 ⊢
  have HB := fun v0 v1 v2 => below3 B4 (show w.heap.size ≤ w.heap.size + 1 by omega) v0 v1 v2
  have d0 := R4.at_ 0 _ rfl
  have d1 := R4.at_ 1 _ rfl
  have d2 := R4.at_ 2 _ rfl
  have f0 := R4.fz 0
  have f1 := R4.fz 1
  have f2 := R4.fz 2
  have HB' : Hid (Below w.heap.size w (set3 W5 (w.heap.size + 1) (.string x0) (.int .i64 x1) (.string x2))) := HB _ _ _
  clear R1 R2 R4 B1 B2 B4 HB hW5 r1 r2 r3 r4 b1 b2 R0 r0 B0 hc0 hc2 s0 s1 s2 t0 t1 t2 v0 v2 c0 c1 c2 hW0 hWA
  go_wp2
  refine bodyPost_ret (v := .agg #[.string x0, .int .i64 x1, .string x2]) (by simp [results, Try.results83, go_sem, d0, d1, d2]) rfl ?_
  exact ⟨rfl, HB'.out⟩
end Go.Proofs.Ytepbkaidlffaiab
