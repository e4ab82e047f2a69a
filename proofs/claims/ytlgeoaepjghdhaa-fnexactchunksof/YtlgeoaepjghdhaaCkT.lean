/- The contracts of the laws' helpers over chunks (szChunk, toChunk, eqChunk and their lists). No statement is proved here. -/
import Derived.Test.YtlgeoaepjghdhaaRows
import Derived.Test.YtlgeoaepjghdhaaLem
import Derived.Test.YtlgeoaepjghdhaaStrs
import Derived.Test.YtlgeoaepjghdhaaLFLem
import Derived.Test.YtlgeoaepjghdhaaDTab
import Derived.Test.YtlgeoaepjghdhaaOwn
import Derived.Test.YtlgeoaepjghdhaaFr
import Derived.Test.YtlgeoaepjghdhaaIn
import Derived.Test.YtlgeoaepjghdhaaHkT
import Derived.Test.YtlgeoaepjghdhaaCkL
import Derived.Test.YtlgeoaepjghdhaaCkN
import Derived.WalkKit
import Derived.ProofKit
import Derived.Below
import Derived.WalkSpells
import Derived.Deep.QuietTactic
import Derived.BigQuiet
import Derived.Deep.RegionWith
import Derived.Maps.AppendAt
namespace Go.Proofs.Ytlgeoaepjghdhaa
open Go.ChangeShapes Go.WideShapes Go.ChangeAt Go.RowKit

theorem left_neg {l : Int} {ss : List ByteArray} (h : left l ss < 0) : left l ss = -1 := by unfold left at h ⊢; split at h <;> simp_all

set_option maxHeartbeats 1000000 in
theorem eqChunk (x0 : Int) (a1 a2 a3 b1 b2 b3 : Option Addr) (c1 c2 c3 k1 k2 k3 : Nat) (x1 x2 x3 : List ByteArray) (w : World) (h1 : SS w a1 x1) (h2 : SS w a2 x2) (h3 : SS w a3 x3) (g1 : SS w b1 x1) (g2 : SS w b2 x2) (g3 : SS w b3 x3) (n1 : x1.length ≤ 1048576) (n2 : x2.length ≤ 1048576) (n3 : x3.length ≤ 1048576) :
    Calls Try.prog 80 #[.agg #[.int .i64 x0, .slice a1 x1.length c1, .slice a2 x2.length c2, .slice a3 x3.length c3], .agg #[.int .i64 x0, .slice b1 x1.length k1, .slice b2 x2.length k2, .slice b3 x3.length k3]] w fun e w' => e = .returned (.bool true) ∧ Below w.heap.size w w' := by
  obtain ⟨W, hW⟩ : ∃ W, (w.alloc (.cells #[.int .i64 x0, .slice a1 x1.length c1, .slice a2 x2.length c2, .slice a3 x3.length c3] 123)).alloc (.cells #[.int .i64 x0, .slice b1 x1.length k1, .slice b2 x2.length k2, .slice b3 x3.length k3] 123) = W := ⟨_, rfl⟩
  have bW : Below w.heap.size w W := by rw [← hW]; exact ((Below.refl _ _).alloc (Nat.le_refl _) _).alloc (by simp) _
  have hR : Rs W w.heap.size [.int .i64 x0, .slice a1 x1.length c1, .slice a2 x2.length c2, .slice a3 x3.length c3] := by
    rw [← hW]; exact (Fr.ofAlloc (lo := 0) (hi := 0) _ _).rs (Rs.new _ _ _) (.inr (Nat.zero_le _))
  have hR' : Rs W (w.heap.size + 1) [.int .i64 x0, .slice b1 x1.length k1, .slice b2 x2.length k2, .slice b3 x3.length k3] := by
    rw [← hW]; simpa using Rs.new (w.alloc (.cells #[.int .i64 x0, .slice a1 x1.length c1, .slice a2 x2.length c2, .slice a3 x3.length c3] 123)) #[.int .i64 x0, .slice b1 x1.length k1, .slice b2 x2.length k2, .slice b3 x3.length k3] 123
  have q0 : (x0 != x0) = false := by simp
  have r0 := hR 0 _ rfl
  have r1 := hR 1 _ rfl
  have r2 := hR 2 _ rfl
  have r3 := hR 3 _ rfl
  have s0 := hR' 0 _ rfl
  have s1 := hR' 1 _ rfl
  have s2 := hR' 2 _ rfl
  have s3 := hR' 3 _ rfl
  replace h1 := h1.below bW
  replace h2 := h2.below bW
  replace h3 := h3.below bW
  replace g1 := g1.below bW
  replace g2 := g2.below bW
  replace g3 := g3.below bW
  clear hR hR'
  go_enter Try.func80, Try.ntmps80
  go_wp2_with fail
  refine (eqStringS _ _ _ _ _ _ _ h1 g1 n1 n1).mono ?_; rintro e w1 ⟨rfl, m1, rfl⟩
  rw [eqB_self]
  go_wp2_with fail
  refine (eqStringS _ _ _ _ _ _ _ (h2.drewN _) (g2.drewN _) n2 n2).mono ?_; rintro e w1 ⟨rfl, m2, rfl⟩
  rw [eqB_self]
  go_wp2_with fail
  refine (eqStringS _ _ _ _ _ _ _ (h3.drewN _) (g3.drewN _) n3 n3).mono ?_; rintro e w1 ⟨rfl, m3, rfl⟩
  rw [eqB_self]
  go_wp2_with fail
  go_ret
  exact ⟨rfl, below_drewN' bW _⟩

theorem Fr.ofSet (w : World) (b o : Nat) (v : Value) : Fr b (b + 1) w (w.setCell ⟨b, o, none⟩ v) := Fr.ofGrown (grownSet w b o v) (fun j hj => by cases hj; omega)
/-- A new chunk, each list in memory of its own. -/
def CP (x0 : Int) (x1 x2 x3 : List ByteArray) (w : World) (e : Ending) (w' : World) : Prop := ∃ g1 g2 g3, w.heap.size < g1 ∧ g1 < g2 ∧ g2 < g3 ∧ e = .returned (.agg #[.int .i64 x0, .slice (some ⟨g1, 0, none⟩) x1.length x1.length, .slice (some ⟨g2, 0, none⟩) x2.length x2.length, .slice (some ⟨g3, 0, none⟩) x3.length x3.length]) ∧
  w'.ownsRow w.heap.size 9 1 (.slice (some ⟨g1, 0, none⟩) x1.length x1.length) x1.length (x1.map Value.string) ∧ w'.ownsRow w.heap.size 9 1 (.slice (some ⟨g2, 0, none⟩) x2.length x2.length) x2.length (x2.map Value.string) ∧
  w'.ownsRow w.heap.size 9 1 (.slice (some ⟨g3, 0, none⟩) x3.length x3.length) x3.length (x3.map Value.string) ∧ Below w.heap.size w w'
theorem blkOf {g n c j : Nat} (h : (Value.slice (some ⟨g, 0, none⟩) n c).ownBlock = some j) : g = j := by simpa [Value.ownBlock] using h

end Go.Proofs.Ytlgeoaepjghdhaa
