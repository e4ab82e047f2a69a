/- The contracts of the laws' helpers over chunks (szChunk, toChunk, eqChunk and their lists). No statement is proved here. -/
import Derived.Test.YtmmccpdaklkciaaGreatDoorRows
import Derived.Test.YtmmccpdaklkciaaGreatDoorLemQ
import Derived.Test.YtmmccpdaklkciaaGreatDoorLFLemQ
import Derived.Test.YtmmccpdaklkciaaGreatDoorDTabQ
import Derived.Test.YtmmccpdaklkciaaGreatDoorHkTQ
import Derived.Test.YtmmccpdaklkciaaGreatDoorCkLQ
import Derived.WalkKit
import Derived.ProofKit
import Derived.Below
import Derived.WalkSpells
import Derived.Deep.QuietTactic
import Derived.BigQuiet
import Derived.Deep.RegionWith
import Derived.Maps.AppendAt
import Derived.Deep.Strs
import Derived.SliceStrings
import Derived.Lib.SmallJoins
namespace Go.Proofs.YtmmccpdaklkciaaGreatDoor
open Go.ChangeShapes Go.WideShapes Go.ChangeAt Go.RowKit

theorem left_neg {l : Int} {ss : List ByteArray} (h : left l ss < 0) : left l ss = -1 := by unfold left at h ⊢; split at h <;> simp_all

theorem Fr.ofSet (w : World) (b o : Nat) (v : Value) : Fr b (b + 1) w (w.setCell ⟨b, o, none⟩ v) := Fr.ofGrown (grownSet w b o v) (fun j hj => by cases hj; omega)
/-- A new chunk, each list in memory of its own. -/
def CP (x0 : Int) (x1 x2 x3 : List ByteArray) (w : World) (e : Ending) (w' : World) : Prop := ∃ g1 g2 g3, w.heap.size < g1 ∧ g1 < g2 ∧ g2 < g3 ∧ e = .returned (.agg #[.int .i64 x0, .slice (some ⟨g1, 0, none⟩) x1.length x1.length, .slice (some ⟨g2, 0, none⟩) x2.length x2.length, .slice (some ⟨g3, 0, none⟩) x3.length x3.length]) ∧
  w'.ownsRow w.heap.size 9 1 (.slice (some ⟨g1, 0, none⟩) x1.length x1.length) x1.length (x1.map Value.string) ∧ w'.ownsRow w.heap.size 9 1 (.slice (some ⟨g2, 0, none⟩) x2.length x2.length) x2.length (x2.map Value.string) ∧
  w'.ownsRow w.heap.size 9 1 (.slice (some ⟨g3, 0, none⟩) x3.length x3.length) x3.length (x3.map Value.string) ∧ Below w.heap.size w w'
theorem blkOf {g n c j : Nat} (h : (Value.slice (some ⟨g, 0, none⟩) n c).ownBlock = some j) : g = j := by simpa [Value.ownBlock] using h

end Go.Proofs.YtmmccpdaklkciaaGreatDoor
/- The contracts of the laws' helpers over lists of chunks (szChunkS, toChunkS, eqChunkS). No statement is proved here. -/
namespace Go.Proofs.YtmmccpdaklkciaaGreatDoor
open Go.ChangeShapes Go.WideShapes Go.ChangeAt Go.RowKit

/-- The lists of the first k chunks, each in memory of its own, above block B. -/
structure KP (B : Nat) (w : World) (l : List Ck) (sl : Nat → Value) (k : Nat) : Prop where
  each : ∀ j, j < k * 3 → w.ownsRow B 9 1 (sl j) (lns l j).length ((lns l j).map Value.string)
  apart : ∀ i j, i < j → j < k * 3 → ∀ b, (sl i).ownBlock = some b → (sl j).ownBlock = some b → False
  bd : ∀ j, j < k * 3 → ∀ b, (sl j).ownBlock = some b → B < b ∧ b < w.heap.size
theorem KP.zero (B : Nat) (w : World) (l : List Ck) (sl : Nat → Value) : KP B w l sl 0 := ⟨fun _ h => absurd h (by omega), fun _ _ _ h => absurd h (by omega), fun _ h => absurd h (by omega)⟩
theorem KP.fr {lo hi B k : Nat} {w w' : World} {l : List Ck} {sl : Nat → Value} (h : KP B w l sl k) (hF : Fr lo hi w w') (hh : hi ≤ B + 1) : KP B w' l sl k :=
  ⟨fun j hj => hF.own (h.each j hj) (fun b hb => by have := h.bd j hj b hb; omega), h.apart, fun j hj b hb => by have := h.bd j hj b hb; have := hF.size; omega⟩
theorem threeK {i k : Nat} (h : i < (k + 1) * 3) : i < k * 3 ∨ i = k * 3 ∨ i = k * 3 + 1 ∨ i = k * 3 + 2 := by omega
theorem KP.add {B k M : Nat} {w : World} {l : List Ck} {sl : Nat → Value} {v1 v2 v3 : Value} (h : KP B w l sl k) (hM : ∀ j, j < k * 3 → ∀ b, (sl j).ownBlock = some b → b < M) (hB : B < M)
    (o1 : w.ownsRow B 9 1 v1 (lns l (k * 3)).length ((lns l (k * 3)).map Value.string)) (o2 : w.ownsRow B 9 1 v2 (lns l (k * 3 + 1)).length ((lns l (k * 3 + 1)).map Value.string)) (o3 : w.ownsRow B 9 1 v3 (lns l (k * 3 + 2)).length ((lns l (k * 3 + 2)).map Value.string))
    (a1 : ∀ b, v1.ownBlock = some b → M ≤ b) (a2 : ∀ b, v2.ownBlock = some b → M ≤ b) (a3 : ∀ b, v3.ownBlock = some b → M ≤ b)
    (d12 : ∀ b, v1.ownBlock = some b → v2.ownBlock = some b → False) (d13 : ∀ b, v1.ownBlock = some b → v3.ownBlock = some b → False) (d23 : ∀ b, v2.ownBlock = some b → v3.ownBlock = some b → False) : KP B w l (sl3 sl k v1 v2 v3) (k + 1) := by
  refine ⟨fun j hj => ?_, fun i j hij hj b hb hb' => ?_, fun j hj b hb => ?_⟩
  · rcases threeK hj with h' | rfl | rfl | rfl
    · rw [sl3_old _ _ _ _ _ _ h']; exact h.each j h'
    · rw [sl3_0]; exact o1
    · rw [sl3_1]; exact o2
    · rw [sl3_2]; exact o3
  · rcases threeK (show i < (k + 1) * 3 by omega) with hi | rfl | rfl | rfl
    · rw [sl3_old _ _ _ _ _ _ hi] at hb
      rcases threeK hj with h' | rfl | rfl | rfl
      · rw [sl3_old _ _ _ _ _ _ h'] at hb'; exact h.apart i j hij h' b hb hb'
      · rw [sl3_0] at hb'; have := hM i hi b hb; have := a1 b hb'; omega
      · rw [sl3_1] at hb'; have := hM i hi b hb; have := a2 b hb'; omega
      · rw [sl3_2] at hb'; have := hM i hi b hb; have := a3 b hb'; omega
    · rw [sl3_0] at hb
      rcases threeK hj with h' | h' | rfl | rfl
      · omega
      · omega
      · rw [sl3_1] at hb'; exact d12 b hb hb'
      · rw [sl3_2] at hb'; exact d13 b hb hb'
    · rw [sl3_1] at hb
      rcases threeK hj with h' | h' | h' | rfl
      · omega
      · omega
      · omega
      · rw [sl3_2] at hb'; exact d23 b hb hb'
    · omega
  · rcases threeK hj with h' | rfl | rfl | rfl
    · rw [sl3_old _ _ _ _ _ _ h'] at hb; exact h.bd j h' b hb
    · rw [sl3_0] at hb; have := a1 b hb; have := (o1.lt b hb).2; omega
    · rw [sl3_1] at hb; have := a2 b hb; have := (o2.lt b hb).2; omega
    · rw [sl3_2] at hb; have := a3 b hb; have := (o3.lt b hb).2; omega
theorem fourSets (w : World) (b o : Nat) (v0 v1 v2 v3 : Value) : Fr b (b + 1) w ((((w.setCell ⟨b, o, none⟩ v0).setCell ⟨b, o + 1, none⟩ v1).setCell ⟨b, o + 2, none⟩ v2).setCell ⟨b, o + 3, none⟩ v3) := by
  have G : ∀ (u : World) (o : Nat) (v : Value), Fr b (b + 1) u (u.setCell ⟨b, o, none⟩ v) := fun u o v => Fr.ofGrown (grownSet u b o v) (fun j hj => by cases hj; omega)
  exact (((G _ _ _).trans (G _ _ _)).trans (G _ _ _)).trans (G _ _ _)

end Go.Proofs.YtmmccpdaklkciaaGreatDoor
/- An argument that is a chunk, or a list of chunks, opened. No statement is proved here. -/
namespace Go.Proofs.YtmmccpdaklkciaaGreatDoor
open Go.ChangeShapes Go.WideShapes Go.ChangeAt Go.RowKit

theorem oneAt {cs : List Value} {k : Nat} {v : Value} (h : (cs.drop k).take 1 = [v]) : cs[k]? = some v := by
  have := congrArg (fun l => l[0]?) h
  simpa [List.getElem?_take, List.getElem?_drop] using this
theorem openSlN {H : Type} {enc : TypeId × Value → H} {W : World} {m : Nat} {cs : List Value} {y : DataW H × List MemPlace}
    (t : DataW.trod enc Tryz.prog W 0 (fun _ => true) true m 100 cs = some y) (hlt : ∀ x ∈ y.2, x.block < W.heap.size) :
    ∃ a cap ss, cs = [.slice a ss.length cap] ∧ SSN W.heap.size W a cap ss ∧ ss.length ≤ 9223372036854775807 := by
  obtain ⟨a, len, cap, e2, hnil⟩ : ∃ a len cap, cs = [.slice a len cap] ∧ (a = none → cap = 0) := by
    rcases open_strings Tryz.underlying100 Tryz.underlying9 (by kernel_rfl) t with ⟨hcs, _⟩ | ⟨x, l, c, ss, hcs, _⟩
    · exact ⟨_, _, _, hcs, fun _ => rfl⟩
    · exact ⟨_, _, _, hcs, fun h => by cases h⟩
  obtain ⟨ss, rfl, hS, hn⟩ := openSS (enc := enc) (W := W) (a := a) (len := len) (cap := cap) (d := y.1) (p := y.2) ⟨m, by
    show DataW.trod enc Tryz.prog W 0 (fun _ => true) true m 100 [.slice a len cap] = some y
    rw [← e2]; exact t⟩ hlt
  exact ⟨a, cap, ss, e2, ⟨hS.toB, hnil⟩, hn⟩
theorem mem_of_lns {l : List Ck} {ss : List ByteArray} (h : ss ∈ lnsAll l) : ∃ c ∈ l, ss = c.2.1 ∨ ss = c.2.2.1 ∨ ss = c.2.2.2 := by
  unfold lnsAll at h
  obtain ⟨c, hc, hs⟩ := List.mem_flatMap.1 h
  exact ⟨c, hc, by simpa using hs⟩
end Go.Proofs.YtmmccpdaklkciaaGreatDoor
