/- The contracts of LinesFault (the program's and the specification's) and of what they call. No statement is proved here. -/
import Derived.Test.YtibdlfojoafloaaRows
import Derived.Test.YtibdlfojoafloaaLem
import Derived.Test.YtibdlfojoafloaaStrs
import Derived.Test.YtibdlfojoafloaaIdxB
import Derived.Test.YtibdlfojoafloaaLFLem
import Derived.WalkKit
import Derived.ProofKit
import Derived.Below
import Derived.WalkSpells
namespace Go.Proofs.Ytibdlfojoafloaa
open Go.ChangeShapes Go.WideShapes Go.ChangeAt Go.RowKit

theorem ten_snoc (l : List UInt8) (c : UInt8) (h : ¬ (10 : UInt8) ∈ l) (hc : ¬ (c.toNat : Int) = 10) : ¬ (10 : UInt8) ∈ l ++ [c] := by
  have : ¬ c = 10 := by intro h; apply hc; rw [h]; rfl
  simp only [List.mem_append, List.mem_singleton, not_or]
  exact ⟨h, fun e => this e.symm⟩

theorem empty_iff (s : ByteArray) : s.toList.isEmpty = decide (s.data.toList = []) := by
  rw [ByteArray.toList_eq]
  cases s.data.toList <;> simp

def manyB (ss : List ByteArray) : Bool := decide (100 < (ss.length : Int) ∨ 2000 < tot ss)

theorem okAt_eq (ss : List ByteArray) (k : Nat) (s : ByteArray) (b : Bool) (hs : s = ss.getD k ByteArray.empty) (hb : ((k : Int) == (ss.length : Int) - 1) = b) : okAt ss k = okLine s.data.toList b := by
  unfold okAt
  rw [← hs, ← hb]
  rfl

end Go.Proofs.Ytibdlfojoafloaa
