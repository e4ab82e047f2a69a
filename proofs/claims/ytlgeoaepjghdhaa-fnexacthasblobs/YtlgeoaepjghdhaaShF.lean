/- The contracts of find and cloneObject. No statement is proved here. -/
import Derived.Test.YtlgeoaepjghdhaaRows
import Derived.Test.YtlgeoaepjghdhaaLem
import Derived.Test.YtlgeoaepjghdhaaStrs
import Derived.Test.YtlgeoaepjghdhaaDTab
import Derived.Test.YtlgeoaepjghdhaaOwn
import Derived.Test.YtlgeoaepjghdhaaFr
import Derived.Test.YtlgeoaepjghdhaaIn
import Derived.Test.YtlgeoaepjghdhaaHkT
import Derived.Test.YtlgeoaepjghdhaaWvC
import Derived.Test.YtlgeoaepjghdhaaIdL
import Derived.Test.YtlgeoaepjghdhaaIdC
import Derived.Test.YtlgeoaepjghdhaaIdM
import Derived.Test.YtlgeoaepjghdhaaObL
import Derived.Test.YtlgeoaepjghdhaaSfC
import Derived.Test.YtlgeoaepjghdhaaGtS
import Derived.Test.YtlgeoaepjghdhaaShM
import Derived.Test.YtlgeoaepjghdhaaShI
import Derived.Test.YtlgeoaepjghdhaaShP
import Derived.Test.YtlgeoaepjghdhaaShQ
import Derived.WalkKit
import Derived.ProofKit
import Derived.Below
import Derived.WalkSpells
import Derived.Laws.Cover1
import Derived.Deep.RegionWith
import Derived.Deep.RegionHeld
import Derived.Deep.CutRange
namespace Go.Proofs.Ytlgeoaepjghdhaa
open Go.ChangeShapes Go.WideShapes Go.ChangeAt Go.RowKit

theorem hexN_is (n : Nat) (h : n < 16) : isHex (hexN n) = true := by
  have key : ∀ m : Fin 16, isHex (hexN m.val) = true := by decide +kernel
  exact key ⟨n, h⟩
theorem letN_is (k : Int) : isLet (letN k) = true := by
  unfold letN
  split
  · decide
  · split <;> decide
theorem idB_idN (k : Int) (s : ByteArray) : idB (idN k s).data.toList = true := by
  unfold idN
  simp only [hexs, idB, letN_is, Bool.true_and]
  simp [hexN_is _ (Nat.mod_lt _ (by decide : 16 > 0))]
theorem sf_id {l : List Ob} (h : sf l = 0) (k : Nat) (hk : k < l.length) : idB (l.getD k onil).1.data.toList = true := by
  have h0 := (sf_zero h).2 k hk
  unfold obF at h0
  split at h0
  · rename_i e
    split at h0
    · rename_i e2
      rw [← e2]
      unfold idK at e
      unfold idT
      split at e
      · rename_i e3
        rw [if_pos e3, if_pos e]
        exact idB_idN _ _
      · omega
    · omega
  · rename_i e; exact absurd h0 e
theorem fz_out {l : List Ob} {id : ByteArray} (h : fz l id = -1) : ∀ o ∈ l, o.1 ≠ id := by
  intro o ho e
  have : fnd l id < l.length := List.findIdx_lt_length_of_exists ⟨o, ho, by simp [e]⟩
  unfold fz at h
  rw [if_pos this] at h
  omega
theorem idB_size {id : ByteArray} (h : idB id.data.toList = true) : id.size = 5 := by
  by_cases e : id.data.toList.length = 5
  · simpa using e
  · rw [idB_len e] at h; cases h
theorem gt_noid {l : List Ob} {k : Int} {id : ByteArray} (hf : sf l = 0) (h : idB id.data.toList = false) : gt l k id = none := by
  rcases fz_cases l id with e | ⟨j, e, hj, e2⟩
  · exact gt_less e
  · have := sf_id hf j hj
    rw [e2, h] at this; cases this

end Go.Proofs.Ytlgeoaepjghdhaa
