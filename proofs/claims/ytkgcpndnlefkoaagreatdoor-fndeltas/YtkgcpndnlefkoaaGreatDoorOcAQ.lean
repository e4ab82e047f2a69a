/- Rows of objects, one behind the other. No statement is proved here. -/
import Derived.Test.YtkgcpndnlefkoaaGreatDoorRows
import Derived.Test.YtkgcpndnlefkoaaGreatDoorObLQ
import Derived.Test.YtkgcpndnlefkoaaGreatDoorLemQ
import Derived.Test.YtkgcpndnlefkoaaGreatDoorDTabQ
import Derived.Test.YtkgcpndnlefkoaaGreatDoorInQ
import Derived.Test.YtkgcpndnlefkoaaGreatDoorShelfQ
import Derived.Test.YtkgcpndnlefkoaaGreatDoorIdLQ
import Derived.Test.YtkgcpndnlefkoaaGreatDoorDigCQ
import Derived.Test.YtkgcpndnlefkoaaGreatDoorGtSQ
import Derived.Test.YtkgcpndnlefkoaaGreatDoorShIQ
import Derived.Test.YtkgcpndnlefkoaaGreatDoorShQQ
import Derived.WalkKit
import Derived.ProofKit
import Derived.Below
import Derived.WalkSpells
import Derived.Laws.Cover1
import Derived.Deep.RegionWith
import Derived.Deep.RegionHeld
import Derived.Deep.CutRange
import Derived.Test.YtkgcpndnlefkoaaGreatDoorLFLemQ
namespace Go.Proofs.YtkgcpndnlefkoaaGreatDoor
open Go.ChangeShapes Go.WideShapes Go.ChangeAt Go.RowKit

theorem ocell_app (l m : List Ob) (j : Nat) : ocell (l ++ m) (l.length * 3 + j) = ocell m j := by
  unfold ocell
  have e1 : (l.length * 3 + j) % 3 = j % 3 := by omega
  have e2 : (l.length * 3 + j) / 3 = l.length + j / 3 := by omega
  rw [e1, e2]
  have e3 : (l ++ m).getD (l.length + j / 3) onil = m.getD (j / 3) onil := by rw [List.getD, List.getD, List.getElem?_append_right (by omega), show l.length + j / 3 - l.length = j / 3 by omega]
  rw [e3]
theorem ocell_left (l m : List Ob) (j : Nat) (h : j < l.length * 3) : ocell (l ++ m) j = ocell l j := by
  unfold ocell
  have h3 : j / 3 < l.length := by omega
  have e3 : (l ++ m).getD (j / 3) onil = l.getD (j / 3) onil := by simp [List.getD, List.getElem?_append_left h3]
  rw [e3]
theorem ocells_app (l m : List Ob) : ocells (l ++ m) = ocells l ++ ocells m := by
  unfold ocells
  rw [List.length_append, Nat.add_mul, rowG_append]
  congr 1
  · exact rowG_congr fun j hj => ocell_left l m j hj
  · exact rowG_congr fun j _ => ocell_app l m j
theorem ocells_one (o : Ob) : ocells [o] = [.string o.1, .int .i64 o.2.1, .string o.2.2] := by
  unfold ocells rowG
  show (List.range 3).map (ocell [o]) = _
  rw [show List.range 3 = [0, 1, 2] from rfl]
  simp [ocell]
end Go.Proofs.YtkgcpndnlefkoaaGreatDoor
/- The contracts of find and cloneObject. No statement is proved here. -/
namespace Go.Proofs.YtkgcpndnlefkoaaGreatDoor
open Go.ChangeShapes Go.WideShapes Go.ChangeAt Go.RowKit

theorem hexN_is (n : Nat) (h : n < 16) : isHex (hexN n) = true := by
  have key : ∀ m : Fin 16, isHex (hexN m.val) = true := by decide +kernel
  exact key ⟨n, h⟩
theorem letN_is (k : Int) : isLet (letN k) = true := by
  unfold letN
  split
  · decide
  · split <;> decide
theorem idB_idN (k : Int) (s : ByteArray) : idB (idN k s).data.toList = true := by
  unfold idN
  simp only [hexs, idB, letN_is, Bool.true_and]
  simp [hexN_is _ (Nat.mod_lt _ (by decide : 16 > 0))]
theorem sf_id {l : List Ob} (h : sf l = 0) (k : Nat) (hk : k < l.length) : idB (l.getD k onil).1.data.toList = true := by
  have h0 := (sf_zero h).2 k hk
  unfold obF at h0
  split at h0
  · rename_i e
    split at h0
    · rename_i e2
      rw [← e2]
      unfold idK at e
      unfold idT
      split at e
      · rename_i e3
        rw [if_pos e3, if_pos e]
        exact idB_idN _ _
      · omega
    · omega
  · rename_i e; exact absurd h0 e
theorem fz_out {l : List Ob} {id : ByteArray} (h : fz l id = -1) : ∀ o ∈ l, o.1 ≠ id := by
  intro o ho e
  have : fnd l id < l.length := List.findIdx_lt_length_of_exists ⟨o, ho, by simp [e]⟩
  unfold fz at h
  rw [if_pos this] at h
  omega
theorem idB_size {id : ByteArray} (h : idB id.data.toList = true) : id.size = 5 := by
  by_cases e : id.data.toList.length = 5
  · simpa using e
  · rw [idB_len e] at h; cases h
theorem gt_noid {l : List Ob} {k : Int} {id : ByteArray} (hf : sf l = 0) (h : idB id.data.toList = false) : gt l k id = none := by
  rcases fz_cases l id with e | ⟨j, e, hj, e2⟩
  · exact gt_less e
  · have := sf_id hf j hj
    rw [e2, h] at this; cases this

end Go.Proofs.YtkgcpndnlefkoaaGreatDoor
/- The contracts of LinesFault (the program's and the specification's) and of what they call. No statement is proved here. -/
namespace Go.Proofs.YtkgcpndnlefkoaaGreatDoor
open Go.ChangeShapes Go.WideShapes Go.ChangeAt Go.RowKit

theorem ten_snoc (l : List UInt8) (c : UInt8) (h : ¬ (10 : UInt8) ∈ l) (hc : ¬ (c.toNat : Int) = 10) : ¬ (10 : UInt8) ∈ l ++ [c] := by
  have : ¬ c = 10 := by intro h; apply hc; rw [h]; rfl
  simp only [List.mem_append, List.mem_singleton, not_or]
  exact ⟨h, fun e => this e.symm⟩

theorem empty_iff (s : ByteArray) : s.toList.isEmpty = decide (s.data.toList = []) := by
  rw [ByteArray.toList_eq]
  cases s.data.toList <;> simp

def manyB (ss : List ByteArray) : Bool := decide (100 < (ss.length : Int) ∨ 2000 < tot ss)

theorem okAt_eq (ss : List ByteArray) (k : Nat) (s : ByteArray) (b : Bool) (hs : s = ss.getD k ByteArray.empty) (hb : ((k : Int) == (ss.length : Int) - 1) = b) : okAt ss k = okLine s.data.toList b := by
  unfold okAt
  rw [← hs, ← hb]
  rfl

end Go.Proofs.YtkgcpndnlefkoaaGreatDoor
