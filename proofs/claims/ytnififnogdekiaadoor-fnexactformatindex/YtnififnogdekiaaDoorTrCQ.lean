/- The contracts of entryFault, l6Words, l6Tree and the specification's TreeFault. No statement is proved here. -/
import Derived.Test.YtnififnogdekiaaDoorRows
import Derived.Test.YtnififnogdekiaaDoorLemQ
import Derived.Test.YtnififnogdekiaaDoorInQ
import Derived.Test.YtnififnogdekiaaDoorDTabQ
import Derived.Test.YtnififnogdekiaaDoorHkTQ
import Derived.Test.YtnififnogdekiaaDoorTFQ
import Derived.Test.YtnififnogdekiaaDoorSplQ
import Derived.Test.YtnififnogdekiaaDoorIdLQ
import Derived.Test.YtnififnogdekiaaDoorTeLQ
import Derived.Test.YtnififnogdekiaaDoorJnCQ
import Derived.Test.YtnififnogdekiaaDoorWwCQ
import Derived.WalkKit
import Derived.ProofKit
import Derived.Below
import Derived.WalkSpells
import Derived.Laws.Concat
import Derived.Deep.RegionWith
import Derived.Deep.QuietTactic
import Derived.BigQuiet
namespace Go.Proofs.YtnififnogdekiaaDoor.Te
open Go.ChangeShapes Go.WideShapes Go.ChangeAt Go.RowKit

theorem quietN {P : Program} {f : FuncId} {args : Array Value} {w : World} {n : Nat} {v : Value}
    (h : Calls P f args (w.drewN n) fun e w' => e = .returned v ∧ ∃ m, w' = (w.drewN n).drewN m) : Calls P f args (w.drewN n) fun e w'' => e = .returned v ∧ ∃ m, w'' = w.drewN m :=
  h.mono fun _ _ ⟨he, m, hm⟩ => ⟨he, n + m, by rw [hm, World.drewN_drewN]⟩
theorem ef_name {x0 : ByteArray} {x1 : Int} {x2 : ByteArray} (h : ¬ nf x0 = 0) : ef x0 x1 x2 = nf x0 := if_neg h
theorem ef_mode {x0 : ByteArray} {x1 : Int} {x2 : ByteArray} (h : nf x0 = 0) (e : inB x1 1 3 = false) : ef x0 x1 x2 = 3 := by unfold ef; rw [if_pos h, if_neg (by rw [e]; decide)]
theorem ef_id {x0 : ByteArray} {x1 : Int} {x2 : ByteArray} (h : nf x0 = 0) (e : inB x1 1 3 = true) (q : isOf (ek x1) x2 = false) : ef x0 x1 x2 = 1 := by unfold ef; rw [if_pos h, if_pos e, if_neg (by rw [q]; decide)]
theorem ef_ok {x0 : ByteArray} {x1 : Int} {x2 : ByteArray} (h : nf x0 = 0) (e : inB x1 1 3 = true) (q : isOf (ek x1) x2 = true) : ef x0 x1 x2 = 0 := by unfold ef; rw [if_pos h, if_pos e, if_pos q]
theorem ek_in (x1 : Int) : ek x1 = 1 ∨ ek x1 = 2 ∨ ek x1 = 3 := by unfold ek; split <;> omega
theorem inB13 {x1 : Int} (h : inB x1 1 3 = true) : x1 = 1 ∨ x1 = 2 ∨ x1 = 3 := by
  unfold inB at h
  simp at h
  omega
theorem inB13F {x1 : Int} (h : inB x1 1 3 = false) : ¬ x1 = 1 ∧ ¬ x1 = 2 ∧ ¬ x1 = 3 := by
  refine ⟨fun e => ?_, fun e => ?_, fun e => ?_⟩ <;> subst e <;> simp [inB] at h
/-- The words of modes. -/
def wd (m : Int) : ByteArray := if m = 1 then ⟨#[102, 105, 108, 101]⟩ else if m = 2 then ⟨#[114, 117, 110]⟩ else ⟨#[116, 114, 101, 101]⟩
theorem l6Words (w : World) : Calls Tryd.prog 94 #[] w fun e w' => e = .returned (.slice (some ⟨w.heap.size, 0, none⟩) 4 4) ∧ w' = w.alloc (.cells #[.string ⟨#[]⟩, .string ⟨#[102, 105, 108, 101]⟩, .string ⟨#[114, 117, 110]⟩, .string ⟨#[116, 114, 101, 101]⟩] 9) := by
  go_enter Tryd.func94, Tryd.ntmps94
  go_wp2
  go_ret
  exact ⟨rfl, rfl⟩
/-- The line of an entry, and the text of a tree. -/
def el (o : Ob) : List UInt8 := (wd o.2.1).data.toList ++ 32 :: (o.2.2.data.toList ++ 32 :: (o.1.data.toList ++ [10]))
def trL (l : List Ob) : List UInt8 := l.flatMap el
def trB (l : List Ob) : ByteArray := ⟨(trL l).toArray⟩
theorem trL_take (l : List Ob) (k : Nat) (h : k < l.length) : trL (l.take (k + 1)) = trL (l.take k) ++ el (l.getD k onil) := by
  unfold trL
  rw [ob_take l k h, List.flatMap_append]
  simp
theorem trB_take (l : List Ob) (k : Nat) (h : k < l.length) : trB (l.take (k + 1)) = trB (l.take k) ++ wd (l.getD k onil).2.1 ++ ⟨#[32]⟩ ++ (l.getD k onil).2.2 ++ ⟨#[32]⟩ ++ (l.getD k onil).1 ++ ⟨#[10]⟩ := by
  apply WideShapes.bytes_inj
  rw [show (trB (l.take (k + 1))).data.toList = trL (l.take (k + 1)) from rfl, trL_take l k h]
  simp only [ByteArray.data_append, Array.toList_append]
  show _ = trL (l.take k) ++ _ ++ [32] ++ _ ++ [32] ++ _ ++ [10]
  unfold el
  simp
end Go.Proofs.YtnififnogdekiaaDoor.Te
