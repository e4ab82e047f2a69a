/- The contract of the program's writeWords. No statement is proved here. -/
import Derived.Test.YtjcnnmnnbjaheaaGreatDoorRows
import Derived.Test.YtjcnnmnnbjaheaaGreatDoorLemQ
import Derived.Test.YtjcnnmnnbjaheaaGreatDoorTeLQ
import Derived.Test.YtjcnnmnnbjaheaaGreatDoorDTabQ
import Derived.Test.YtjcnnmnnbjaheaaGreatDoorJnCQ
import Derived.WalkKit
import Derived.ProofKit
import Derived.Below
import Derived.WalkSpells
import Derived.Test.YtjcnnmnnbjaheaaGreatDoorHkTQ
import Derived.Test.YtjcnnmnnbjaheaaGreatDoorIterQ
import Derived.Test.YtjcnnmnnbjaheaaGreatDoorIdLQ
import Derived.Laws.Concat
import Derived.Deep.RegionWith
import Derived.Deep.QuietTactic
import Derived.BigQuiet
namespace Go.Proofs.YtjcnnmnnbjaheaaGreatDoor
open Go.ChangeShapes Go.WideShapes Go.ChangeAt Go.RowKit

/-- A builder that holds these bytes. -/
def TB (B b : Nat) (l : List UInt8) (w : World) : Prop := Lib.IsBuilderF 74 5 B b (Lib.byteCells l) w
theorem TB.fresh (w : World) : TB w.heap.size w.heap.size [] (w.alloc (.cells #[.pointer none, .slice none 0 0] 74)) := Lib.IsBuilderF.of (Lib.fresh_isBuilder 74 5 w)
theorem atF_below {T e : TypeId} {B b : Nat} {p : Value} {bs : List Value} {w w' : World} (h : Lib.BuilderAtF T e B b p bs w) (hb : Below w.heap.size w w') : Lib.BuilderAtF T e B b p bs w' := by
  have hlt := h.lt
  obtain ⟨hB, v, hbk, hown, hne⟩ := h
  exact ⟨hB, v, (hb.block b hlt).trans hbk, hown.kept (grownOfBelow hb none) (by cases hv : v.ownBlock <;> simp), hne⟩
theorem TB.below {B b : Nat} {l : List UInt8} {w w' : World} (h : TB B b l w) (hb : Below w.heap.size w w') : TB B b l w' := h.elim (fun x => .inl (atF_below x hb)) (fun x => .inr (atF_below x hb))
/-- A line of words. -/
def wl (ss : List ByteArray) : List UInt8 := (jnB ss).data.toList ++ [10]

set_option maxHeartbeats 1000000 in
theorem writeWords (B b g off c : Nat) (l : List UInt8) (ss : List ByteArray) (w : World) (hB : TB B b l w) (hbs : B ≤ w.heap.size) (hs : SS w (some ⟨g, off, none⟩) ss) (h2 : 2 ≤ ss.length) (hc : ss.length ≤ c) (hn : ss.length ≤ 1048576) (htot : tot ss ≤ 1048576) (hl : l.length ≤ 1000000000) :
    Calls Tryz.prog 52 #[.pointer (some ⟨b, 0, none⟩), .slice (some ⟨g, off, none⟩) ss.length c] w fun e w' => e = .returned (.tuple #[]) ∧ TB B b (l ++ wl ss) w' ∧ Below B w w' := by
  have hJ := joinC g off c ss w hs h2 hc hn htot
  have hsz : (jnB ss).size ≤ 3145728 := by
    have := jl_len ss (ss.length - 1) (by omega)
    have h3 := tot_take_le ss (ss.length - 1 + 1)
    show (jl ss (ss.length - 1)).toArray.size ≤ _
    simp
    omega
  have HW : Hid (wl ss = (jnB ss).data.toList ++ [10]) := rfl
  obtain ⟨J, hJe⟩ : ∃ J, jnB ss = J := ⟨_, rfl⟩
  rw [hJe] at hJ hsz HW
  clear hJe
  go_enter Tryz.func52, Tryz.ntmps52
  go_wp2_with fail
  refine hJ.mono ?_; rintro e w1 ⟨rfl, b1⟩
  have T1 := hB.below b1
  have s1 := b1.size
  have hWs := writeStringF B b _ J w1 T1 (by rw [Lib.byteCells_length]; omega) (by omega)
  clear hJ T1
  go_wp2_with fail
  refine hWs.mono ?_; rintro e w2 ⟨rfl, h2', b2⟩
  have s2 := b2.size
  have hWb := writeByteF B b _ 10 w2 (.inr h2') (by rw [List.length_append, Lib.byteCells_length, Lib.strCells_eq, Lib.byteCells_length]; simp; omega) (by omega)
  clear hWs
  go_wp2_with fail
  refine hWb.mono ?_; rintro e w3 ⟨rfl, h3', b3⟩
  have HT : Hid (TB B b (l ++ wl ss) w3) := by
    show Lib.IsBuilderF _ _ _ _ _ _
    refine .inr ?_
    have e : Lib.byteCells (l ++ wl ss) = Lib.byteCells l ++ Lib.strCells J ++ [.int .u8 10] := by
      rw [HW.out, Lib.byteCells_append, Lib.byteCells_append, ← Lib.strCells_eq, List.append_assoc]
      rfl
    rw [e]
    exact h3'
  have HB : Hid (Below B w w3) := ((b1.mono hbs).trans b2).trans b3
  clear hWb h2' h3' b1 b2 b3 hB
  go_wp2
  go_end0
  exact ⟨rfl, HT.out, HB.out⟩
end Go.Proofs.YtjcnnmnnbjaheaaGreatDoor
/- The contracts of entryFault, l6Words, l6Tree and the specification's TreeFault. No statement is proved here. -/
namespace Go.Proofs.YtjcnnmnnbjaheaaGreatDoor.Te
open Go.ChangeShapes Go.WideShapes Go.ChangeAt Go.RowKit

theorem quietN {P : Program} {f : FuncId} {args : Array Value} {w : World} {n : Nat} {v : Value}
    (h : Calls P f args (w.drewN n) fun e w' => e = .returned v ∧ ∃ m, w' = (w.drewN n).drewN m) : Calls P f args (w.drewN n) fun e w'' => e = .returned v ∧ ∃ m, w'' = w.drewN m :=
  h.mono fun _ _ ⟨he, m, hm⟩ => ⟨he, n + m, by rw [hm, World.drewN_drewN]⟩
theorem ef_name {x0 : ByteArray} {x1 : Int} {x2 : ByteArray} (h : ¬ nf x0 = 0) : ef x0 x1 x2 = nf x0 := if_neg h
theorem ef_mode {x0 : ByteArray} {x1 : Int} {x2 : ByteArray} (h : nf x0 = 0) (e : inB x1 1 3 = false) : ef x0 x1 x2 = 3 := by unfold ef; rw [if_pos h, if_neg (by rw [e]; decide)]
theorem ef_id {x0 : ByteArray} {x1 : Int} {x2 : ByteArray} (h : nf x0 = 0) (e : inB x1 1 3 = true) (q : isOf (ek x1) x2 = false) : ef x0 x1 x2 = 1 := by unfold ef; rw [if_pos h, if_pos e, if_neg (by rw [q]; decide)]
theorem ef_ok {x0 : ByteArray} {x1 : Int} {x2 : ByteArray} (h : nf x0 = 0) (e : inB x1 1 3 = true) (q : isOf (ek x1) x2 = true) : ef x0 x1 x2 = 0 := by unfold ef; rw [if_pos h, if_pos e, if_pos q]
theorem ek_in (x1 : Int) : ek x1 = 1 ∨ ek x1 = 2 ∨ ek x1 = 3 := by unfold ek; split <;> omega
theorem inB13 {x1 : Int} (h : inB x1 1 3 = true) : x1 = 1 ∨ x1 = 2 ∨ x1 = 3 := by
  unfold inB at h
  simp at h
  omega
theorem inB13F {x1 : Int} (h : inB x1 1 3 = false) : ¬ x1 = 1 ∧ ¬ x1 = 2 ∧ ¬ x1 = 3 := by
  refine ⟨fun e => ?_, fun e => ?_, fun e => ?_⟩ <;> subst e <;> simp [inB] at h
/-- The words of modes. -/
def wd (m : Int) : ByteArray := if m = 1 then ⟨#[102, 105, 108, 101]⟩ else if m = 2 then ⟨#[114, 117, 110]⟩ else ⟨#[116, 114, 101, 101]⟩
theorem l6Words (w : World) : Calls Tryz.prog 57 #[] w fun e w' => e = .returned (.slice (some ⟨w.heap.size, 0, none⟩) 4 4) ∧ w' = w.alloc (.cells #[.string ⟨#[]⟩, .string ⟨#[102, 105, 108, 101]⟩, .string ⟨#[114, 117, 110]⟩, .string ⟨#[116, 114, 101, 101]⟩] 9) := by
  go_enter Tryz.func57, Tryz.ntmps57
  go_wp2
  go_ret
  exact ⟨rfl, rfl⟩
/-- The line of an entry, and the text of a tree. -/
def el (o : Ob) : List UInt8 := (wd o.2.1).data.toList ++ 32 :: (o.2.2.data.toList ++ 32 :: (o.1.data.toList ++ [10]))
def trL (l : List Ob) : List UInt8 := l.flatMap el
def trB (l : List Ob) : ByteArray := ⟨(trL l).toArray⟩
theorem trL_take (l : List Ob) (k : Nat) (h : k < l.length) : trL (l.take (k + 1)) = trL (l.take k) ++ el (l.getD k onil) := by
  unfold trL
  rw [ob_take l k h, List.flatMap_append]
  simp
theorem trB_take (l : List Ob) (k : Nat) (h : k < l.length) : trB (l.take (k + 1)) = trB (l.take k) ++ wd (l.getD k onil).2.1 ++ ⟨#[32]⟩ ++ (l.getD k onil).2.2 ++ ⟨#[32]⟩ ++ (l.getD k onil).1 ++ ⟨#[10]⟩ := by
  apply WideShapes.bytes_inj
  rw [show (trB (l.take (k + 1))).data.toList = trL (l.take (k + 1)) from rfl, trL_take l k h]
  simp only [ByteArray.data_append, Array.toList_append]
  show _ = trL (l.take k) ++ _ ++ [32] ++ _ ++ [32] ++ _ ++ [10]
  unfold el
  simp
end Go.Proofs.YtjcnnmnnbjaheaaGreatDoor.Te
