/- The contracts of entryFault, l6Words, l6Tree and the specification's TreeFault. No statement is proved here. -/
import Derived.Test.YtgidcncmicmggamGreatDoorRows
import Derived.Test.YtgidcncmicmggamGreatDoorLem
import Derived.Test.YtgidcncmicmggamGreatDoorStrs
import Derived.Test.YtgidcncmicmggamGreatDoorIn
import Derived.Test.YtgidcncmicmggamGreatDoorDTab
import Derived.Test.YtgidcncmicmggamGreatDoorOwn
import Derived.Test.YtgidcncmicmggamGreatDoorFr
import Derived.Test.YtgidcncmicmggamGreatDoorHkT
import Derived.Test.YtgidcncmicmggamGreatDoorTF
import Derived.Test.YtgidcncmicmggamGreatDoorSpl
import Derived.Test.YtgidcncmicmggamGreatDoorIdL
import Derived.Test.YtgidcncmicmggamGreatDoorIdC
import Derived.Test.YtgidcncmicmggamGreatDoorNmC
import Derived.Test.YtgidcncmicmggamGreatDoorTgC
import Derived.Test.YtgidcncmicmggamGreatDoorTeL
import Derived.Test.YtgidcncmicmggamGreatDoorJnC
import Derived.Test.YtgidcncmicmggamGreatDoorWwC
import Derived.WalkKit
import Derived.ProofKit
import Derived.Below
import Derived.WalkSpells
import Derived.Laws.Concat
import Derived.Deep.RegionWith
import Derived.Deep.QuietTactic
import Derived.BigQuiet
namespace Go.Proofs.YtgidcncmicmggamGreatDoor.Te
open Go.ChangeShapes Go.WideShapes Go.ChangeAt Go.RowKit

theorem quietN {P : Program} {f : FuncId} {args : Array Value} {w : World} {n : Nat} {v : Value}
    (h : Calls P f args (w.drewN n) fun e w' => e = .returned v ∧ ∃ m, w' = (w.drewN n).drewN m) : Calls P f args (w.drewN n) fun e w'' => e = .returned v ∧ ∃ m, w'' = w.drewN m :=
  h.mono fun _ _ ⟨he, m, hm⟩ => ⟨he, n + m, by rw [hm, World.drewN_drewN]⟩
theorem ef_name {x0 : ByteArray} {x1 : Int} {x2 : ByteArray} (h : ¬ nf x0 = 0) : ef x0 x1 x2 = nf x0 := if_neg h
theorem ef_mode {x0 : ByteArray} {x1 : Int} {x2 : ByteArray} (h : nf x0 = 0) (e : inB x1 1 3 = false) : ef x0 x1 x2 = 3 := by unfold ef; rw [if_pos h, if_neg (by rw [e]; decide)]
theorem ef_id {x0 : ByteArray} {x1 : Int} {x2 : ByteArray} (h : nf x0 = 0) (e : inB x1 1 3 = true) (q : isOf (ek x1) x2 = false) : ef x0 x1 x2 = 1 := by unfold ef; rw [if_pos h, if_pos e, if_neg (by rw [q]; decide)]
theorem ef_ok {x0 : ByteArray} {x1 : Int} {x2 : ByteArray} (h : nf x0 = 0) (e : inB x1 1 3 = true) (q : isOf (ek x1) x2 = true) : ef x0 x1 x2 = 0 := by unfold ef; rw [if_pos h, if_pos e, if_pos q]
theorem ek_in (x1 : Int) : ek x1 = 1 ∨ ek x1 = 2 ∨ ek x1 = 3 := by unfold ek; split <;> omega
theorem inB13 {x1 : Int} (h : inB x1 1 3 = true) : x1 = 1 ∨ x1 = 2 ∨ x1 = 3 := by
  unfold inB at h
  simp at h
  omega
theorem inB13F {x1 : Int} (h : inB x1 1 3 = false) : ¬ x1 = 1 ∧ ¬ x1 = 2 ∧ ¬ x1 = 3 := by
  refine ⟨fun e => ?_, fun e => ?_, fun e => ?_⟩ <;> subst e <;> simp [inB] at h
set_option maxRecDepth 20000 in
set_option maxHeartbeats 2000000 in
theorem efC (x0 x2 : ByteArray) (x1 : Int) (w : World) : Calls Tryz.prog 189 #[.agg #[.string x0, .int .i64 x1, .string x2]] w fun e w' => e = .returned (.int .i64 (ef x0 x1 x2)) ∧ Below w.heap.size w w' := by
  have hN := fun w => implNameFault x0 w
  have hO := fun w => isIdOf (ek x1) (ek_in x1) x2 w
  obtain ⟨W1, hW1⟩ : ∃ W, w.alloc (.cells #[.string x0, .int .i64 x1, .string x2] 124) = W := ⟨_, rfl⟩
  have b1 : Below w.heap.size w W1 := by rw [← hW1]; exact allocBelow _ _
  have r1 : Rf W1 w.heap.size [.string x0, .int .i64 x1, .string x2] := by rw [← hW1]; exact Rf.new _ _ _
  have c0 := r1.at_ 0 _ rfl
  have c1 := r1.at_ 1 _ rfl
  have c2 := r1.at_ 2 _ rfl
  by_cases hn : nf x0 = 0
  · rw [hn] at hN
    cases hin : inB x1 1 3 with
    | false =>
      obtain ⟨n1, n2, n3⟩ := inB13F hin
      have HR : Hid (ef x0 x1 x2 = 3) := ef_mode hn hin
      have q1 : (x1 == 1) = false := beq_eq_false_iff_ne.2 n1
      have q2 : (x1 == 2) = false := beq_eq_false_iff_ne.2 n2
      have q3 : (x1 == 3) = false := beq_eq_false_iff_ne.2 n3
      clear hin n1 n2 n3 hO r1 hn
      go_enter Tryz.func189, Tryz.ntmps189
      go_wp2_with fail
      refine (hN _).mono ?_; rintro e w2 ⟨rfl, rfl⟩
      go_wp2
      go_ret
      exact ⟨ret_int HR.out.symm, b1⟩
    | true =>
      have HT : isOf (ek x1) x2 = true → Hid (ef x0 x1 x2 = 0) := fun q => ef_ok hn hin q
      have HF : isOf (ek x1) x2 = false → Hid (ef x0 x1 x2 = 1) := fun q => ef_id hn hin q
      rcases inB13 hin with rfl | rfl | rfl
      · have eK : ek 1 = 1 := rfl
        rw [eK] at hO HT HF
        cases hb : isOf 1 x2 with
        | true =>
          have HR := HT hb
          rw [hb] at hO
          clear HT HF hb hin r1 hn eK
          go_enter Tryz.func189, Tryz.ntmps189
          go_wp2_with fail
          refine (hN _).mono ?_; rintro e w2 ⟨rfl, rfl⟩
          go_wp2_with fail
          refine (hO _).mono ?_; rintro e w3 ⟨rfl, n, hw3⟩
          have B3 : Below w.heap.size w w3 := by rw [hw3]; exact below_drewN' b1 n
          clear hw3
          go_wp2
          go_ret
          exact ⟨ret_int HR.out.symm, B3⟩
        | false =>
          have HR := HF hb
          rw [hb] at hO
          clear HT HF hb hin r1 hn eK
          go_enter Tryz.func189, Tryz.ntmps189
          go_wp2_with fail
          refine (hN _).mono ?_; rintro e w2 ⟨rfl, rfl⟩
          go_wp2_with fail
          refine (hO _).mono ?_; rintro e w3 ⟨rfl, n, hw3⟩
          have B3 : Below w.heap.size w w3 := by rw [hw3]; exact below_drewN' b1 n
          clear hw3
          go_wp2
          go_ret
          exact ⟨ret_int HR.out.symm, B3⟩
      · have eK : ek 2 = 1 := rfl
        rw [eK] at hO HT HF
        cases hb : isOf 1 x2 with
        | true =>
          have HR := HT hb
          rw [hb] at hO
          clear HT HF hb hin r1 hn eK
          go_enter Tryz.func189, Tryz.ntmps189
          go_wp2_with fail
          refine (hN _).mono ?_; rintro e w2 ⟨rfl, rfl⟩
          go_wp2_with fail
          refine (hO _).mono ?_; rintro e w3 ⟨rfl, n, hw3⟩
          have B3 : Below w.heap.size w w3 := by rw [hw3]; exact below_drewN' b1 n
          clear hw3
          go_wp2
          go_ret
          exact ⟨ret_int HR.out.symm, B3⟩
        | false =>
          have HR := HF hb
          rw [hb] at hO
          clear HT HF hb hin r1 hn eK
          go_enter Tryz.func189, Tryz.ntmps189
          go_wp2_with fail
          refine (hN _).mono ?_; rintro e w2 ⟨rfl, rfl⟩
          go_wp2_with fail
          refine (hO _).mono ?_; rintro e w3 ⟨rfl, n, hw3⟩
          have B3 : Below w.heap.size w w3 := by rw [hw3]; exact below_drewN' b1 n
          clear hw3
          go_wp2
          go_ret
          exact ⟨ret_int HR.out.symm, B3⟩
      · have eK : ek 3 = 2 := rfl
        rw [eK] at hO HT HF
        cases hb : isOf 2 x2 with
        | true =>
          have HR := HT hb
          rw [hb] at hO
          clear HT HF hb hin r1 hn eK
          go_enter Tryz.func189, Tryz.ntmps189
          go_wp2_with fail
          refine (hN _).mono ?_; rintro e w2 ⟨rfl, rfl⟩
          go_wp2_with fail
          refine (hO _).mono ?_; rintro e w3 ⟨rfl, n, hw3⟩
          have B3 : Below w.heap.size w w3 := by rw [hw3]; exact below_drewN' b1 n
          clear hw3
          go_wp2
          go_ret
          exact ⟨ret_int HR.out.symm, B3⟩
        | false =>
          have HR := HF hb
          rw [hb] at hO
          clear HT HF hb hin r1 hn eK
          go_enter Tryz.func189, Tryz.ntmps189
          go_wp2_with fail
          refine (hN _).mono ?_; rintro e w2 ⟨rfl, rfl⟩
          go_wp2_with fail
          refine (hO _).mono ?_; rintro e w3 ⟨rfl, n, hw3⟩
          have B3 : Below w.heap.size w w3 := by rw [hw3]; exact below_drewN' b1 n
          clear hw3
          go_wp2
          go_ret
          exact ⟨ret_int HR.out.symm, B3⟩
  · have HR : Hid (ef x0 x1 x2 = nf x0) := ef_name hn
    have q0 : (nf x0 != 0) = true := ne_beq hn
    clear hO r1 hn c1 c2
    go_enter Tryz.func189, Tryz.ntmps189
    go_wp2_with fail
    refine (hN _).mono ?_; rintro e w2 ⟨rfl, rfl⟩
    go_wp2
    go_ret
    exact ⟨ret_int HR.out.symm, b1⟩
/-- The words of modes. -/
def wd (m : Int) : ByteArray := if m = 1 then ⟨#[102, 105, 108, 101]⟩ else if m = 2 then ⟨#[114, 117, 110]⟩ else ⟨#[116, 114, 101, 101]⟩
theorem l6Words (w : World) : Calls Tryz.prog 119 #[] w fun e w' => e = .returned (.slice (some ⟨w.heap.size, 0, none⟩) 4 4) ∧ w' = w.alloc (.cells #[.string ⟨#[]⟩, .string ⟨#[102, 105, 108, 101]⟩, .string ⟨#[114, 117, 110]⟩, .string ⟨#[116, 114, 101, 101]⟩] 9) := by
  go_enter Tryz.func119, Tryz.ntmps119
  go_wp2
  go_ret
  exact ⟨rfl, rfl⟩
/-- The line of an entry, and the text of a tree. -/
def el (o : Ob) : List UInt8 := (wd o.2.1).data.toList ++ 32 :: (o.2.2.data.toList ++ 32 :: (o.1.data.toList ++ [10]))
def trL (l : List Ob) : List UInt8 := l.flatMap el
def trB (l : List Ob) : ByteArray := ⟨(trL l).toArray⟩
theorem trL_take (l : List Ob) (k : Nat) (h : k < l.length) : trL (l.take (k + 1)) = trL (l.take k) ++ el (l.getD k onil) := by
  unfold trL
  rw [ob_take l k h, List.flatMap_append]
  simp
theorem trB_take (l : List Ob) (k : Nat) (h : k < l.length) : trB (l.take (k + 1)) = trB (l.take k) ++ wd (l.getD k onil).2.1 ++ ⟨#[32]⟩ ++ (l.getD k onil).2.2 ++ ⟨#[32]⟩ ++ (l.getD k onil).1 ++ ⟨#[10]⟩ := by
  apply WideShapes.bytes_inj
  rw [show (trB (l.take (k + 1))).data.toList = trL (l.take (k + 1)) from rfl, trL_take l k h]
  simp only [ByteArray.data_append, Array.toList_append]
  show _ = trL (l.take k) ++ _ ++ [32] ++ _ ++ [32] ++ _ ++ [10]
  unfold el
  simp
end Go.Proofs.YtgidcncmicmggamGreatDoor.Te
