/- The contract of the specification's FilesIndex. No statement is proved here. -/
import Derived.Test.YtjcnnmnnbjaheaaGreatDoorRows
import Derived.Test.YtjcnnmnnbjaheaaGreatDoorLemQ
import Derived.Test.YtjcnnmnnbjaheaaGreatDoorDTabQ
import Derived.Test.YtjcnnmnnbjaheaaGreatDoorHkTQ
import Derived.Test.YtjcnnmnnbjaheaaGreatDoorShelfQ
import Derived.Test.YtjcnnmnnbjaheaaGreatDoorFmCQ
import Derived.Test.YtjcnnmnnbjaheaaGreatDoorFlLQ
import Derived.Test.YtjcnnmnnbjaheaaGreatDoorFfIQ
import Derived.Test.YtjcnnmnnbjaheaaGreatDoorIxMQ
import Derived.Test.YtjcnnmnnbjaheaaGreatDoorIxNQ
import Derived.Test.YtjcnnmnnbjaheaaGreatDoorIxOQ
import Derived.Test.YtjcnnmnnbjaheaaGreatDoorSgCQ
import Derived.WalkKit
import Derived.ProofKit
import Derived.Below
import Derived.WalkSpells
import Derived.Deep.QuietTactic
import Derived.BigQuiet
import Derived.Deep.RegionWith
import Derived.Deep.RegionHeld
import Derived.Deep.CutRange
import Derived.Maps.AppendAt
import Derived.Laws.Cover1
import Derived.Test.YtjcnnmnnbjaheaaGreatDoorLFLemQ
import Derived.Test.YtjcnnmnnbjaheaaGreatDoorCutLQ
import Derived.Test.YtjcnnmnnbjaheaaGreatDoorTrWQ
import Derived.Test.YtjcnnmnnbjaheaaGreatDoorPiMQ
namespace Go.Proofs.YtjcnnmnnbjaheaaGreatDoor.En
open Go.ChangeShapes Go.WideShapes Go.ChangeAt Go.RowKit

theorem litE (w : World) : (w.alloc (.cells #[] 51)).ownsRow w.heap.size 51 4 (.slice (some ⟨w.heap.size, 0, none⟩) 0 0) ([] : List Ob).length (ocells []) := World.ownsRow_lit w #[] 0 (Nat.le_refl _) (Nat.zero_le _) rfl
/-- What is answered: entries in memory of their own. -/
def SE (L : List Ob) (w : World) (e : Ending) (w' : World) : Prop := ∃ v, e = .returned v ∧ w'.ownsRow w.heap.size 51 4 v L.length (ocells L) ∧ Below w.heap.size w w'
end Go.Proofs.YtjcnnmnnbjaheaaGreatDoor.En
/- The contract of spec.l6After. No statement is proved here. -/
namespace Go.Proofs.YtjcnnmnnbjaheaaGreatDoor.Dc
open Go.ChangeShapes Go.WideShapes Go.ChangeAt Go.RowKit

/-- How l6After ends: what is behind a word and a blank, or that the line does not begin so. -/
def AF (y wd : ByteArray) (e : Ending) : Prop := (∃ v : ByteArray, e = .returned (.tuple #[.string v, .bool true]) ∧ y.data.toList = wd.data.toList ++ 32 :: v.data.toList) ∨
  (e = .returned (.tuple #[.string ⟨#[]⟩, .bool false]) ∧ ∀ v, ¬ y.data.toList = wd.data.toList ++ 32 :: v)
theorem af_short {y wd : ByteArray} (h : y.size < wd.size + 1) : ∀ v, ¬ y.data.toList = wd.data.toList ++ 32 :: v := fun v e => by
  have := congrArg List.length e
  simp at this
  omega
theorem af_hit {y wd : ByteArray} (h : ((y.extract 0 (wd.size + 1)).toList == (wd ++ ⟨#[32]⟩).toList) = true) : y.data.toList = wd.data.toList ++ 32 :: (y.extract (wd.size + 1) y.size).data.toList := by
  have e : (y.extract 0 (wd.size + 1)).toList = (wd ++ ⟨#[32]⟩).toList := eq_of_beq h
  rw [ByteArray.toList_eq, ByteArray.toList_eq, ByteArray.data_append] at e
  have a1 : (y.extract 0 (wd.size + 1)).data.toList = y.data.toList.take (wd.size + 1) := by rw [extract_data]; simp
  have a2 : (y.extract (wd.size + 1) y.size).data.toList = y.data.toList.drop (wd.size + 1) := by rw [extract_data, List.take_of_length_le (by rw [List.length_drop, size_eq]; omega)]
  rw [a1] at e
  rw [a2]
  have k := List.take_append_drop (wd.size + 1) y.data.toList
  rw [e] at k
  simpa using k.symm
theorem af_miss {y wd : ByteArray} (h : ((y.extract 0 (wd.size + 1)).toList == (wd ++ ⟨#[32]⟩).toList) = false) : ∀ v, ¬ y.data.toList = wd.data.toList ++ 32 :: v := fun v e => by
  have q : (y.extract 0 (wd.size + 1)).toList = (wd ++ ⟨#[32]⟩).toList := by
    rw [ByteArray.toList_eq, ByteArray.toList_eq, ByteArray.data_append]
    have a1 : (y.extract 0 (wd.size + 1)).data.toList = y.data.toList.take (wd.size + 1) := by rw [extract_data]; simp
    rw [a1, e, show wd.data.toList ++ 32 :: v = (wd.data.toList ++ [32]) ++ v by simp, List.take_left' (by simp)]
    simp
  rw [q] at h
  simp at h
set_option maxRecDepth 20000 in
set_option maxHeartbeats 1000000 in
theorem l6AfterC (y wd : ByteArray) (w : World) (hw : wd.size ≤ 10) :
    Calls Tryz.prog 58 #[.string y, .string wd] w fun e w' => Below w.heap.size w w' ∧ AF y wd e := by
  by_cases h1 : y.size < wd.size + 1
  · have q1 : (y.size : Int) < (wd.size : Int) + 1 := by omega
    have HA : Hid (∀ v, ¬ y.data.toList = wd.data.toList ++ 32 :: v) := af_short h1
    go_enter Tryz.func58, Tryz.ntmps58
    go_wp2
    go_ret2
    exact ⟨Below.refl _ _, .inr ⟨rfl, HA.out⟩⟩
  · have q1 : ¬ (y.size : Int) < (wd.size : Int) + 1 := by omega
    have hq : (wd ++ (⟨#[32]⟩ : ByteArray)).size = wd.size + 1 := by rw [ByteArray.size_append]; rfl
    cases e : ((y.extract 0 (wd.size + 1)).toList == (wd ++ (⟨#[32]⟩ : ByteArray)).toList) with
    | false =>
      have HA : Hid (∀ v, ¬ y.data.toList = wd.data.toList ++ 32 :: v) := af_miss e
      go_enter Tryz.func58, Tryz.ntmps58
      go_wp2
      go_ret2
      exact ⟨Below.refl _ _, .inr ⟨rfl, HA.out⟩⟩
    | true =>
      have HA : Hid (y.data.toList = wd.data.toList ++ 32 :: (y.extract (wd.size + 1) y.size).data.toList) := af_hit e
      go_enter Tryz.func58, Tryz.ntmps58
      go_wp2
      go_ret2
      exact ⟨Below.refl _ _, .inl ⟨_, rfl, HA.out⟩⟩
end Go.Proofs.YtjcnnmnnbjaheaaGreatDoor.Dc
/- The contract of spec.l10Sum. No statement is proved here. -/
namespace Go.Proofs.YtjcnnmnnbjaheaaGreatDoor.En
open Go.ChangeShapes Go.WideShapes Go.ChangeAt Go.RowKit

theorem sumS_hit {y v : List UInt8} (h : y = wSum.data.toList ++ 32 :: v) : sumS y = (decide (1 ≤ v.length ∧ v.length ≤ 5) && v.all dig1) := by
  subst h
  have e : wSum.data.toList ++ 32 :: v = [115, 117, 109, 32] ++ v := rfl
  unfold sumS
  have e1 : List.take 4 ([115, 117, 109, 32] ++ v) = [115, 117, 109, 32] := rfl
  have e2 : List.drop 4 ([115, 117, 109, 32] ++ v) = v := rfl
  rw [e, e1, e2, beq_self_eq_true, Bool.true_and]
theorem sumS_miss {y : List UInt8} (h : ∀ v, ¬ y = wSum.data.toList ++ 32 :: v) : sumS y = false := by
  unfold sumS
  by_cases q : y.take 4 = [115, 117, 109, 32]
  · exfalso
    apply h (y.drop 4)
    have := List.take_append_drop 4 y
    rw [q] at this
    exact this.symm
  · rw [beq_eq_false_iff_ne.2 q]; rfl
theorem dig1_of {c : UInt8} (h1 : ¬ (c.toNat : Int) < 48) (h2 : ¬ (57 : Int) < (c.toNat : Int)) : dig1 c = true := decide_eq_true ⟨by omega, by omega⟩
theorem dig1_low {c : UInt8} (h1 : (c.toNat : Int) < 48) : dig1 c = false := decide_eq_false (fun q => by omega)
theorem dig1_high {c : UInt8} (h1 : (57 : Int) < (c.toNat : Int)) : dig1 c = false := decide_eq_false (fun q => by omega)
theorem all_take {l : List UInt8} {k : Nat} (h : k < l.length) : (l.take (k + 1)).all dig1 = ((l.take k).all dig1 && dig1 l[k]) := by
  rw [List.take_succ_eq_append_getElem h, List.all_append]; simp
theorem all_bad {l : List UInt8} {k : Nat} (h : k < l.length) (e : dig1 l[k] = false) : l.all dig1 = false := by
  cases q : l.all dig1 with
  | false => rfl
  | true =>
    have := List.all_eq_true.1 q _ (List.getElem_mem h)
    rw [e] at this; cases this
theorem bool_ret {a b : Bool} (h : a = b) : Ending.returned (.bool a) = .returned (.bool b) := by rw [h]
set_option maxRecDepth 20000 in
set_option maxHeartbeats 2000000 in
theorem l10SumC (y : ByteArray) (w : World) (hs : y.size ≤ 1048576) :
    Calls Tryz.prog 28 #[.string y] w fun e w' => e = .returned (.bool (sumS y.data.toList)) ∧ Below w.heap.size w w' := by
  have hA := fun w => Dc.l6AfterC y wSum w (by decide)
  have hHit := fun v => sumS_hit (y := y.data.toList) (v := v)
  have hMiss := sumS_miss (y := y.data.toList)
  obtain ⟨R, hR⟩ : ∃ R, sumS y.data.toList = R := ⟨_, rfl⟩
  rw [hR] at hMiss ⊢
  simp only [hR] at hHit
  clear hR
  have hz : ∀ v : ByteArray, y.data.toList = wSum.data.toList ++ 32 :: v.data.toList → v.size ≤ 1048576 := fun v h => by
    have := congrArg List.length h
    rw [List.length_append, List.length_cons, size_eq, size_eq, size_eq] at this
    omega
  go_enter Tryz.func28, Tryz.ntmps28
  go_wp2_with fail
  refine (hA _).mono ?_
  rintro e w1 ⟨b1, ⟨v, rfl, hv⟩ | ⟨rfl, hn⟩⟩
  · have hH := hHit _ hv
    have hvz := hz v hv
    clear hHit hMiss hA hz hv
    rw [size_eq] at hH
    by_cases h1 : v.size < 1
    · have q1 : (v.size : Int) < 1 := by omega
      have HR : Hid (R = false) := by
        show _ = _
        rw [hH, decide_eq_false (fun q => by omega)]; rfl
      clear hH
      go_wp2
      go_ret
      exact ⟨bool_ret HR.out.symm, b1⟩
    have q1 : ¬ (v.size : Int) < 1 := by omega
    by_cases h2 : 5 < v.size
    · have q2 : (5 : Int) < (v.size : Int) := by omega
      have HR : Hid (R = false) := by
        show _ = _
        rw [hH, decide_eq_false (fun q => by omega)]; rfl
      clear hH
      go_wp2
      go_ret
      exact ⟨bool_ret HR.out.symm, b1⟩
    have q2 : ¬ (5 : Int) < (v.size : Int) := by omega
    rw [decide_eq_true ⟨by omega, by omega⟩, Bool.true_and] at hH
    have HBad : ∀ k, (h : k < v.size) → dig1 v[k] = false → Hid (R = false) := fun k hk e => by
      show _ = _
      rw [hH]
      exact all_bad (k := k) (by rw [size_eq]; exact hk) e
    have HGo : ∀ k, (h : k < v.size) → dig1 v[k] = true → (v.data.toList.take k).all dig1 = true → Hid ((v.data.toList.take (k + 1)).all dig1 = true) := fun k hk e h => by
      show _ = _
      rw [all_take (by rw [size_eq]; exact hk), h, Bool.true_and]
      exact e
    have HEnd : (v.data.toList.take v.size).all dig1 = true → Hid (R = true) := fun h => by
      show _ = _
      rw [hH]
      rwa [List.take_of_length_le (by rw [size_eq]; exact Nat.le_refl _)] at h
    clear hH
    go_wp2
    go_loopw [5] (fun i wr => ∃ k : Nat, k ≤ v.size ∧ i = .int .i64 k ∧ Hid ((v.data.toList.take k).all dig1 = true) ∧ Below w.heap.size w wr) (fun i _ => v.size - (intOf i).toNat)
    case atStart => exact ⟨0, Nat.zero_le _, rfl, by show _ = _; simp, b1⟩
    case round =>
      obtain ⟨k, hk, rfl, hn, hbel⟩ := hrel
      clear b1
      by_cases hlt : k < v.size
      · have hkI : (k : Int) < (v.size : Int) := by omega
        have hb := HBad k hlt
        have hg := fun e => HGo k hlt e hn.out
        clear HBad HGo HEnd hn
        by_cases e1 : (v[k].toNat : Int) < 48
        · have HR := hb (dig1_low e1)
          clear hb hg
          go_wp2
          go_ret
          exact ⟨bool_ret HR.out.symm, hbel⟩
        by_cases e2 : (57 : Int) < (v[k].toNat : Int)
        · have HR := hb (dig1_high e2)
          clear hb hg
          go_wp2
          go_ret
          exact ⟨bool_ret HR.out.symm, hbel⟩
        have HN := hg (dig1_of e1 e2)
        clear hb hg
        go_wp2
        go_roundw
        case rel => exact ⟨k + 1, by omega, by go_num, HN, hbel⟩
        case measure => simp [intOf]; omega
      · have hkI : ¬ (k : Int) < (v.size : Int) := by omega
        obtain rfl : k = v.size := by omega
        have HR := HEnd hn.out
        clear HBad HGo HEnd hn
        go_wp2
        go_ret
        exact ⟨bool_ret HR.out.symm, hbel⟩
  · have HM : Hid (R = false) := hMiss hn
    clear hHit hMiss hA hz hn
    go_wp2
    go_ret
    exact ⟨bool_ret HM.out.symm, b1⟩
end Go.Proofs.YtjcnnmnnbjaheaaGreatDoor.En
