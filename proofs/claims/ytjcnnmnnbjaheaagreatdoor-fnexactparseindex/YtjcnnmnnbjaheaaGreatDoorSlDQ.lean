/- What is made of files and entries, and the contract of indexOf at an index without a fault. No statement is proved here. -/
import Derived.Test.YtjcnnmnnbjaheaaGreatDoorRows
import Derived.Test.YtjcnnmnnbjaheaaGreatDoorLemQ
import Derived.Test.YtjcnnmnnbjaheaaGreatDoorDTabQ
import Derived.Test.YtjcnnmnnbjaheaaGreatDoorHkTQ
import Derived.Test.YtjcnnmnnbjaheaaGreatDoorShelfQ
import Derived.Test.YtjcnnmnnbjaheaaGreatDoorIxMQ
import Derived.Test.YtjcnnmnnbjaheaaGreatDoorFlLQ
import Derived.Test.YtjcnnmnnbjaheaaGreatDoorEnLQ
import Derived.Test.YtjcnnmnnbjaheaaGreatDoorIxOQ
import Derived.Test.YtjcnnmnnbjaheaaGreatDoorSgCQ
import Derived.Test.YtjcnnmnnbjaheaaGreatDoorSlBQ
import Derived.WalkKit
import Derived.ProofKit
import Derived.Below
import Derived.WalkSpells
import Derived.Deep.QuietTactic
import Derived.BigQuiet
import Derived.Deep.RegionWith
import Derived.Deep.RegionHeld
import Derived.Deep.CutRange
import Derived.Maps.AppendAt
import Derived.Laws.Cover1
import Derived.Test.YtjcnnmnnbjaheaaGreatDoorIdxBQ
import Derived.Laws.Concat
namespace Go.Proofs.YtjcnnmnnbjaheaaGreatDoor.En
open Go.ChangeShapes Go.WideShapes Go.ChangeAt Go.RowKit

set_option maxRecDepth 20000 in
set_option maxHeartbeats 4000000 in
theorem entryAtC (o : Fl.Ob) (s : Int) (w : World) (h0 : o.1.size ≤ 1048576) (h2 : o.2.2.size ≤ 1048576) :
    Calls Tryz.prog 72 #[.agg #[.string o.1, .int .i64 o.2.1, .string o.2.2], .int .i64 s] w fun e w' => e = .returned (.agg #[.string o.1, .int .i64 s, .int .i64 o.2.1, .string o.2.2]) ∧ Below w.heap.size w w' := by
  obtain ⟨x0, x1, x2⟩ := o
  simp only [] at h0 h2 ⊢
  have hC0 := fun W => cloneS x0 W (by omega)
  have hC2 := fun W => cloneS x2 W (by omega)
  obtain ⟨W, hW⟩ : ∃ W, (w.alloc (.cells #[.string x0, .int .i64 x1, .string x2] 88)).alloc (.cells #[.string ⟨#[]⟩, .int .i64 0, .int .i64 0, .string ⟨#[]⟩] 51) = W := ⟨_, rfl⟩
  have B : Below w.heap.size w W := by rw [← hW]; exact ((Below.refl _ _).alloc (Nat.le_refl _) _).alloc (by simp) _
  have z1 : w.heap.size + 1 < W.heap.size := by rw [← hW]; simp
  have ra : Rf (w.alloc (.cells #[.string x0, .int .i64 x1, .string x2] 88)) w.heap.size [.string x0, .int .i64 x1, .string x2] := Rf.new _ _ _
  have ra : Rf W w.heap.size [.string x0, .int .i64 x1, .string x2] := by rw [← hW]; exact ra.below (by simp) (allocBelow _ _)
  have rb : Rf W (w.heap.size + 1) [.string ⟨#[]⟩, .int .i64 0, .int .i64 0, .string ⟨#[]⟩] := by
    have q : Rf ((w.alloc (.cells #[.string x0, .int .i64 x1, .string x2] 88)).alloc (.cells #[.string ⟨#[]⟩, .int .i64 0, .int .i64 0, .string ⟨#[]⟩] 51)) (w.alloc (.cells #[.string x0, .int .i64 x1, .string x2] 88)).heap.size [.string ⟨#[]⟩, .int .i64 0, .int .i64 0, .string ⟨#[]⟩] := Rf.new _ _ _
    rw [hW, World.size_alloc] at q
    exact q
  have FIN : Hid (∀ V, Below W.heap.size W V → Hid (Rf V w.heap.size [.string x0, .int .i64 x1, .string x2] ∧ Rf V (w.heap.size + 1) [.string ⟨#[]⟩, .int .i64 0, .int .i64 0, .string ⟨#[]⟩] ∧ Below w.heap.size w V)) := fun V b => ⟨ra.below (by omega) b, rb.below (by omega) b, B.trans (b.mono B.size)⟩
  have c0 := ra.at_ 0 _ rfl
  have c1 := ra.at_ 1 _ rfl
  have c2 := ra.at_ 2 _ rfl
  clear ra rb B z1
  go_enter Tryz.func72, Tryz.ntmps72
  go_wp2_with fail
  have BD : Below W.heap.size W W.drew := (Below.refl _ _).drew
  go_region_held (fun w' => w'.cell? ⟨w.heap.size, 0, none⟩ = some (.string x0) ∧ w'.cell? ⟨w.heap.size, 1, none⟩ = some (.int .i64 x1) ∧ w'.cell? ⟨w.heap.size, 2, none⟩ = some (.string x2)) (first | with_reducible exact ⟨c0, c1, c2⟩ | with_reducible exact ⟨d0, d1, d2⟩ | with_reducible exact ⟨e0, e1, e2⟩ | with_reducible exact ⟨s0, s1, s2⟩ | exact ⟨c0, c1, c2⟩)
    ((first
      | (go_at_call 94; have gd := B1; clear gd; refine (hC2 _).mono ?_; rintro e w2 ⟨rfl, b2⟩; have B2 := B1.trans (b2.mono B1.size); obtain ⟨t2, u2, B3⟩ := (FIN.out w2 B2).out; have e0 := t2.at_ 0 _ rfl; have e1 := t2.at_ 1 _ rfl; have e2 := t2.at_ 2 _ rfl; have g0 := u2.at_ 0 _ rfl; have g1 := u2.at_ 1 _ rfl; have g2 := u2.at_ 2 _ rfl; have g3 := u2.at_ 3 _ rfl; have k0 := u2.fz 0; have k1 := u2.fz 1; have k2 := u2.fz 2; have k3 := u2.fz 3; have tS := (((t2.other (b' := w.heap.size + 1) (o := 0) (Nat.ne_of_lt (Nat.lt_succ_self _)) (.string x0)).other (b' := w.heap.size + 1) (o := 1) (Nat.ne_of_lt (Nat.lt_succ_self _)) (.int .i64 s)).other (b' := w.heap.size + 1) (o := 2) (Nat.ne_of_lt (Nat.lt_succ_self _)) (.int .i64 x1)).other (b' := w.heap.size + 1) (o := 3) (Nat.ne_of_lt (Nat.lt_succ_self _)) (.string x2); have s0 := tS.at_ 0 _ rfl; have s1 := tS.at_ 1 _ rfl; have s2 := tS.at_ 2 _ rfl)
      | (go_at_call 94; refine (hC0 _).mono ?_; rintro e w1 ⟨rfl, b1⟩; have B1 := BD.trans b1; obtain ⟨t1, _, _⟩ := (FIN.out w1 B1).out; have d0 := t1.at_ 0 _ rfl; have d1 := t1.at_ 1 _ rfl; have d2 := t1.at_ 2 _ rfl; clear t1)))
  all_goals
    have uS := (((u2.set (o := 0) (by simp) (.string x0)).set (o := 1) (by simp) (.int .i64 s)).set (o := 2) (by simp) (.int .i64 x1)).set (o := 3) (by simp) (.string x2)
    have BV := (((B3.setCell (p := ⟨w.heap.size + 1, 0, none⟩) (Nat.le_succ _) (.string x0)).setCell (p := ⟨w.heap.size + 1, 1, none⟩) (Nat.le_succ _) (.int .i64 s)).setCell (p := ⟨w.heap.size + 1, 2, none⟩) (Nat.le_succ _) (.int .i64 x1)).setCell (p := ⟨w.heap.size + 1, 3, none⟩) (Nat.le_succ _) (.string x2)
    obtain ⟨V, hV⟩ : ∃ V, (((w2.setCell ⟨w.heap.size + 1, 0, none⟩ (.string x0)).setCell ⟨w.heap.size + 1, 1, none⟩ (.int .i64 s)).setCell ⟨w.heap.size + 1, 2, none⟩ (.int .i64 x1)).setCell ⟨w.heap.size + 1, 3, none⟩ (.string x2) = V := ⟨_, rfl⟩
    rw [hV] at uS BV ⊢
    have v0 := uS.at_ 0 _ rfl
    have v1 := uS.at_ 1 _ rfl
    have v2 := uS.at_ 2 _ rfl
    have v3 := uS.at_ 3 _ rfl
    clear FIN t2 u2 tS hV B3 hC0 hC2 uS s0 s1 s2
    go_wp2
    refine bodyPost_ret (v := .agg #[.string x0, .int .i64 s, .int .i64 x1, .string x2]) (by simp [results, Tryz.results72, go_sem, v0, v1, v2, v3]) rfl ⟨rfl, BV⟩
/-- The entry of a file at a stage. -/
def ent (o : Fl.Ob) (s : Int) : Ob := (o.1, s, o.2.1, o.2.2)
end Go.Proofs.YtjcnnmnnbjaheaaGreatDoor.En
/- The contracts of InDir (the program's and the specification's). No statement is proved here. -/
namespace Go.Proofs.YtjcnnmnnbjaheaaGreatDoor
open Go.ChangeShapes Go.WideShapes Go.ChangeAt Go.RowKit

/-- Does s begin with p? -/
def hpx (s p : ByteArray) : Bool := decide (p.size ≤ s.size) && ((s.extract 0 p.size).toList == p.toList)
/-- Is a path within a directory? -/
def inD (p d : ByteArray) : Bool := decide (d.size + 1 < p.size) && ((p.extract 0 (d.size + 1)).toList == (d ++ (⟨#[47]⟩ : ByteArray)).toList)
theorem hpx_iff {s p : ByteArray} : hpx s p = true ↔ s.data.toList.take p.size = p.data.toList := by
  unfold hpx
  rw [ByteArray.toList_eq, ByteArray.toList_eq, extract_data, List.drop_zero, Nat.sub_zero]
  constructor
  · intro h
    simp only [Bool.and_eq_true, decide_eq_true_eq, beq_iff_eq] at h
    exact h.2
  · intro h
    have := congrArg List.length h
    rw [List.length_take, size_eq, size_eq] at this
    simp only [Bool.and_eq_true, decide_eq_true_eq, beq_iff_eq]
    exact ⟨by omega, h⟩
theorem inD_iff {p d : ByteArray} : inD p d = true ↔ d.size + 1 < p.size ∧ p.data.toList.take (d.size + 1) = d.data.toList ++ [47] := by
  unfold inD
  rw [ByteArray.toList_eq, ByteArray.toList_eq, extract_data, List.drop_zero, Nat.sub_zero]
  have e : (d ++ (⟨#[47]⟩ : ByteArray)).data.toList = d.data.toList ++ [47] := by simp [ByteArray.data_append]
  rw [e]
  simp only [Bool.and_eq_true, decide_eq_true_eq, beq_iff_eq]
theorem inD_no {p d : ByteArray} (h : hpx p d = false) : inD p d = false := by
  cases e : inD p d with
  | false => rfl
  | true =>
    obtain ⟨h1, h2⟩ := inD_iff.1 e
    have h3 : p.data.toList.take d.size = d.data.toList := by
      have h4 : p.data.toList.take (d.size + 1) = p.data.toList.take d.size ++ (p.data.toList.drop d.size).take 1 := List.take_add
      rw [h4] at h2
      exact (List.append_inj h2 (by rw [List.length_take, size_eq, size_eq]; omega)).1
    rw [hpx_iff.2 h3] at h
    cases h
theorem inD_short {p d : ByteArray} (h : ¬ d.size + 1 < p.size) : inD p d = false := by
  unfold inD
  rw [decide_eq_false h]; rfl
theorem inD_rest {p d : ByteArray} (h : hpx p d = true) (h1 : d.size + 1 < p.size) : inD p d = hpx (p.extract d.size p.size) ⟨#[47]⟩ := by
  have h2 := hpx_iff.1 h
  have e1 : (p.extract d.size p.size).data.toList = p.data.toList.drop d.size := by
    rw [extract_data, List.take_of_length_le (by rw [List.length_drop, size_eq]; omega)]
  have e2 : p.data.toList.take (d.size + 1) = d.data.toList ++ (p.data.toList.drop d.size).take 1 := by
    rw [List.take_add, h2]
  cases e : inD p d with
  | true =>
    obtain ⟨_, h3⟩ := inD_iff.1 e
    rw [e2] at h3
    symm
    rw [hpx_iff, e1]
    exact List.append_cancel_left h3
  | false =>
    cases e3 : hpx (p.extract d.size p.size) ⟨#[47]⟩ with
    | false => rfl
    | true =>
      have h3 := hpx_iff.1 e3
      rw [e1] at h3
      have : inD p d = true := inD_iff.2 ⟨h1, by rw [e2]; exact congrArg (d.data.toList ++ ·) h3⟩
      rw [this] at e; cases e

set_option maxHeartbeats 400000 in
theorem sliteHasPrefix (s p : ByteArray) (w : World) :
    Calls Tryz.prog 95 #[.string s, .string p] w fun e w' => e = .returned (.bool (hpx s p)) ∧ w' = w := by
  by_cases h : p.size ≤ s.size
  · have hR : Hid (hpx s p = ((s.extract 0 p.size).toList == p.toList)) := by show _ = _; unfold hpx; rw [decide_eq_true h, Bool.true_and]
    have q : (p.size : Int) ≤ (s.size : Int) := by omega
    go_enter Tryz.func95, Tryz.ntmps95
    go_wp2
    go_ret
    exact ⟨ret_bool hR.out.symm, rfl⟩
  · have hR : Hid (hpx s p = false) := by show _ = _; unfold hpx; rw [decide_eq_false h]; rfl
    have q : ¬ (p.size : Int) ≤ (s.size : Int) := by omega
    go_enter Tryz.func95, Tryz.ntmps95
    go_wp2
    go_ret
    exact ⟨ret_bool hR.out.symm, rfl⟩
set_option maxHeartbeats 400000 in
theorem sliteCutPrefix (s p : ByteArray) (w : World) :
    Calls Tryz.prog 73 #[.string s, .string p] w fun e w' => e = .returned (.tuple #[.string (if hpx s p = true then s.extract p.size s.size else s), .bool (hpx s p)]) ∧ w' = w := by
  have h := fun w => sliteHasPrefix s p w
  cases hb : hpx s p with
  | true =>
    have hl : p.size ≤ s.size := by
      have := congrArg List.length (hpx_iff.1 hb)
      rw [List.length_take, size_eq, size_eq] at this
      omega
    rw [hb] at h
    rw [if_pos rfl]
    clear hb
    go_enter Tryz.func73, Tryz.ntmps73
    go_wp2_with (go_at_call 95; refine (h _).mono ?_; rintro e w' ⟨rfl, rfl⟩)
    go_ret2
    exact ⟨rfl, rfl⟩
  | false =>
    rw [hb] at h
    rw [if_neg (by decide)]
    clear hb
    go_enter Tryz.func73, Tryz.ntmps73
    go_wp2_with (go_at_call 95; refine (h _).mono ?_; rintro e w' ⟨rfl, rfl⟩)
    go_ret2
    exact ⟨rfl, rfl⟩
theorem cutPrefix (s p : ByteArray) (w : World) :
    Calls Tryz.prog 44 #[.string s, .string p] w fun e w' => e = .returned (.tuple #[.string (if hpx s p = true then s.extract p.size s.size else s), .bool (hpx s p)]) ∧ w' = w := by
  have h := fun w => sliteCutPrefix s p w
  obtain ⟨x, hx⟩ : ∃ x, (if hpx s p = true then s.extract p.size s.size else s) = x := ⟨_, rfl⟩
  obtain ⟨b, hb⟩ : ∃ b, hpx s p = b := ⟨_, rfl⟩
  rw [hx, hb] at h
  rw [hx, hb]
  clear hx hb
  go_enter Tryz.func44, Tryz.ntmps44
  go_wp2_with (go_at_call 73; refine (h _).mono ?_; rintro e w' ⟨rfl, rfl⟩)
  go_ret2
  exact ⟨rfl, rfl⟩
end Go.Proofs.YtjcnnmnnbjaheaaGreatDoor
