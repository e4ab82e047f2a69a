/- NormalText of the program: Itoa, sized, normalChunk. No statement is proved here. -/
import Derived.Test.YtcfnkndbhpdfnaaGreatDoorTmMQ
import Derived.Lib.LaidTab
set_option linter.unusedVariables false
namespace Go.Proofs.YtcfnkndbhpdfnaaGreatDoor.No
open Go.RowKit Go.Sort
end Go.Proofs.YtcfnkndbhpdfnaaGreatDoor.No
set_option linter.unusedVariables false
namespace Go.Proofs.YtcfnkndbhpdfnaaGreatDoor.Tm
open Go.ChangeShapes Go.WideShapes Go.ChangeAt Go.RowKit
open Go.Proofs.YtcfnkndbhpdfnaaGreatDoor.Pv
theorem ret2i {a : Int} {c : Bool} {w : World} {R : Int × Bool} (h : R = (a, c)) : Ending.returned (.tuple #[.int .i64 a, .bool c]) = .returned (.tuple #[.int .i64 R.1, .bool R.2]) /\ w = w := by rw [h]; exact ⟨rfl, rfl⟩
theorem ret2s {a : ByteArray} {c : Bool} {w : World} {R : ByteArray × Bool} (h : R = (a, c)) : Ending.returned (.tuple #[.string a, .bool c]) = .returned (.tuple #[.string R.1, .bool R.2]) /\ w = w := by rw [h]; exact ⟨rfl, rfl⟩
theorem agreedI (b o t : Int) (w : World) :
  Calls Tryz.prog 89 #[.int .i64 b, .int .i64 o, .int .i64 t] w fun e w' => e = .returned (.tuple #[.int .i64 (agM b o t).1, .bool (agM b o t).2]) /\ w' = w := by
 by_cases e1 : o = t
 ·have HC : Hid (agM b o t = (o, true)) := if_pos (.inl e1)
  have q1 : (o == t) = true := by simpa using e1
  clear e1
  go_enter Tryz.func89, Tryz.ntmps89
  go_wp2
  refine bodyPost_ret (v := .tuple #[.int .i64 o, .bool true]) (by simp [results, Tryz.results89, go_sem]) rfl ?_
  exact ret2i HC.out
 have q1 : (o == t) = false := by simpa using e1
 by_cases e2 : t = b
 ·have HC : Hid (agM b o t = (o, true)) := if_pos (.inr e2)
  have q2 : (t == b) = true := by simpa using e2
  clear e1 e2
  go_enter Tryz.func89, Tryz.ntmps89
  go_wp2
  refine bodyPost_ret (v := .tuple #[.int .i64 o, .bool true]) (by simp [results, Tryz.results89, go_sem]) rfl ?_
  exact ret2i HC.out
 have q2 : (t == b) = false := by simpa using e2
 by_cases e3 : o = b
 ·have HC : Hid (agM b o t = (t, true)) := by show _ = _; unfold agM; rw [if_neg (not_or.2 ⟨e1, e2⟩), if_pos e3]
  have q3 : (o == b) = true := by simpa using e3
  clear e1 e2 e3
  go_enter Tryz.func89, Tryz.ntmps89
  go_wp2
  refine bodyPost_ret (v := .tuple #[.int .i64 t, .bool true]) (by simp [results, Tryz.results89, go_sem]) rfl ?_
  exact ret2i HC.out
 have q3 : (o == b) = false := by simpa using e3
 have HC : Hid (agM b o t = (0, false)) := by show _ = _; unfold agM; rw [if_neg (not_or.2 ⟨e1, e2⟩), if_neg e3]
 clear e1 e2 e3
 go_enter Tryz.func89, Tryz.ntmps89
 go_wp2
 refine bodyPost_ret (v := .tuple #[.int .i64 0, .bool false]) (by simp [results, Tryz.results89, go_sem]) rfl ?_
 exact ret2i HC.out
theorem agreedS (b o t : ByteArray) (w : World) :
  Calls Tryz.prog 90 #[.string b, .string o, .string t] w fun e w' => e = .returned (.tuple #[.string (agS b o t).1, .bool (agS b o t).2]) /\ w' = w := by
 by_cases e1 : o = t
 ·have HC : Hid (agS b o t = (o, true)) := if_pos (.inl e1)
  have q1 : (o.toList == t.toList) = true := beq_bytes_true e1
  clear e1
  go_enter Tryz.func90, Tryz.ntmps90
  go_wp2
  refine bodyPost_ret (v := .tuple #[.string o, .bool true]) (by simp [results, Tryz.results90, go_sem]) rfl ?_
  exact ret2s HC.out
 have q1 : (o.toList == t.toList) = false := beq_bytes_false e1
 by_cases e2 : t = b
 ·have HC : Hid (agS b o t = (o, true)) := if_pos (.inr e2)
  have q2 : (t.toList == b.toList) = true := beq_bytes_true e2
  clear e1 e2
  go_enter Tryz.func90, Tryz.ntmps90
  go_wp2
  refine bodyPost_ret (v := .tuple #[.string o, .bool true]) (by simp [results, Tryz.results90, go_sem]) rfl ?_
  exact ret2s HC.out
 have q2 : (t.toList == b.toList) = false := beq_bytes_false e2
 by_cases e3 : o = b
 ·have HC : Hid (agS b o t = (t, true)) := by show _ = _; unfold agS; rw [if_neg (not_or.2 ⟨e1, e2⟩), if_pos e3]
  have q3 : (o.toList == b.toList) = true := beq_bytes_true e3
  clear e1 e2 e3
  go_enter Tryz.func90, Tryz.ntmps90
  go_wp2
  refine bodyPost_ret (v := .tuple #[.string t, .bool true]) (by simp [results, Tryz.results90, go_sem]) rfl ?_
  exact ret2s HC.out
 have q3 : (o.toList == b.toList) = false := beq_bytes_false e3
 have HC : Hid (agS b o t = (⟨#[]⟩, false)) := by show _ = _; unfold agS; rw [if_neg (not_or.2 ⟨e1, e2⟩), if_neg e3]
 clear e1 e2 e3
 go_enter Tryz.func90, Tryz.ntmps90
 go_wp2
 refine bodyPost_ret (v := .tuple #[.string ⟨#[]⟩, .bool false]) (by simp [results, Tryz.results90, go_sem]) rfl ?_
 exact ret2s HC.out
set_option maxHeartbeats 1000000 in
theorem l11ModeC (f0 f2 g0 g2 h0 h2 : ByteArray) (f1 g1 h1 : Int) (w : World) :
  Calls Tryz.prog 70 #[.agg #[.string f0, .int .i64 f1, .string f2], .agg #[.string g0, .int .i64 g1, .string g2], .agg #[.string h0, .int .i64 h1, .string h2]] w fun e w' => e = .returned (.tuple #[.int .i64 (moS (f0, f1, f2) (g0, g1, g2) (h0, h1, h2)).1, .bool (moS (f0, f1, f2) (g0, g1, g2) (h0, h1, h2)).2]) /\ Below w.heap.size w w' := by
 obtain ⟨R, hR⟩ : ∃ R, moS (f0, f1, f2) (g0, g1, g2) (h0, h1, h2) = R := ⟨_, rfl⟩
 rw [hR]
 unfold moS at hR
 simp only [] at hR
 by_cases e0 : g1 = h1
 ·have q0 : (g1 == h1) = true := by simpa using e0
  rw [if_pos e0] at hR
  clear e0
  have HC : Hid (R = (g1, true)) := hR.symm
  clear hR
  go_enter Tryz.func70, Tryz.ntmps70
  go_wp2
  refine bodyPost_ret (v := .tuple #[.int .i64 g1, .bool true]) (by simp [results, Tryz.results70, go_sem]) rfl ?_
  exact ⟨by rw [HC.out], ((((Below.refl _ _).alloc (Nat.le_refl _) _).alloc (by simp) _).alloc (by simp; omega) _)⟩
 have q0 : (g1 == h1) = false := by simpa using e0
 rw [if_neg e0] at hR
 by_cases e1 : ((f0, f1, f2) : Fl.Ob) = Fl.onil
 ·have q1 := Fl.ef_nil e1
  rw [if_pos e1] at hR
  clear e0 e1
  have HC : Hid (R = (0, false)) := hR.symm
  clear hR
  go_enter Tryz.func70, Tryz.ntmps70
  go_wp2
  refine bodyPost_ret (v := .tuple #[.int .i64 0, .bool false]) (by simp [results, Tryz.results70, go_sem]) rfl ?_
  exact ⟨by rw [HC.out], ((((Below.refl _ _).alloc (Nat.le_refl _) _).alloc (by simp) _).alloc (by simp; omega) _)⟩
 have q1 := Fl.ef_some e1
 rw [if_neg e1] at hR
 by_cases e2 : g1 = f1
 ·have q2 : (g1 == f1) = true := by simpa using e2
  rw [if_pos e2] at hR
  clear e0 e1 e2
  have HC : Hid (R = (h1, true)) := hR.symm
  clear hR
  go_enter Tryz.func70, Tryz.ntmps70
  go_wp2
  refine bodyPost_ret (v := .tuple #[.int .i64 h1, .bool true]) (by simp [results, Tryz.results70, go_sem]) rfl ?_
  exact ⟨by rw [HC.out], ((((Below.refl _ _).alloc (Nat.le_refl _) _).alloc (by simp) _).alloc (by simp; omega) _)⟩
 have q2 : (g1 == f1) = false := by simpa using e2
 rw [if_neg e2] at hR
 clear e0 e1 e2
 have HC : Hid (R = (g1, true)) := hR.symm
 clear hR
 go_enter Tryz.func70, Tryz.ntmps70
 go_wp2
 refine bodyPost_ret (v := .tuple #[.int .i64 g1, .bool true]) (by simp [results, Tryz.results70, go_sem]) rfl ?_
 exact ⟨by rw [HC.out], ((((Below.refl _ _).alloc (Nat.le_refl _) _).alloc (by simp) _).alloc (by simp; omega) _)⟩
set_option maxHeartbeats 1000000 in
theorem l11PickC (f0 f2 g0 g2 h0 h2 : ByteArray) (f1 g1 h1 : Int) (w : World) :
  Calls Tryz.prog 71 #[.agg #[.string f0, .int .i64 f1, .string f2], .agg #[.string g0, .int .i64 g1, .string g2], .agg #[.string h0, .int .i64 h1, .string h2]] w fun e w' => e = .returned (.string (piS (f0, f1, f2) (g0, g1, g2) (h0, h1, h2))) /\ Below w.heap.size w w' := by
 obtain ⟨R, hR⟩ : ∃ R, piS (f0, f1, f2) (g0, g1, g2) (h0, h1, h2) = R := ⟨_, rfl⟩
 rw [hR]
 unfold piS at hR
 simp only [] at hR
 by_cases e0 : g2 = h2
 ·have q0 : (g2.toList == h2.toList) = true := beq_bytes_true e0
  rw [if_pos e0] at hR
  clear e0
  have HC : Hid (R = g2) := hR.symm
  clear hR
  go_enter Tryz.func71, Tryz.ntmps71
  go_wp2
  go_ret
  exact ⟨by rw [HC.out]; rfl, ((((Below.refl _ _).alloc (Nat.le_refl _) _).alloc (by simp) _).alloc (by simp; omega) _)⟩
 have q0 : (g2.toList == h2.toList) = false := beq_bytes_false e0
 rw [if_neg e0] at hR
 by_cases e1 : ((f0, f1, f2) : Fl.Ob) = Fl.onil
 ·have q1 := Fl.ef_nil e1
  rw [if_pos e1] at hR
  clear e0 e1
  have HC : Hid (R = ⟨#[]⟩) := hR.symm
  clear hR
  go_enter Tryz.func71, Tryz.ntmps71
  go_wp2
  go_ret
  exact ⟨by rw [HC.out]; rfl, ((((Below.refl _ _).alloc (Nat.le_refl _) _).alloc (by simp) _).alloc (by simp; omega) _)⟩
 have q1 := Fl.ef_some e1
 rw [if_neg e1] at hR
 by_cases e2 : g2 = f2
 ·have q2 : (g2.toList == f2.toList) = true := beq_bytes_true e2
  rw [if_pos e2] at hR
  clear e0 e1 e2
  have HC : Hid (R = h2) := hR.symm
  clear hR
  go_enter Tryz.func71, Tryz.ntmps71
  go_wp2
  go_ret
  exact ⟨by rw [HC.out]; rfl, ((((Below.refl _ _).alloc (Nat.le_refl _) _).alloc (by simp) _).alloc (by simp; omega) _)⟩
 have q2 : (g2.toList == f2.toList) = false := beq_bytes_false e2
 rw [if_neg e2] at hR
 by_cases e3 : h2 = f2
 ·have q3 : (h2.toList == f2.toList) = true := beq_bytes_true e3
  rw [if_pos e3] at hR
  clear e0 e1 e2 e3
  have HC : Hid (R = g2) := hR.symm
  clear hR
  go_enter Tryz.func71, Tryz.ntmps71
  go_wp2
  go_ret
  exact ⟨by rw [HC.out]; rfl, ((((Below.refl _ _).alloc (Nat.le_refl _) _).alloc (by simp) _).alloc (by simp; omega) _)⟩
 have q3 : (h2.toList == f2.toList) = false := beq_bytes_false e3
 rw [if_neg e3] at hR
 clear e0 e1 e2 e3
 have HC : Hid (R = ⟨#[]⟩) := hR.symm
 clear hR
 go_enter Tryz.func71, Tryz.ntmps71
 go_wp2
 go_ret
 exact ⟨by rw [HC.out]; rfl, ((((Below.refl _ _).alloc (Nat.le_refl _) _).alloc (by simp) _).alloc (by simp; omega) _)⟩
end Go.Proofs.YtcfnkndbhpdfnaaGreatDoor.Tm
