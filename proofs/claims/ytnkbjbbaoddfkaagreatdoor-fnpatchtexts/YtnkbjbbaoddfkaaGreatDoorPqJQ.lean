/- The lines of a hunk: a count below nought is never made good. No statement is proved here. -/
import Derived.Test.YtnkbjbbaoddfkaaGreatDoorRows
import Derived.Test.YtnkbjbbaoddfkaaGreatDoorLemQ
import Derived.Test.YtnkbjbbaoddfkaaGreatDoorHkLQ
import Derived.Test.YtnkbjbbaoddfkaaGreatDoorHkCQ
import Derived.Test.YtnkbjbbaoddfkaaGreatDoorPpRQ
import Derived.Test.YtnkbjbbaoddfkaaGreatDoorHkTQ
import Derived.WalkKit
import Derived.ProofKit
import Derived.Below
import Derived.Defers
import Derived.Recover
import Derived.Laws.Pointers
set_option linter.unusedVariables false
namespace Go.Proofs.YtnkbjbbaoddfkaaGreatDoor.Pp
open Go.ChangeShapes Go.WideShapes Go.ChangeAt Go.RowKit

theorem rdL_neg (t : ByteArray) : ∀ (f : Nat) (o n : Int) (p : Nat), (o < 0 ∨ n < 0) → rdL t f o n p = none := by
  intro f
  induction f with
  | zero => intro o n p _; rfl
  | succ f ih =>
    intro o n p h
    by_cases h1 : 0 < o ∨ 0 < n
    · cases e : lnP t p with
      | none => exact rdL_none h1 e
      | some x =>
        obtain ⟨s, q⟩ := x
        have a1 : 0 ≤ old1 (mark0 s) := by unfold old1; split <;> decide
        have a2 : 0 ≤ new1 (mark0 s) := by unfold new1; split <;> decide
        rw [rdL_go h1 e, ih _ _ q (by omega)]
        rfl
    · exact rdL_bad h1 h
end Go.Proofs.YtnkbjbbaoddfkaaGreatDoor.Pp
/- The deferred closure of ParsePatch: its two contracts. No statement is proved here. -/
set_option linter.unusedVariables false
namespace Go.Proofs.YtnkbjbbaoddfkaaGreatDoor.Pp
open Go.ChangeShapes Go.WideShapes Go.ChangeAt Go.RowKit

set_option maxRecDepth 20000 in
set_option maxHeartbeats 1000000 in
theorem catch_panicking (R Z n c : Nat) (a : Option Addr) (s : Value) (x0 x1 x2 : Value) (u : TypeId) (pv : Value) (older : List PanicEntry) (w : World) (hR : Rf w R [s, .slice a n c]) (hZ : Rf w Z [x0, x1, x2]) (hn : n ≤ 1048576) :
    CallsD Tryz.prog 17 #[.pointer (some ⟨R, 0, none⟩), .pointer (some ⟨Z, 0, none⟩)] (.panicking ({ v := .iface u pv, recovered := false } :: older)) w fun e u' w' =>
      e = .returned (.tuple #[]) ∧ u' = .panicking ({ v := .iface u pv, recovered := true } :: older) ∧ w' = ((w.setCell ⟨Z, 0, none⟩ (.int .i64 5)).setCell ⟨Z, 1, none⟩ (.int .i64 n)).setCell ⟨Z, 2, none⟩ (.slice none 0 0) := by
  have c1 := hR.at_ 1 _ rfl
  have z0 := hZ.at_ 0 _ rfl
  have z1 := hZ.at_ 1 _ rfl
  have z2 := hZ.at_ 2 _ rfl
  have f0 := hZ.fz 0
  have f1 := hZ.fz 1
  have f2 := hZ.fz 2
  refine callsD_of_wpS Tryz.func17 rfl fun c₀ cs hu => ?_
  apply wpS_seq
  apply wpS_region
  simp [wpOpsS, go_sem, recoverD, hu, Tryz.ntmps17, Exit.thenS]
  refine wpS_cond (t := true) (by simp [Act.eval, Array.replicate]) ?_
  simp only [if_true]
  apply wpS_region
  simp [wpOpsS, go_sem, c1, z0, z1, z2, f0, f1, f2, bodyPostS, results, Tryz.results17]
theorem catch_idle (R Z : Nat) (w : World) :
    CallsD Tryz.prog 17 #[.pointer (some ⟨R, 0, none⟩), .pointer (some ⟨Z, 0, none⟩)] .returning w fun e u' w' => e = .returned (.tuple #[]) ∧ u' = .returning ∧ w' = w := by
  refine callsD_of_wpS Tryz.func17 rfl fun c₀ cs hu => ?_
  apply wpS_seq
  apply wpS_region
  simp [wpOpsS, go_sem, recoverD, hu, Tryz.ntmps17, Exit.thenS]
  refine wpS_cond (t := false) (by simp [Act.eval, Array.replicate]) ?_
  simp only [Bool.false_eq_true, if_false]
  refine wpS_of_wp (wp_skip ?_)
  cases c₀
  simp_all [bodyPostS, results, Tryz.results17]
end Go.Proofs.YtnkbjbbaoddfkaaGreatDoor.Pp
