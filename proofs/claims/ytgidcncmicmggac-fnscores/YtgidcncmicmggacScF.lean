/- Scores as floats: what the program reckons, and that it is the whole number of the document. No statement is proved here. -/
import Derived.Test.YtgidcncmicmggacRows
import Derived.Test.YtgidcncmicmggacLem
import Derived.Test.YtgidcncmicmggacScK
import Derived.Laws.FloatArith
import Derived.Laws.Cover2
import Derived.Laws.Externs
import Derived.WalkKit
import Derived.ProofKit
import Derived.Below
import Derived.WalkSpells
namespace Go.Proofs.Ytgidcncmicmggac.Sc
open Go.ChangeShapes Go.WideShapes Go.ChangeAt Go.RowKit

set_option maxHeartbeats 1000000 in
theorem isNaN (x : Nat) (w : World) : Calls Try.prog 22 #[.float .f64 x] w fun e w' => e = .returned (.bool (FloatKind.f64.format.order x x != some .eq)) ∧ w' = w := by
  go_enter Try.func22, Try.ntmps22
  go_wp2
  go_ret
  exact ⟨rfl, rfl⟩
theorem run_floor (x f : Nat) (w : World) (h : flB x = some f) : (Extern.MathFloor.toIntegral "math.archFloor" .down #[.float .f64 x]).run Try.prog w = .ok (.float .f64 f) w := by
  unfold flB at h
  obtain ⟨S, hS⟩ : ∃ S, Extern.MathFloor.toIntegral "math.archFloor" .down #[.float .f64 x] = S := ⟨_, rfl⟩
  rw [hS]
  conv at hS => lhs; whnf
  subst hS
  generalize FloatKind.f64.decode x = d at h ⊢
  cases d with
  | nan s t => cases h
  | infinity s => obtain rfl := Option.some.inj h; rfl
  | number s m i => obtain rfl := Option.some.inj h; rfl
theorem run_archFloor (x f : Nat) (w : World) (h : flB x = some f) : (callFunc 32 #[.float .f64 x]).run Try.prog w = .ok (.value (.float .f64 f)) w := by
  rw [run_callFunc_extern (e := Extern.MathFloor.toIntegral "math.archFloor" .down) (fn := Try.f32) Try.func32 (by kernel_rfl) (by kernel_rfl) (by kernel_rfl) (by kernel_rfl)]
  rw [run_floor x f w h]
  rfl
set_option maxHeartbeats 1000000 in
theorem floorC (x f : Nat) (w : World) (h : flB x = some f) : Calls Try.prog 23 #[.float .f64 x] w fun e w' => e = .returned (.float .f64 f) ∧ w' = w := by
  have hop := fun w => run_archFloor x f w h
  go_enter Try.func23, Try.ntmps23
  go_wp2
  go_ret
  exact ⟨rfl, rfl⟩
set_option maxHeartbeats 1000000 in
theorem perMille (q f : Nat) (m : Int) (w : World) (h1 : flB q = some f) (h2 : floatToIntVal .f64 f .i64 = some m) (h3 : (FloatKind.f64.format.order q q != some .eq) = false) :
    Calls Try.prog 16 #[.float .f64 q] w fun e w' => e = .returned (.int .i64 m) ∧ w' = w := by
  have hN := fun w => isNaN q w
  rw [h3] at hN
  have hF := fun w => floorC q f w h1
  have hop : ∀ w, (convert 40 2 (.float .f64 f)).run Try.prog w = .ok (.int .i64 m) w := fun w => run_convert_float_int w 40 2 .f64 .i64 f m (by kernel_rfl) Try.underlying2 h2
  go_enter Try.func16, Try.ntmps16
  go_wp2_with fail
  refine (hN _).mono ?_; rintro e w1 ⟨rfl, rfl⟩
  go_wp2_with fail
  refine (hF _).mono ?_; rintro e w2 ⟨rfl, rfl⟩
  go_wp2
  go_ret
  exact ⟨rfl, rfl⟩
set_option maxHeartbeats 1000000 in
theorem perMille_nan (q : Nat) (w : World) (h3 : (FloatKind.f64.format.order q q != some .eq) = true) :
    Calls Try.prog 16 #[.float .f64 q] w fun e w' => e = .returned (.int .i64 1000) ∧ w' = w := by
  have hN := fun w => isNaN q w
  rw [h3] at hN
  go_enter Try.func16, Try.ntmps16
  go_wp2_with fail
  refine (hN _).mono ?_; rintro e w1 ⟨rfl, rfl⟩
  go_wp2
  go_ret
  exact ⟨rfl, rfl⟩
end Go.Proofs.Ytgidcncmicmggac.Sc
