/- The contracts of spec.l2Asked and impl.faultOfEither: the LinesFault of one list of lines, then of the other. No statement is proved here. -/
import Derived.Test.YticagabnaibmgaaRows
import Derived.Test.YticagabnaibmgaaLemQ
import Derived.Test.YticagabnaibmgaaDTabQ
import Derived.Test.YticagabnaibmgaaLFLemQ
import Derived.Test.YticagabnaibmgaaLFQ
import Derived.WalkKit
import Derived.ProofKit
namespace Go.Proofs.Yticagabnaibmgaa
open Go.ChangeShapes Go.WideShapes Go.ChangeAt Go.RowKit

/-- The fault of two lists of lines. -/
def asked (xs ys : List ByteArray) : Int := if lf xs = 0 then lf ys else lf xs
theorem asked_left {xs ys : List ByteArray} (h : ¬ lf xs = 0) : asked xs ys = lf xs := if_neg h
theorem asked_right {xs ys : List ByteArray} (h : lf xs = 0) : asked xs ys = lf ys := if_pos h
theorem lf_zero {ss : List ByteArray} (h : lf ss = 0) : ss.length ≤ 100 ∧ tot ss ≤ 2000 := by
  unfold lf at h
  split at h
  · cases h
  · omega
theorem asked_zero {xs ys : List ByteArray} (h : asked xs ys = 0) : lf xs = 0 ∧ lf ys = 0 := by
  by_cases hx : lf xs = 0
  · rw [asked_right hx] at h; exact ⟨hx, h⟩
  · rw [asked_left hx] at h; exact absurd h hx
theorem specAsked (a1 a2 : Option Addr) (c1 c2 : Nat) (xs ys : List ByteArray) (w : World) (h1 : SS w a1 xs) (h2 : SS w a2 ys) (n1 : xs.length ≤ 1048576) (t1 : tot xs ≤ 1048576) (n2 : ys.length ≤ 1048576) (t2 : tot ys ≤ 1048576) :
    Calls Try.prog 33 #[.slice a1 xs.length c1, .slice a2 ys.length c2] w fun e w' => e = .returned (.int .i64 (asked xs ys)) ∧ w' = w := by
  have hX := fun w h => specLinesFault a1 c1 xs w h n1 t1
  have hY := fun w h => specLinesFault a2 c2 ys w h n2 t2
  by_cases hx : lf xs = 0
  · have hA : Hid (asked xs ys = lf ys) := asked_right hx
    rw [hx] at hX
    clear hx
    go_enter Try.func33, Try.ntmps33
    go_wp2_with fail
    refine (hX _ h1).mono ?_; rintro e w ⟨rfl, rfl⟩
    go_wp2_with fail
    refine (hY _ h2).mono ?_; rintro e w ⟨rfl, rfl⟩
    go_wp2_with fail
    go_ret
    exact ⟨ret_int hA.out.symm, rfl⟩
  · have hA : Hid (asked xs ys = lf xs) := asked_left hx
    have hb := ne_beq hx
    obtain ⟨v, hv⟩ : ∃ v, lf xs = v := ⟨_, rfl⟩
    rw [hv] at hX hA hb
    clear hx hv
    go_enter Try.func33, Try.ntmps33
    go_wp2_with fail
    refine (hX _ h1).mono ?_; rintro e w ⟨rfl, rfl⟩
    go_wp2_with fail
    go_ret
    exact ⟨ret_int hA.out.symm, rfl⟩

end Go.Proofs.Yticagabnaibmgaa
