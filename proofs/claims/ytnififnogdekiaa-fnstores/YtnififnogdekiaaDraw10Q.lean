/- The contracts of the specification's l2Two and DrawHunksOf (with capacities, whose rows are whole, and the source behind them) over this seat's program. No statement is proved here. -/
import Derived.Test.YtnififnogdekiaaRows
import Derived.Test.YtnififnogdekiaaLemQ
import Derived.Test.YtnififnogdekiaaMarksQ
import Derived.Test.YtnififnogdekiaaDrawQ
import Derived.Test.YtnififnogdekiaaDraw5Q
import Derived.Test.YtnififnogdekiaaDraw7Q
import Derived.Test.YtnififnogdekiaaDraw8Q
import Derived.WalkKit
import Derived.ProofKit
import Derived.Below
import Derived.WalkSpells
namespace Go.Proofs.Ytnififnogdekiaa
open Go.ChangeShapes Go.WideShapes Go.ChangeAt Go.RowKit

def BentPostD (N b : Nat) (a : Option Addr) (n cap : Nat) (k : Int) (w : World) (e : Ending) (w' : World) : Prop := ∃ (x : Option Addr) (c : Nat) (ss : List ByteArray), e = .returned (.slice x ss.length c) ∧ SS w' x ss ∧ ss.length ≤ 1000 ∧ Small 9 ss ∧ ss.length ≤ c ∧ w.grownBy w' (some b) ∧ (∃ g, x = some ⟨g, 0, none⟩) ∧ ∃ k', Src N w' b a n cap k' ∧ k' ≤ k + 200

def TwoPostD (N b : Nat) (a : Option Addr) (n cap : Nat) (w : World) (e : Ending) (w' : World) : Prop := ∃ (a1 : Option Addr) (c1 : Nat) (xs : List ByteArray) (a2 : Option Addr) (c2 : Nat) (ys : List ByteArray), e = .returned (.tuple #[.slice a1 xs.length c1, .slice a2 ys.length c2]) ∧ SS w' a1 xs ∧ SS w' a2 ys ∧ xs.length ≤ 1000 ∧ ys.length ≤ 1000 ∧ Small 9 xs ∧ Small 9 ys ∧ xs.length ≤ c1 ∧ ys.length ≤ c2 ∧ w.grownBy w' (some b) ∧ (∃ g, a1 = some ⟨g, 0, none⟩) ∧ (∃ g, a2 = some ⟨g, 0, none⟩) ∧ ∃ k', Src N w' b a n cap k' ∧ k' ≤ 1000000

set_option maxHeartbeats 800000 in
theorem l1Pick (N b : Nat) (a : Option Addr) (n cap : Nat) (k : Int) (g m c : Nat) (P : Int → Prop) (w : World) (h : Src N w b a n cap k) (hk : k ≤ 4294967296) (hm : 0 < m) (hm2 : m ≤ 1000) (hg : g ≠ b) (_ : g < w.heap.size)
    (hl : ∀ j, j < m → ∃ v, w.cell? ⟨g, j, none⟩ = some (.int .i64 v) ∧ P v) :
    Calls Try.prog 22 #[.pointer (some ⟨b, 0, none⟩), .slice (some ⟨g, 0, none⟩) m c] w fun e w' => ∃ v, e = .returned (.int .i64 v) ∧ P v ∧ Src N w' b a n cap (k + 1) ∧ w.grownBy w' (some b) := by
  have hlt := h.lt
  go_enter Try.func22, Try.ntmps22
  go_wp2_with fail
  refine (l1Next N b a n cap k m _ h hk).mono ?_; rintro e w2 ⟨r, rfl, hd, hs, gg⟩
  have hd0 := hd.1
  have hd1 : r < m := hd.2.1 (by omega)
  obtain ⟨j, rfl⟩ := Int.eq_ofNat_of_zero_le hd0
  have hj : j < m := by omega
  obtain ⟨v, hv, hP⟩ := hl j hj
  have hv2 : w2.cell? ⟨g, j, none⟩ = some (.int .i64 v) := gg.cell hv (by simp; exact hg)
  clear hd hd0 hl hv
  go_wp2_with fail
  go_ret
  exact ⟨v, rfl, hP, hs, gg⟩
def HoPost (w : World) (e : Ending) (w' : World) : Prop := ∃ (g1 : Nat) (c1 : Nat) (xs : List ByteArray) (g2 : Nat) (c2 : Nat) (ys : List ByteArray) (cx : Int), e = .returned (.tuple #[.slice (some ⟨g1, 0, none⟩) xs.length c1, .slice (some ⟨g2, 0, none⟩) ys.length c2, .int .i64 cx]) ∧ SS w' (some ⟨g1, 0, none⟩) xs ∧ SS w' (some ⟨g2, 0, none⟩) ys ∧ xs.length ≤ 1000 ∧ ys.length ≤ 1000 ∧ tot xs ≤ 9000 ∧ tot ys ≤ 9000 ∧ xs.length ≤ c1 ∧ ys.length ≤ c2 ∧ Below w.heap.size w w'
end Go.Proofs.Ytnififnogdekiaa
