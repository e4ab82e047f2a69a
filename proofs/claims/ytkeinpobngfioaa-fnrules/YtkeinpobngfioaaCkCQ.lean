/- The contracts of what ChunksFault calls: the kind of lines, and whether nothing is in a chunk. No statement is proved here. -/
import Derived.Test.YtkeinpobngfioaaRows
import Derived.Test.YtkeinpobngfioaaLemQ
import Derived.Test.YtkeinpobngfioaaLFLemQ
import Derived.Test.YtkeinpobngfioaaHkTQ
import Derived.Test.YtkeinpobngfioaaSameCQ
import Derived.Test.YtkeinpobngfioaaDTabQ
import Derived.Test.YtkeinpobngfioaaCkLQ
import Derived.WalkKit
import Derived.ProofKit
import Derived.Below
import Derived.WalkSpells
import Derived.Deep.QuietTactic
import Derived.BigQuiet
import Derived.ChangeKeysEq
namespace Go.Proofs.Ytkeinpobngfioaa
open Go.ChangeShapes Go.WideShapes Go.ChangeAt Go.RowKit

theorem drewB {B : Nat} {a w : World} (h : Below B a w) (n : Nat) : Below B a (w.drewN n) := below_drewN' h n

set_option maxHeartbeats 2000000 in
theorem l4KindQ (a1 a2 a3 : Option Addr) (c1 c2 c3 : Nat) (b o t : List ByteArray) (w : World) (h1 : SS w a1 b) (h2 : SS w a2 o) (h3 : SS w a3 t) (n1 : b.length ≤ 1048576) (n2 : o.length ≤ 1048576) (n3 : t.length ≤ 1048576) :
    Calls Try.prog 57 #[.slice a1 b.length c1, .slice a2 o.length c2, .slice a3 t.length c3] w fun e w' => e = .returned (.int .i64 (kd b o t)) ∧ ∃ n, w' = w.drewN n := by
  have H1 := fun W p q => Same.specSameLines a1 a2 c1 c2 b o W p q n1 n2
  have H2 := fun W p q => Same.specSameLines a1 a3 c1 c3 b t W p q n1 n3
  have H3 := fun W p q => Same.specSameLines a2 a3 c2 c3 o t W p q n2 n3
  cases e1 : eqB b o with
  | true =>
    cases e2 : eqB b t with
    | true =>
      have K : Hid (kd b o t = 0) := kd_same e1 e2
      rw [e1] at H1; rw [e2] at H2
      clear e1 e2 H3
      go_enter Try.func57, Try.ntmps57
      go_wp2_with fail
      refine (H1 _ h1 h2).mono ?_; rintro e w1 ⟨rfl, m1, rfl⟩
      go_wp2_with fail
      refine (H2 _ (h1.drewN _) (h3.drewN _)).mono ?_; rintro e w2 ⟨rfl, m2, rfl⟩
      go_wp2_with fail
      go_ret
      exact ⟨ret_int K.out.symm, _, rfl⟩
    | false =>
      have K : Hid (kd b o t = 2) := kd_theirs e1 e2
      rw [e1] at H1; rw [e2] at H2
      clear e1 e2 H3
      go_enter Try.func57, Try.ntmps57
      go_wp2_with fail
      refine (H1 _ h1 h2).mono ?_; rintro e w1 ⟨rfl, m1, rfl⟩
      go_wp2_with fail
      refine (H2 _ (h1.drewN _) (h3.drewN _)).mono ?_; rintro e w2 ⟨rfl, m2, rfl⟩
      go_wp2_with fail
      go_ret
      exact ⟨ret_int K.out.symm, _, rfl⟩
  | false =>
    cases e2 : eqB b t with
    | true =>
      have K : Hid (kd b o t = 1) := kd_ours e1 e2
      rw [e1] at H1; rw [e2] at H2
      clear e1 e2 H3
      go_enter Try.func57, Try.ntmps57
      go_wp2_with fail
      refine (H1 _ h1 h2).mono ?_; rintro e w1 ⟨rfl, m1, rfl⟩
      go_wp2_with fail
      refine (H2 _ (h1.drewN _) (h3.drewN _)).mono ?_; rintro e w2 ⟨rfl, m2, rfl⟩
      go_wp2_with fail
      go_ret
      exact ⟨ret_int K.out.symm, _, rfl⟩
    | false =>
      cases e3 : eqB o t with
      | true =>
        have K : Hid (kd b o t = 3) := kd_both e1 e2 e3
        rw [e1] at H1; rw [e2] at H2; rw [e3] at H3
        clear e1 e2 e3
        go_enter Try.func57, Try.ntmps57
        go_wp2_with fail
        refine (H1 _ h1 h2).mono ?_; rintro e w1 ⟨rfl, m1, rfl⟩
        go_wp2_with fail
        refine (H2 _ (h1.drewN _) (h3.drewN _)).mono ?_; rintro e w2 ⟨rfl, m2, rfl⟩
        go_wp2_with fail
        refine (H3 _ (h2.drewN _) (h3.drewN _)).mono ?_; rintro e w3 ⟨rfl, m3, rfl⟩
        go_wp2_with fail
        go_ret
        exact ⟨ret_int K.out.symm, _, rfl⟩
      | false =>
        have K : Hid (kd b o t = 4) := kd_clash e1 e2 e3
        rw [e1] at H1; rw [e2] at H2; rw [e3] at H3
        clear e1 e2 e3
        go_enter Try.func57, Try.ntmps57
        go_wp2_with fail
        refine (H1 _ h1 h2).mono ?_; rintro e w1 ⟨rfl, m1, rfl⟩
        go_wp2_with fail
        refine (H2 _ (h1.drewN _) (h3.drewN _)).mono ?_; rintro e w2 ⟨rfl, m2, rfl⟩
        go_wp2_with fail
        refine (H3 _ (h2.drewN _) (h3.drewN _)).mono ?_; rintro e w3 ⟨rfl, m3, rfl⟩
        go_wp2_with fail
        go_ret
        exact ⟨ret_int K.out.symm, _, rfl⟩

theorem l4Kind (a1 a2 a3 : Option Addr) (c1 c2 c3 : Nat) (b o t : List ByteArray) (w : World) (h1 : SS w a1 b) (h2 : SS w a2 o) (h3 : SS w a3 t) (n1 : b.length ≤ 1048576) (n2 : o.length ≤ 1048576) (n3 : t.length ≤ 1048576) :
    Calls Try.prog 57 #[.slice a1 b.length c1, .slice a2 o.length c2, .slice a3 t.length c3] w fun e w' => e = .returned (.int .i64 (kd b o t)) ∧ Below w.heap.size w w' :=
  (l4KindQ a1 a2 a3 c1 c2 c3 b o t w h1 h2 h3 n1 n2 n3).mono fun _ _ ⟨he, n, hw⟩ => ⟨he, by rw [hw]; exact drewB (Below.refl _ _) n⟩
theorem quietDrew {P : Program} {f : FuncId} {args : Array Value} {w : World} {n : Nat} {v : Value}
    (h : Calls P f args (w.drewN n) fun e w' => e = .returned v ∧ ∃ m, w' = (w.drewN n).drewN m) : Calls P f args (w.drewN n) fun e w'' => e = .returned v ∧ ∃ m, w'' = w.drewN m :=
  h.mono fun _ _ ⟨he, m, hm⟩ => ⟨he, n + m, by rw [hm, World.drewN_drewN]⟩

/-- How many lines of the first k sides. -/
def lensTo (n1 n2 n3 k : Nat) : List Value := [.int .i64 (if 0 < k then n1 else 0), .int .i64 (if 1 < k then n2 else 0), .int .i64 (if 2 < k then n3 else 0)]
end Go.Proofs.Ytkeinpobngfioaa
