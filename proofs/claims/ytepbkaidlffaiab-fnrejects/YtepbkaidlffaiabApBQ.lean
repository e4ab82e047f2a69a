/- The contract of impl.standsAt, and append of lines that may be nil. No statement is proved here. -/
import Derived.Test.YtepbkaidlffaiabRows
import Derived.Test.YtepbkaidlffaiabLemQ
import Derived.Test.YtepbkaidlffaiabStrsQ
import Derived.Test.YtepbkaidlffaiabLFLemQ
import Derived.Test.YtepbkaidlffaiabLFQ
import Derived.Test.YtepbkaidlffaiabDTabQ
import Derived.Test.YtepbkaidlffaiabOwnQ
import Derived.Test.YtepbkaidlffaiabFrQ
import Derived.Test.YtepbkaidlffaiabSameCQ
import Derived.Test.YtepbkaidlffaiabSpnQ
import Derived.Test.YtepbkaidlffaiabWvCQ
import Derived.Test.YtepbkaidlffaiabHkLQ
import Derived.Test.YtepbkaidlffaiabHkCQ
import Derived.Test.YtepbkaidlffaiabHfCQ
import Derived.Test.YtepbkaidlffaiabHnLQ
import Derived.Test.YtepbkaidlffaiabApCQ
import Derived.WalkKit
import Derived.ProofKit
import Derived.Below
import Derived.WalkSpells
import Derived.Maps.AppendAt
import Derived.Laws.AppendOwnNone
namespace Go.Proofs.Ytepbkaidlffaiab
open Go.ChangeShapes Go.WideShapes Go.ChangeAt Go.RowKit

theorem segAd {a : Option Addr} (ha : ∃ g, a = some ⟨g, 0, none⟩) (c P : Nat) : ∃ AD : Addr, (if c = P then a else Option.map (fun x => x.add P) a) = some AD := by
  obtain ⟨g, rfl⟩ := ha
  by_cases h : c = P
  · exact ⟨_, if_pos h⟩
  · exact ⟨_, by rw [if_neg h]; rfl⟩
/-- append of lines that lie in a row (or of nil) onto a row of lines that is owned. -/
theorem wpList_appS {w : World} {ops : Array Oper} {rest : List Oper} {o : Oper} {a : Act} {Q : Exit → Act → World → Prop} (hgd : o.guard = none) (s x : Operand)
    (ho : o.op = .call { callee := .builtin .append, args := #[s, x], argTypes := #[24, 24] })
    (base b2 : Nat) (v : Value) (S0 : List ByteArray) (hs : a.eval s = v) (hown : w.ownsRow base 9 1 v S0.length (S0.map Value.string))
    (vx : Value) (S1 : List ByteArray) (hx : a.eval x = vx) (hx2 : w.ownsRow b2 9 1 vx S1.length (S1.map Value.string))
    (hb : S0.length + S1.length ≤ 1048576) (hbase : base ≤ w.heap.size)
    (h : ∀ v' w', w'.ownsRow base 9 1 v' (S0 ++ S1).length ((S0 ++ S1).map Value.string) → w.grownBy w' v.ownBlock → (v'.ownBlock = v.ownBlock ∨ v'.ownBlock = some w.heap.size) → wpList Try.prog ops Q rest (a.put o.dst v') w') :
    wpList Try.prog ops Q (o :: rest) a w := by
  obtain ⟨i0, hi, hz0, hz1, hz2⟩ := info_parts infoString
  rcases hx2.2 with ⟨e1, e2⟩ | ⟨g, cap, cur, e1, _⟩
  · have e3 : S1 = [] := List.eq_nil_of_length_eq_zero e2
    subst e3
    refine wpList_append_own_none hgd s x _ ho base _ i0 1 Try.underlying24 hi v _ _ hs hown (by rw [hx, e1]) ?_
    exact h v w (by simpa using hown) (World.grownBy.refl _ _) (.inl rfl)
  · subst e1
    refine wpList_append_own_at _ hgd s x _ ho base _ i0 (.string ByteArray.empty) 1 16 Try.underlying24 hi hz0 hz1 hz2 rfl (by decide) v _ _ hs hown ⟨g, 0, none⟩ S1.length cap (S1.map Value.string) hx (by simp) (hx2.cells (g := g) rfl) (oneStr _) (by unfold maxLen; omega) (by omega) hbase ?_
    intro v' w' o1 g1 _ k1
    refine h v' w' ?_ g1 k1
    rw [List.length_append, List.map_append]; exact o1

theorem SSB.bQ {B Q : Nat} {w w' : World} {a : Option Addr} {ss : List ByteArray} (h : SSB B w a ss) (hb : Below Q w w') (hB : B ≤ Q) : SSB B w' a ss := ⟨h.1, fun j hj => by
  obtain ⟨b, o, e', hb', hc⟩ := h.2 j hj
  exact ⟨b, o, e', hb', (hb.cell (p := ⟨b, o + j, none⟩) (show b < Q by omega)).trans hc⟩⟩
theorem Rs.grown {w w' : World} {b : Nat} {vs : List Value} {row : Option Nat} (h : Rs w b vs) (hg : w.grownBy w' row) (hne : some b ≠ row) : Rs w' b vs := fun k v hk => hg.cell (h k v hk) hne
theorem Rs.below {w w' : World} {b : Nat} {vs : List Value} (h : Rs w b vs) (hb : Below w.heap.size w w') : Rs w' b vs := (Fr.ofBelow (lo := 0) (hi := 0) hb).rs h (.inr (Nat.zero_le _))
theorem ss_drop (ss : List ByteArray) (k : Nat) (h : k < ss.length) : ss.drop k = ss.getD k ByteArray.empty :: ss.drop (k + 1) := by
  rw [List.drop_eq_getElem_cons h, getD_at ss k h]
theorem inSpan_nat (i m n : Nat) : inSpan (i : Int) (m : Int) n = decide (i + m ≤ n) := by
  unfold inSpan
  rw [decide_eq_decide]
  omega
set_option maxHeartbeats 1000000 in
theorem standsAt (a1 a2 : Option Addr) (ha1 : ∃ g, a1 = some ⟨g, 0, none⟩) (c1 c2 i : Nat) (xs os : List ByteArray) (w : World) (h1 : SS w a1 xs) (h2 : SS w a2 os) (k1 : xs.length ≤ c1) (n1 : xs.length ≤ 1048576) (n2 : os.length ≤ 1048576) (ni : i ≤ 1048576) :
    Calls Try.prog 43 #[.slice a1 xs.length c1, .int .i64 (i : Int), .slice a2 os.length c2] w fun e w' => e = .returned (.bool (stBo xs i os)) ∧ ∃ n, w' = w.drewN n := by
  have hS := fun w => spanIsIn (i : Int) (os.length : Int) a1 xs.length c1 w n1 (by omega)
  rw [inSpan_nat] at hS
  by_cases hin : i + os.length ≤ xs.length
  · rw [decide_eq_true hin] at hS
    obtain ⟨A, hA⟩ := segAd ha1 c1 i
    have hs1 := segSSB h1.toB i (i + os.length) c1 (by omega) hin k1
    rw [hA] at hs1
    have hl1 : ((xs.drop i).take (i + os.length - i)).length = os.length := by rw [List.length_take, List.length_drop]; omega
    have hQ := fun c => Same.slicesEqual (some A) a2 c c2 ((xs.drop i).take (i + os.length - i)) os w hs1 h2 (by omega) n2
    have hE : Hid (stBo xs i os = eqB ((xs.drop i).take (i + os.length - i)) os) := by
      show _ = _
      unfold stBo eqB
      rw [decide_eq_decide, Nat.add_sub_cancel_left]
      exact ⟨fun h => h.2, fun h => ⟨hin, h⟩⟩
    obtain ⟨E, hEe⟩ : ∃ E, eqB ((xs.drop i).take (i + os.length - i)) os = E := ⟨_, rfl⟩
    have HE : Hid (stBo xs i os = E) := by show _ = _; rw [hE.out, hEe]
    rw [hl1, hEe] at hQ
    clear hE hEe hs1 hl1
    have q1 : (i : Int) + (os.length : Int) ≤ (xs.length : Int) := by omega
    go_enter Try.func43, Try.ntmps43
    go_wp2_with fail
    refine (hS _).mono ?_; rintro e w1 ⟨rfl, rfl⟩
    go_wp2_with fail
    refine (hQ _).mono ?_; rintro e w2 ⟨rfl, n, rfl⟩
    go_wp2_with fail
    go_ret
    exact ⟨ret_bool HE.out.symm, n, rfl⟩
  · rw [decide_eq_false hin] at hS
    have HE : Hid (stBo xs i os = false) := by
      show _ = _
      exact decide_eq_false fun h => hin h.1
    go_enter Try.func43, Try.ntmps43
    go_wp2_with fail
    refine (hS _).mono ?_; rintro e w1 ⟨rfl, rfl⟩
    go_wp2_with fail
    go_ret
    exact ⟨ret_bool HE.out.symm, 0, rfl⟩
end Go.Proofs.Ytepbkaidlffaiab
