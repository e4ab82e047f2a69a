/- The contracts of ClashText (the program's and the specification's). No statement is proved here. -/
import Derived.Test.YtkeinpobngfioaaRows
import Derived.Test.YtkeinpobngfioaaLemQ
import Derived.Test.YtkeinpobngfioaaLFLemQ
import Derived.Test.YtkeinpobngfioaaHkTQ
import Derived.Test.YtkeinpobngfioaaDTabQ
import Derived.Test.YtkeinpobngfioaaBldQ
import Derived.Test.YtkeinpobngfioaaCkLQ
import Derived.Test.YtkeinpobngfioaaCkCQ
import Derived.Test.YtkeinpobngfioaaCkBQ
import Derived.Test.YtkeinpobngfioaaRtMQ
import Derived.Test.YtkeinpobngfioaaCtCQ
import Derived.WalkKit
import Derived.ProofKit
import Derived.Below
import Derived.WalkSpells
import Derived.Laws.Concat
import Derived.Deep.QuietTactic
import Derived.BigQuiet
namespace Go.Proofs.Ytkeinpobngfioaa
open Go.ChangeShapes Go.WideShapes Go.ChangeAt Go.RowKit

theorem ret_str {a b : ByteArray} (h : a = b) : Ending.returned (.string a) = .returned (.string b) := by rw [h]
/-- Lines that can be read, and are right by themselves. -/
def OKs (W : World) (a : Option Addr) (ss : List ByteArray) : Prop := (∀ n, SS (W.drewN n) a ss) ∧ ss.length ≤ 1048576 ∧ tot ss ≤ 1048576 ∧ wh ss = true
def clashB (b o t : List ByteArray) : ByteArray := ⟨(clashL b o t).toArray⟩
/-- What ClashText answers. -/
def ctOK (x0 : Int) (x1 x2 x3 : List ByteArray) : Bool := decide (x0 = 4) && (decide (kd x1 x2 x3 = 4) && (wh x1 && (wh x2 && wh x3)))
def ctC (x0 : Int) (x1 x2 x3 : List ByteArray) : Int := if ctOK x0 x1 x2 x3 = true then 0 else 1
def ctT (x0 : Int) (x1 x2 x3 : List ByteArray) : ByteArray := if ctOK x0 x1 x2 x3 = true then clashB x1 x2 x3 else ⟨#[]⟩
def WQ (W : World) (a : Option Addr) (ss : List ByteArray) (b : Bool) : Prop := (∀ n, SS (W.drewN n) a ss) ∧ ss.length ≤ 1048576 ∧ wh ss = b
theorem ret_text2 {c d : Int} {s t : ByteArray} (h : c = d) (k : s = t) : Ending.returned (.agg #[.int .i64 c, .string s]) = .returned (.agg #[.int .i64 d, .string t]) := by rw [h, k]
theorem Res2.belowB {W w' : World} {p n : Nat} {u v : Value} (h : Res2 W p u v) (hp : p < W.heap.size) (hb : Below (W.drewN n).heap.size (W.drewN n) w') : Res2 w' p u v := by
  have h1 : Res2 (W.drewN n) p u v := ⟨h.c0, h.c1, h.f0, h.f1⟩
  exact h1.below hp hb
end Go.Proofs.Ytkeinpobngfioaa
/- The text of merged chunks: the program's way and the specification's, told as one. Plain mathematics. No statement is proved here. -/
namespace Go.Proofs.Ytkeinpobngfioaa
open Go.ChangeShapes Go.WideShapes Go.ChangeAt Go.RowKit

/-- What a merge takes of a chunk. -/
def pts (c : Ck) : List ByteArray := if c.1 = 4 then [clashB c.2.1 c.2.2.1 c.2.2.2] else if c.1 = 2 then c.2.2.2 else c.2.2.1
def ptsA (l : List Ck) : List ByteArray := l.flatMap pts
theorem ptsA_take (l : List Ck) (k : Nat) (h : k < l.length) : ptsA (l.take (k + 1)) = ptsA (l.take k) ++ pts (l.getD k cnil) := by
  unfold ptsA
  rw [List.take_succ_eq_append_getElem h, List.flatMap_append]
  simp [List.getD, h]
theorem putP_app (l : List UInt8) (a b : List ByteArray) : putP l (a ++ b) = putP (putP l a) b := by
  unfold putP; rw [List.foldl_append]
/-- The parts joined as the specification joins them: a line feed behind a part that lacks it, where another one follows. -/
def jnF : List ByteArray → List UInt8
  | [] => []
  | [s] => s.data.toList
  | s :: t :: r => endL s ++ jnF (t :: r)
theorem putP_jn : ∀ (ss : List ByteArray) (l : List UInt8), (∀ s ∈ ss, s.data.toList ≠ []) → ss ≠ [] → putP l ss = closeL l ++ jnF ss := by
  intro ss
  induction ss with
  | nil => intro l _ h; exact absurd rfl h
  | cons s r ih =>
    intro l h _
    cases r with
    | nil => rfl
    | cons t r =>
      have e : putP l (s :: t :: r) = putP (closeL l ++ s.data.toList) (t :: r) := rfl
      rw [e, ih _ (fun x hx => h x (List.mem_cons_of_mem _ hx)) (by simp), closeL_app _ _ (h s (List.mem_cons_self ..)), jnF, List.append_assoc]
theorem putP_join (ss : List ByteArray) (h : ∀ s ∈ ss, s.data.toList ≠ []) : putP [] ss = jnF ss := by
  by_cases e : ss = []
  · subst e; rfl
  · rw [putP_jn ss [] h e]
    have : closeL [] = [] := by unfold closeL; rw [if_pos rfl]
    rw [this, List.nil_append]
/-- The specification's text behind k parts. -/
def jnK (ss : List ByteArray) (k : Nat) : List UInt8 := if k = ss.length then jnF ss else endAll (ss.take k)
theorem jnF_snoc : ∀ (ss : List ByteArray) (s : ByteArray), jnF (ss ++ [s]) = endAll ss ++ s.data.toList := by
  intro ss
  induction ss with
  | nil => intro s; rfl
  | cons a r ih =>
    intro s
    cases r with
    | nil => simp [jnF, endAll]
    | cons b r =>
      have e : (a :: b :: r) ++ [s] = a :: b :: (r ++ [s]) := rfl
      rw [e, jnF]
      have := ih s
      rw [List.cons_append] at this
      rw [this]
      simp [endAll]
theorem jnK_zero (ss : List ByteArray) : jnK ss 0 = [] := by
  unfold jnK
  split
  · rename_i h
    have e : ss = [] := List.length_eq_zero_iff.1 h.symm
    subst e; rfl
  · simp [endAll]
theorem jnK_full (ss : List ByteArray) : jnK ss ss.length = jnF ss := if_pos rfl
/-- One part more, another one behind it. -/
theorem jnK_mid {ss : List ByteArray} {k : Nat} (h : k + 1 < ss.length) : jnK ss (k + 1) = jnK ss k ++ endL (ss.getD k ByteArray.empty) := by
  unfold jnK
  rw [if_neg (by omega), if_neg (by omega), endAll_take ss k (by omega)]
/-- The last part. -/
theorem jnK_last {ss : List ByteArray} {k : Nat} (h : k + 1 = ss.length) : jnK ss (k + 1) = jnK ss k ++ (ss.getD k ByteArray.empty).data.toList := by
  unfold jnK
  rw [if_pos h, if_neg (by omega)]
  have e : ss = ss.take k ++ [ss.getD k ByteArray.empty] := by
    have hk : k < ss.length := by omega
    have h1 := List.take_succ_eq_append_getElem hk
    rw [h, List.take_length] at h1
    rw [List.getD, List.getElem?_eq_getElem hk]
    exact h1
  conv => lhs; rw [e]
  rw [jnF_snoc]
theorem tot_snoc' (t : List ByteArray) (s : ByteArray) : tot (t ++ [s]) = tot t + (s.size : Int) := by
  have h := tot_take (t ++ [s]) t.length (by simp)
  have e1 : (t ++ [s]).take (t.length + 1) = t ++ [s] := List.take_of_length_le (by simp)
  have e2 : (t ++ [s]).take t.length = t := by simp
  have e3 : (t ++ [s]).getD t.length ByteArray.empty = s := by simp [List.getD]
  rw [e1, e2, e3] at h
  exact h
theorem jnK_len (ss : List ByteArray) (k : Nat) : ((jnK ss k).length : Int) ≤ tot ss + ss.length := by
  have h1 : ∀ n, ((endAll (ss.take n)).length : Int) ≤ tot (ss.take n) + (ss.take n).length := fun n => endAll_le _
  unfold jnK
  split
  · cases e : ss with
    | nil => exact Int.le_of_eq rfl
    | cons a r =>
      obtain ⟨t, s, hs⟩ : ∃ t s, a :: r = t ++ [s] := ⟨(a :: r).dropLast, (a :: r).getLast (by simp), (List.dropLast_concat_getLast (by simp)).symm⟩
      rw [hs, jnF_snoc, List.length_append, tot_snoc', List.length_append]
      have := endAll_le t
      have h2 : (s.data.toList.length : Int) = s.size := by rw [Array.length_toList]; rfl
      simp only [List.length_singleton]
      omega
  · have := h1 k
    have h2 := tot_split ss k
    have h3 := tot_nonneg (ss.drop k)
    have h4 : (ss.take k).length ≤ ss.length := by rw [List.length_take]; omega
    omega
end Go.Proofs.Ytkeinpobngfioaa
