/- The contract of impl.appendCopies: lines that are copied behind others. No statement is proved here. -/
import Derived.Test.YtaggjnaogmhfpaaDoorRows
import Derived.Test.YtaggjnaogmhfpaaDoorLemQ
import Derived.Test.YtaggjnaogmhfpaaDoorDTabQ
import Derived.Test.YtaggjnaogmhfpaaDoorShelfQ
import Derived.WalkKit
import Derived.ProofKit
import Derived.Below
import Derived.WalkSpells
import Derived.Maps.AppendAt
namespace Go.Proofs.YtaggjnaogmhfpaaDoor
open Go.ChangeShapes Go.WideShapes Go.ChangeAt Go.RowKit

theorem cloneS (s : ByteArray) (w : World) (hlim : s.size ≤ 281474976710656) :
    Calls Tryd.prog 31 #[.string s] w fun e w' => e = .returned (.string s) ∧ Below w.heap.size w w' := by
  go_enter Tryd.func31, Tryd.ntmps31
  go_wp2_with (go_at_call 53; refine (Tryd.stringslite_Clone _ _ hlim).mono ?_; rintro e w' ⟨rfl, hb⟩)
  go_ret
  exact ⟨rfl, hb⟩
theorem take_map_snoc (ss ms : List ByteArray) (k : Nat) (h : k < ms.length) : (ss ++ ms.take (k + 1)).map Value.string = (ss ++ ms.take k).map Value.string ++ [.string (ms.getD k ByteArray.empty)] := by
  rw [List.take_succ_eq_append_getElem h, ← List.append_assoc, List.map_append, getD_at ms k h]; rfl
theorem grownNew {a b c : World} {row row' : Option Nat} (h : a.grownBy b row) (g : b.grownBy c row') (hr : ∀ j, row' = some j → row = some j ∨ a.heap.size ≤ j) : a.grownBy c row :=
  ⟨g.os.trans h.os, g.tape.trans h.tape, g.output.trans h.output, Nat.le_trans h.size g.size, fun k hk hne => (g.block k (Nat.lt_of_lt_of_le hk h.size) (fun e => by
    rcases hr k e.symm with h' | h'
    · exact hne h'.symm
    · omega)).trans (h.block k hk hne)⟩
/-- A row of the lines zs; of the old blocks the old row's alone may have turned. -/
def CopiesPost (base n : Nat) (v : Value) (zs : List ByteArray) (w : World) (e : Ending) (w' : World) : Prop := ∃ v', e = .returned v' ∧ w'.ownsRow base 9 1 v' n (zs.map Value.string) ∧ w.grownBy w' v.ownBlock ∧ ∀ j, v'.ownBlock = some j → v.ownBlock = some j ∨ w.heap.size ≤ j

theorem segSSB {B : Nat} {w : World} {a : Option Addr} {xs : List ByteArray} (h : SSB B w a xs) (i j c : Nat) (h1 : i ≤ j) (h2 : j ≤ xs.length) (hc : xs.length ≤ c) :
    SSB B w (if c = i then a else a.map (·.add i)) ((xs.drop i).take (j - i)) := by
  have hl : ((xs.drop i).take (j - i)).length = j - i := by rw [List.length_take, List.length_drop]; omega
  have hg : ∀ k, k < j - i → ((xs.drop i).take (j - i)).getD k ByteArray.empty = xs.getD (i + k) ByteArray.empty := by
    intro k hk
    simp [List.getD, hk]
  refine ⟨fun k hk => ?_, fun k hk => ?_⟩
  · rw [hl] at hk
    rw [hg k hk]; exact h.1 (i + k) (by omega)
  · rw [hl] at hk
    obtain ⟨b, off, e, hb, hcell⟩ := h.2 (i + k) (by omega)
    subst e
    refine ⟨b, off + i, ?_, hb, ?_⟩
    · rw [if_neg (by omega), Option.map_some, add_plain]
    · rw [hg k hk, Nat.add_assoc]; exact hcell
theorem seg_small {xs : List ByteArray} {Z : Nat} (hz : ∀ x ∈ xs, x.size ≤ Z) (i j : Nat) : ∀ k, k < ((xs.drop i).take (j - i)).length → (((xs.drop i).take (j - i)).getD k ByteArray.empty).size ≤ Z := by
  intro k hk
  rw [getD_at _ k hk]
  exact hz _ (List.mem_of_mem_drop (List.mem_of_mem_take (List.getElem_mem hk)))
end Go.Proofs.YtaggjnaogmhfpaaDoor
