/- Contracts of the library that are laid at this program: Tryd.stringslite_Clone. No statement is proved here. -/
import Derived.Shelf.Small.Strs
import Derived.Shelf.LaysM
import Derived.Shelf.Strconv.Clone
import Derived.Shelf.Strings.Search1
import Derived.Shelf.Sort.Plain
import Derived.Shelf.Slices.CompactS
import Derived.Shelf.Slices.In.SortNone
import Derived.Test.YtaggjnaogmhfpaaDoorProg
import Derived.Test.YtaggjnaogmhfpaaDoorRows
import Derived.Test.YtaggjnaogmhfpaaDoorLemQ
import Derived.Test.YtaggjnaogmhfpaaDoorDTabQ
import Derived.WalkKit
import Derived.ProofKit
import Derived.Below
import Derived.WalkSpells
import Derived.Maps.AppendAt
namespace Go.Proofs
open Go.Shelf
def Tryd.laysM316_ren : Go.Shelf.Ren := ⟨fun | 316 => 53 | n => n, fun | 9 => 9 | 3 => 3 | 4 => 4 | 37 => 81 | 0 => 0 | 127 => 94 | 5 => 5 | n => n, fun | n => n⟩
theorem Tryd.laysM316 : Go.Proofs.LaysM.n316 Tryd.prog Tryd.laysM316_ren := {
  mixed := by kernel_rfl
  f316 := Tryd.func53.trans (congrArg some (by kernel_rfl))
  t0 := Tryd.underlying0
  a0 := Tryd.isAgg0
  z0 := Tryd.sizeOf0
  v0 := Tryd.zeroValue0
  t3 := Tryd.underlying3
  a3 := Tryd.isAgg3
  z3 := Tryd.sizeOf3
  v3 := Tryd.zeroValue3
  t4 := Tryd.underlying4
  a4 := Tryd.isAgg4
  z4 := Tryd.sizeOf4
  v4 := Tryd.zeroValue4
  t9 := Tryd.underlying9
  a9 := Tryd.isAgg9
  z9 := Tryd.sizeOf9
  v9 := Tryd.zeroValue9
  t37 := Tryd.underlying81
  a37 := Tryd.isAgg81
  z37 := Tryd.sizeOf81
  v37 := Tryd.zeroValue81
  t127 := Tryd.underlying94
  a127 := Tryd.isAgg94
  z127 := Tryd.sizeOf94
  v127 := Tryd.zeroValue94
  t5 := Tryd.underlying5
  a5 := Tryd.isAgg5
  z5 := Tryd.sizeOf5
  v5 := Tryd.zeroValue5
  i0 := by kernel_rfl
  i3 := by kernel_rfl
  i4 := by kernel_rfl
  i5 := by kernel_rfl
  i9 := by kernel_rfl
  i37 := by kernel_rfl
  i127 := by kernel_rfl }
open Go.RowKit in
theorem Tryd.stringslite_Clone (s : ByteArray) (w : World) (hlim : s.size ≤ 281474976710656) :
    Calls Tryd.prog 53 #[.string s] w fun e w' => e = .returned (.string s) ∧ Below w.heap.size w w' := Any.stringslite_Clone Tryd.laysM316 s w hlim
end Go.Proofs
/- The contract of impl.appendCopies: lines that are copied behind others. No statement is proved here. -/
namespace Go.Proofs.YtaggjnaogmhfpaaDoor
open Go.ChangeShapes Go.WideShapes Go.ChangeAt Go.RowKit

theorem cloneS (s : ByteArray) (w : World) (hlim : s.size ≤ 281474976710656) :
    Calls Tryd.prog 31 #[.string s] w fun e w' => e = .returned (.string s) ∧ Below w.heap.size w w' := by
  go_enter Tryd.func31, Tryd.ntmps31
  go_wp2_with (go_at_call 53; refine (Tryd.stringslite_Clone _ _ hlim).mono ?_; rintro e w' ⟨rfl, hb⟩)
  go_ret
  exact ⟨rfl, hb⟩
theorem take_map_snoc (ss ms : List ByteArray) (k : Nat) (h : k < ms.length) : (ss ++ ms.take (k + 1)).map Value.string = (ss ++ ms.take k).map Value.string ++ [.string (ms.getD k ByteArray.empty)] := by
  rw [List.take_succ_eq_append_getElem h, ← List.append_assoc, List.map_append, getD_at ms k h]; rfl
theorem grownNew {a b c : World} {row row' : Option Nat} (h : a.grownBy b row) (g : b.grownBy c row') (hr : ∀ j, row' = some j → row = some j ∨ a.heap.size ≤ j) : a.grownBy c row :=
  ⟨g.os.trans h.os, g.tape.trans h.tape, g.output.trans h.output, Nat.le_trans h.size g.size, fun k hk hne => (g.block k (Nat.lt_of_lt_of_le hk h.size) (fun e => by
    rcases hr k e.symm with h' | h'
    · exact hne h'.symm
    · omega)).trans (h.block k hk hne)⟩
/-- A row of the lines zs; of the old blocks the old row's alone may have turned. -/
def CopiesPost (base n : Nat) (v : Value) (zs : List ByteArray) (w : World) (e : Ending) (w' : World) : Prop := ∃ v', e = .returned v' ∧ w'.ownsRow base 9 1 v' n (zs.map Value.string) ∧ w.grownBy w' v.ownBlock ∧ ∀ j, v'.ownBlock = some j → v.ownBlock = some j ∨ w.heap.size ≤ j

theorem segSSB {B : Nat} {w : World} {a : Option Addr} {xs : List ByteArray} (h : SSB B w a xs) (i j c : Nat) (h1 : i ≤ j) (h2 : j ≤ xs.length) (hc : xs.length ≤ c) :
    SSB B w (if c = i then a else a.map (·.add i)) ((xs.drop i).take (j - i)) := by
  have hl : ((xs.drop i).take (j - i)).length = j - i := by rw [List.length_take, List.length_drop]; omega
  have hg : ∀ k, k < j - i → ((xs.drop i).take (j - i)).getD k ByteArray.empty = xs.getD (i + k) ByteArray.empty := by
    intro k hk
    simp [List.getD, hk]
  refine ⟨fun k hk => ?_, fun k hk => ?_⟩
  · rw [hl] at hk
    rw [hg k hk]; exact h.1 (i + k) (by omega)
  · rw [hl] at hk
    obtain ⟨b, off, e, hb, hcell⟩ := h.2 (i + k) (by omega)
    subst e
    refine ⟨b, off + i, ?_, hb, ?_⟩
    · rw [if_neg (by omega), Option.map_some, add_plain]
    · rw [hg k hk, Nat.add_assoc]; exact hcell
theorem seg_small {xs : List ByteArray} {Z : Nat} (hz : ∀ x ∈ xs, x.size ≤ Z) (i j : Nat) : ∀ k, k < ((xs.drop i).take (j - i)).length → (((xs.drop i).take (j - i)).getD k ByteArray.empty).size ≤ Z := by
  intro k hk
  rw [getD_at _ k hk]
  exact hz _ (List.mem_of_mem_drop (List.mem_of_mem_take (List.getElem_mem hk)))
end Go.Proofs.YtaggjnaogmhfpaaDoor
