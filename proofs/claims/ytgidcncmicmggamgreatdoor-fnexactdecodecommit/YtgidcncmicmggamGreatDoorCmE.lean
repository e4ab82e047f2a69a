/- The contract of the program's encode, at a commit, and of CommitFault. No statement is proved here. -/
import Derived.Test.YtgidcncmicmggamGreatDoorRows
import Derived.Test.YtgidcncmicmggamGreatDoorLem
import Derived.Test.YtgidcncmicmggamGreatDoorStrs
import Derived.Test.YtgidcncmicmggamGreatDoorIn
import Derived.Test.YtgidcncmicmggamGreatDoorDTab
import Derived.Test.YtgidcncmicmggamGreatDoorOwn
import Derived.Test.YtgidcncmicmggamGreatDoorFr
import Derived.Test.YtgidcncmicmggamGreatDoorHkT
import Derived.Test.YtgidcncmicmggamGreatDoorIdL
import Derived.Test.YtgidcncmicmggamGreatDoorTgC
import Derived.Test.YtgidcncmicmggamGreatDoorTeL
import Derived.Test.YtgidcncmicmggamGreatDoorTrC
import Derived.Test.YtgidcncmicmggamGreatDoorJnC
import Derived.Test.YtgidcncmicmggamGreatDoorWwC
import Derived.Test.YtgidcncmicmggamGreatDoorBldG
import Derived.Test.YtgidcncmicmggamGreatDoorWwG
import Derived.Test.YtgidcncmicmggamGreatDoorNtC
import Derived.Test.YtgidcncmicmggamGreatDoorHdC
import Derived.Test.YtgidcncmicmggamGreatDoorCfS
import Derived.Test.YtgidcncmicmggamGreatDoorFiC
import Derived.Test.YtgidcncmicmggamGreatDoorSplLem
import Derived.Test.YtgidcncmicmggamGreatDoorTF
import Derived.Test.YtgidcncmicmggamGreatDoorBldF
import Derived.Test.YtgidcncmicmggamGreatDoorTrW
import Derived.Test.YtgidcncmicmggamGreatDoorWcC
import Derived.Test.YtgidcncmicmggamGreatDoorWcD
import Derived.Test.YtgidcncmicmggamGreatDoorWcE
import Derived.Test.YtgidcncmicmggamGreatDoorCmT
import Derived.Test.YtgidcncmicmggamGreatDoorAsC
import Derived.Test.YtgidcncmicmggamGreatDoorAsD
import Derived.Test.YtgidcncmicmggamGreatDoorCdC
import Derived.Stop.Asserts
import Derived.WalkKit
import Derived.ProofKit
import Derived.Below
import Derived.WalkSpells
import Derived.Deep.RegionWith
import Derived.Deep.QuietTactic
import Derived.BigQuiet
namespace Go.Proofs.YtgidcncmicmggamGreatDoor
open Go.ChangeShapes Go.WideShapes Go.ChangeAt Go.RowKit

theorem noTree (v : Value) (xT : TypeId) (w : World) : (Instr.typeAssert (.iface 110 v) xT 192 true).run Tryz.prog w = .ok (.tuple #[.slice none 0 0, .bool false]) w := by kernel_rfl
theorem isCommit (v : Value) (xT : TypeId) (w : World) : (Instr.typeAssert (.iface 110 v) xT 110 true).run Tryz.prog w = .ok (.tuple #[v, .bool true]) w := by kernel_rfl
def cmB (t : ByteArray) (ps : List ByteArray) (tm : Int) (no : ByteArray) : ByteArray := ⟨(cmL t ps tm no).toArray⟩
theorem cmF_zero {t : ByteArray} {ps : List ByteArray} {tm : Int} {no : ByteArray} (h : cmF t ps tm no = 0) : hd t ps = 0 ∧ inB tm 0 1000000000 = true ∧ nt no = true := by
  by_cases h0 : hd t ps = 0
  · cases ht : inB tm 0 1000000000 with
    | false => rw [cmF_time h0 ht] at h; omega
    | true =>
      cases hn : nt no with
      | false => rw [cmF_note h0 ht hn] at h; omega
      | true => exact ⟨h0, rfl, rfl⟩
  · rw [cmF_head h0] at h; exact absurd h h0
/-- What encode answers. -/
def EC (t : ByteArray) (ps : List ByteArray) (tm : Int) (no : ByteArray) (e : Ending) : Prop :=
  (cmF t ps tm no = 0 ∧ e = .returned (.tuple #[.string (cmB t ps tm no), .nilIface])) ∨ (¬ cmF t ps tm no = 0 ∧ e = .returned (.tuple #[.string ⟨#[]⟩, .iface 98 (.agg #[.int .i64 (cmF t ps tm no)])]))
theorem ec_fault {t : ByteArray} {ps : List ByteArray} {tm : Int} {no : ByteArray} {c : Int} (h : cmF t ps tm no = c) (hc : ¬ c = 0) : EC t ps tm no (.returned (.tuple #[.string ⟨#[]⟩, .iface 98 (.agg #[.int .i64 c])])) := by
  subst h
  exact .inr ⟨hc, rfl⟩
theorem writeCommit (b : Nat) (t : ByteArray) (a : Option Addr) (c : Nat) (ps : List ByteArray) (tm : Int) (no : ByteArray) (w : World) (hb : w.heap[b]? = some (.cells #[.pointer none, .slice none 0 0] 211 (0, 0))) (hbw : b < w.heap.size) (h : SSB b w a ps) (hc : ps.length ≤ c) (hn : ps.length ≤ 1048576) (hT : TaG w) (hgB : 6 < b) :
    Calls Tryz.prog 148 #[.pointer (some ⟨b, 0, none⟩), .agg #[.string t, .slice a ps.length c, .int .i64 tm, .string no]] w fun e w' => WC b t ps tm no w e w' := by
  by_cases hf : cmF t ps tm no = 0
  · obtain ⟨h0, h1, h2⟩ := cmF_zero hf
    refine (writeCommit_ok b t a c ps tm no w hb hbw h hc hT hgB h0 h1 h2).mono ?_
    rintro e w' ⟨rfl, T, B⟩
    exact ⟨B, .inl ⟨hf, rfl, T⟩⟩
  · exact writeCommit_faults b t a c ps tm no w hbw (h.toSS (by omega)) hc hn hf

set_option maxRecDepth 20000 in
set_option maxHeartbeats 2000000 in
theorem encodeCommit (t : ByteArray) (a : Option Addr) (c : Nat) (ps : List ByteArray) (tm : Int) (no : ByteArray) (w : World) (h : SS w a ps) (hc : ps.length ≤ c) (hn : ps.length ≤ 1048576) (hTa : TaG w) (hgB : 6 < w.heap.size) :
    Calls Tryz.prog 105 #[.iface 110 (.agg #[.string t, .slice a ps.length c, .int .i64 tm, .string no])] w fun e w' => Below w.heap.size w w' ∧ EC t ps tm no e := by
  have hA0 := fun xT w => noTree (.agg #[.string t, .slice a ps.length c, .int .i64 tm, .string no]) xT w
  have hA := fun xT w => isCommit (.agg #[.string t, .slice a ps.length c, .int .i64 tm, .string no]) xT w
  obtain ⟨W1, hW1⟩ : ∃ W, w.alloc (.cells #[.pointer none, .slice none 0 0] 211) = W := ⟨_, rfl⟩
  have b1 : Below w.heap.size w W1 := by rw [← hW1]; exact allocBelow _ _
  have hh1 : W1.heap[w.heap.size]? = some (.cells #[.pointer none, .slice none 0 0] 211 (0, 0)) := by rw [← hW1]; exact heap_alloc_new w _
  have z1 : w.heap.size < W1.heap.size := by rw [← hW1]; simp
  obtain ⟨W2, hW2⟩ : ∃ W, W1.alloc (.cells #[.string t, .slice a ps.length c, .int .i64 tm, .string no] 110) = W := ⟨_, rfl⟩
  have b2 : Below W1.heap.size W1 W2 := by rw [← hW2]; exact allocBelow _ _
  have r2 : Rf W2 W1.heap.size [.string t, .slice a ps.length c, .int .i64 tm, .string no] := by rw [← hW2]; exact Rf.new _ _ _
  have c0 := r2.at_ 0 _ rfl
  have c1 := r2.at_ 1 _ rfl
  have c2 := r2.at_ 2 _ rfl
  have c3 := r2.at_ 3 _ rfl
  have B12 : Below w.heap.size w W2 := b1.trans (b2.mono b1.size)
  have hS2 : SSB w.heap.size W2 a ps := h.toB.below B12
  have hW := writeCommit w.heap.size t a c ps tm no W2 ((b2.block _ z1).trans hh1) (by have := b2.size; omega) hS2 hc hn (hTa.below B12 hgB) hgB
  clear r2 hh1 z1 b1 b2 hS2
  go_enter Tryz.func105, Tryz.ntmps105
  go_wp2_with fail
  refine hW.mono ?_
  rintro e w2 ⟨b2, he⟩
  have B2 : Below w.heap.size w w2 := B12.trans b2
  clear c0 c1 c2 c3 b2 B12 hW
  rcases he with ⟨h0, rfl, T2⟩ | ⟨h0, rfl⟩
  · clear hW1 hW2 hA hA0
    obtain ⟨k0, k1, k2⟩ := cmF_zero h0
    have hsB : (cmB t ps tm no).size ≤ 1048576 ∧ tf (cmB t ps tm no) = 0 := by
      have htf : tf (cmB t ps tm no) = 0 := tf_commit k0 k1 k2
      refine ⟨?_, htf⟩
      by_cases hbig : 2000 < ((cmB t ps tm no).size : Int)
      · rw [tf_many (Or.inl hbig)] at htf; omega
      · omega
    have hS := bString w.heap.size w.heap.size (cmL t ps tm no) w2 T2 B2.size
    go_wp2_with fail
    refine hS.mono ?_
    rintro e w3 ⟨rfl, T3, b3⟩
    have B3 : Below w.heap.size w w3 := B2.trans b3
    have hX := implTextFault (cmB t ps tm no) w3 hsB.1
    rw [hsB.2] at hX
    clear hS
    go_wp2_with fail
    refine hX.mono ?_
    rintro e w4 ⟨rfl, b4⟩
    have B4 : Below w.heap.size w w4 := B3.trans (b4.mono B3.size)
    have T4 : TB w.heap.size w.heap.size (cmL t ps tm no) w4 := TB.below T3 b4
    have hS := bString w.heap.size w.heap.size (cmL t ps tm no) w4 T4 B4.size
    clear T2 T3 b3 b4 hX
    go_wp2_with fail
    refine hS.mono ?_
    rintro e w5 ⟨rfl, T5, b5⟩
    have B5 : Below w.heap.size w w5 := B4.trans b5
    clear hS T5 b5 T4
    go_wp2
    go_ret2
    exact ⟨B5, .inl ⟨h0, rfl⟩⟩
  · obtain ⟨X, hXe⟩ : ∃ X, cmF t ps tm no = X := ⟨_, rfl⟩
    have HT : Hid (cmF t ps tm no = X) := hXe
    rw [hXe] at h0 ⊢
    clear hW1 hW2 hA hA0 hXe
    go_wp2
    go_ret2
    exact ⟨B2, ec_fault HT.out h0⟩
end Go.Proofs.YtgidcncmicmggamGreatDoor
