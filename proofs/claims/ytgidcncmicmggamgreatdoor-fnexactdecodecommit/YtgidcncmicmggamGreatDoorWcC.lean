/- The contract of the program's writeCommit. No statement is proved here. -/
import Derived.Test.YtgidcncmicmggamGreatDoorRows
import Derived.Test.YtgidcncmicmggamGreatDoorLem
import Derived.Test.YtgidcncmicmggamGreatDoorStrs
import Derived.Test.YtgidcncmicmggamGreatDoorIn
import Derived.Test.YtgidcncmicmggamGreatDoorDTab
import Derived.Test.YtgidcncmicmggamGreatDoorOwn
import Derived.Test.YtgidcncmicmggamGreatDoorFr
import Derived.Test.YtgidcncmicmggamGreatDoorHkT
import Derived.Test.YtgidcncmicmggamGreatDoorIdL
import Derived.Test.YtgidcncmicmggamGreatDoorTgC
import Derived.Test.YtgidcncmicmggamGreatDoorTeL
import Derived.Test.YtgidcncmicmggamGreatDoorTrC
import Derived.Test.YtgidcncmicmggamGreatDoorJnC
import Derived.Test.YtgidcncmicmggamGreatDoorWwC
import Derived.Test.YtgidcncmicmggamGreatDoorBldG
import Derived.Test.YtgidcncmicmggamGreatDoorWwG
import Derived.Test.YtgidcncmicmggamGreatDoorNtC
import Derived.Test.YtgidcncmicmggamGreatDoorHdC
import Derived.Test.YtgidcncmicmggamGreatDoorCfS
import Derived.Test.YtgidcncmicmggamGreatDoorFiC
import Derived.WalkKit
import Derived.ProofKit
import Derived.Below
import Derived.WalkSpells
import Derived.Deep.RegionWith
import Derived.Deep.QuietTactic
import Derived.BigQuiet
namespace Go.Proofs.YtgidcncmicmggamGreatDoor
open Go.ChangeShapes Go.WideShapes Go.ChangeAt Go.RowKit

def wTree : ByteArray := ⟨#[116, 114, 101, 101]⟩
def wPar : ByteArray := ⟨#[112, 97, 114, 101, 110, 116]⟩
def wTime : ByteArray := ⟨#[116, 105, 109, 101]⟩
def wNote : ByteArray := ⟨#[110, 111, 116, 101]⟩
/-- The text of a commit. -/
def cmP (t : ByteArray) (ps : List ByteArray) : List UInt8 := wl [wTree, t] ++ ps.flatMap (fun p => wl [wPar, p])
def cmL (t : ByteArray) (ps : List ByteArray) (tm : Int) (no : ByteArray) : List UInt8 := cmP t ps ++ wl [wTime, itB tm] ++ wl [wNote, no]
/-- What writeCommit answers. -/
def WC (b : Nat) (t : ByteArray) (ps : List ByteArray) (tm : Int) (no : ByteArray) (w : World) (e : Ending) (w' : World) : Prop :=
  Below b w w' ∧ ((cmF t ps tm no = 0 ∧ e = .returned .nilIface ∧ TB b b (cmL t ps tm no) w') ∨ (¬ cmF t ps tm no = 0 ∧ e = .returned (.iface 98 (.agg #[.int .i64 (cmF t ps tm no)]))))
theorem wc_fault {c d : Int} (h : c = d) : Ending.returned (.iface 98 (.agg #[.int .i64 c])) = .returned (.iface 98 (.agg #[.int .i64 d])) := by rw [h]
theorem inB_lo {tm : Int} (h : inB tm 0 1000000000 = true) : 0 ≤ tm ∧ tm ≤ 1000000000 := by
  unfold inB at h
  simp at h
  omega
theorem inB_out {tm : Int} (h : inB tm 0 1000000000 = false) : tm < 0 ∨ 1000000000 < tm := by
  unfold inB at h
  simp at h
  omega

set_option maxRecDepth 20000 in
set_option maxHeartbeats 2000000 in
theorem writeCommit_faults (b : Nat) (t : ByteArray) (a : Option Addr) (c : Nat) (ps : List ByteArray) (tm : Int) (no : ByteArray) (w : World) (hbw : b < w.heap.size) (h : SS w a ps) (hc : ps.length ≤ c) (hn : ps.length ≤ 1048576) (hf : ¬ cmF t ps tm no = 0) :
    Calls Tryz.prog 148 #[.pointer (some ⟨b, 0, none⟩), .agg #[.string t, .slice a ps.length c, .int .i64 tm, .string no]] w fun e w' => WC b t ps tm no w e w' := by
  obtain ⟨W1, hW1⟩ : ∃ W, w.alloc (.cells #[.string t, .slice a ps.length c, .int .i64 tm, .string no] 24) = W := ⟨_, rfl⟩
  have b1 : Below w.heap.size w W1 := by rw [← hW1]; exact allocBelow _ _
  have b1' : Below b w W1 := b1.mono (by omega)
  have r1 : Rf W1 w.heap.size [.string t, .slice a ps.length c, .int .i64 tm, .string no] := by rw [← hW1]; exact Rf.new _ _ _
  have c0 := r1.at_ 0 _ rfl
  have c1 := r1.at_ 1 _ rfl
  have c2 := r1.at_ 2 _ rfl
  have c3 := r1.at_ 3 _ rfl
  have h1 := h.below b1
  have hH := headFault t a c ps W1 h1 hc hn
  have hN := fun w => isNote no w
  clear r1 h1 h
  by_cases h0 : hd t ps = 0
  · rw [h0] at hH
    cases ht : inB tm 0 1000000000 with
    | false =>
      have HR : Hid (cmF t ps tm no = 3) := cmF_time h0 ht
      clear h0 hN
      rcases inB_out ht with q | q
      · clear ht
        go_enter Tryz.func148, Tryz.ntmps148
        go_wp2_with fail
        refine hH.mono ?_; rintro e w2 ⟨rfl, n, rfl⟩
        clear hH
        go_wp2
        go_ret
        exact ⟨below_drewN' b1' _, .inr ⟨hf, wc_fault HR.out.symm⟩⟩
      · have q2 : ¬ tm < 0 := by omega
        clear ht
        go_enter Tryz.func148, Tryz.ntmps148
        go_wp2_with fail
        refine hH.mono ?_; rintro e w2 ⟨rfl, n, rfl⟩
        clear hH
        go_wp2
        go_ret
        exact ⟨below_drewN' b1' _, .inr ⟨hf, wc_fault HR.out.symm⟩⟩
    | true =>
      obtain ⟨q1, q2⟩ := inB_lo ht
      have q3 : ¬ tm < 0 := by omega
      have q4 : ¬ 1000000000 < tm := by omega
      cases hno : nt no with
      | true => exact absurd (cmF_ok h0 ht hno) hf
      | false =>
        have HR : Hid (cmF t ps tm no = 5) := cmF_note h0 ht hno
        rw [hno] at hN
        clear ht h0 hno
        go_enter Tryz.func148, Tryz.ntmps148
        go_wp2_with fail
        refine hH.mono ?_; rintro e w2 ⟨rfl, n, rfl⟩
        clear hH
        go_wp2_with fail
        refine (hN _).mono ?_; rintro e w3 ⟨rfl, rfl⟩
        go_wp2
        go_ret
        exact ⟨below_drewN' b1' _, .inr ⟨hf, wc_fault HR.out.symm⟩⟩
  · have HR : Hid (cmF t ps tm no = hd t ps) := cmF_head h0
    obtain ⟨X, hX⟩ : ∃ X, hd t ps = X := ⟨_, rfl⟩
    rw [hX] at hH HR h0
    have qX : (X != 0) = true := ne_beq h0
    clear hX hN h0
    go_enter Tryz.func148, Tryz.ntmps148
    go_wp2_with fail
    refine hH.mono ?_; rintro e w2 ⟨rfl, n, rfl⟩
    clear hH
    go_wp2
    go_ret
    exact ⟨below_drewN' b1' _, .inr ⟨hf, wc_fault HR.out.symm⟩⟩
end Go.Proofs.YtgidcncmicmggamGreatDoor
