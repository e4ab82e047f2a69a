/- Lists of entries, of files held together by the law; a text that is not among others. No statement is proved here. -/
import Derived.Test.YtipdebodanhooaaDoorRows
import Derived.Test.YtipdebodanhooaaDoorLemQ
import Derived.Test.YtipdebodanhooaaDoorLFLemQ
import Derived.Test.YtipdebodanhooaaDoorDTabQ
import Derived.Test.YtipdebodanhooaaDoorFlLQ
import Derived.Test.YtipdebodanhooaaDoorEnLQ
import Derived.WalkKit
import Derived.ProofKit
import Derived.Below
import Derived.WalkSpells
import Derived.Deep.QuietTactic
import Derived.BigQuiet
import Derived.Deep.RegionWith
import Derived.Deep.RegionHeld
set_option linter.unusedVariables false
namespace Go.Proofs.YtipdebodanhooaaDoor
open Go.ChangeShapes Go.WideShapes Go.ChangeAt Go.RowKit
theorem run_selfE (x0 x3 : ByteArray) (x1 x2 : Int) (w : World) : (Op.equalIn 10000 62 (.agg #[.string x0, .int .i64 x1, .int .i64 x2, .string x3]) (.agg #[.string x0, .int .i64 x1, .int .i64 x2, .string x3])).run Tryd.prog w = .ok true w := by
  have b0 : (x0.toList == x0.toList) = true := beq_bytes_true rfl
  have b3 : (x3.toList == x3.toList) = true := beq_bytes_true rfl
  go_simp
theorem run_selfF (x0 x2 : ByteArray) (x1 : Int) (w : World) : (Op.equalIn 10000 43 (.agg #[.string x0, .int .i64 x1, .string x2]) (.agg #[.string x0, .int .i64 x1, .string x2])).run Tryd.prog w = .ok true w := by
  have b0 : (x0.toList == x0.toList) = true := beq_bytes_true rfl
  have b2 : (x2.toList == x2.toList) = true := beq_bytes_true rfl
  go_simp
set_option maxRecDepth 20000 in
set_option maxHeartbeats 2000000 in
theorem lwEntriesC (a1 a2 : Option Addr) (c1 c2 : Nat) (l : List En.Ob) (w : World) (h1 : En.OB w.heap.size w a1 l) (h2 : En.OB w.heap.size w a2 l) (hn : l.length ≤ 1048576) :
    Calls Tryd.prog 8 #[.slice a1 l.length c1, .slice a2 l.length c2] w fun e w' => e = .returned (.bool true) ∧ ∃ n, w' = w.drewN n := by
  have hne : ((l.length : Int) != (l.length : Int)) = false := by simp
  go_enter Tryd.func8, Tryd.ntmps8
  go_wp2
  go_loopw [5] (fun vi wr => ∃ k : Nat, k ≤ l.length ∧ vi = .int .i64 (k : Int) ∧ ∃ nq, wr = w.drewN nq) (fun vi _ => l.length - (intOf vi).toNat)
  case atStart => exact ⟨0, Nat.zero_le _, rfl, 0, rfl⟩
  case round =>
    obtain ⟨k, hk, rfl, nr, hwr⟩ := hrel
    have HW : Hid (wr = w.drewN nr) := hwr
    by_cases hlt : k < l.length
    · have q : (k : Int) < (l.length : Int) := by omega
      obtain ⟨b1, o1, rfl, _, p0, p1, p2, p3⟩ := h1 k hlt
      obtain ⟨b2, o2, rfl, _, r0, r1, r2, r3⟩ := h2 k hlt
      obtain ⟨C, hC⟩ : ∃ C, l.getD k En.onil = C := ⟨_, rfl⟩
      obtain ⟨x0, x1, x2, x3⟩ := C
      rw [hC] at p0 p1 p2 p3 r0 r1 r2 r3
      simp only [] at p0 p1 p2 p3 r0 r1 r2 r3
      have hE := run_selfE x0 x3 x1 x2
      have P0 := (congrArg (fun u => World.cell? u _) hwr).trans p0
      have R0 := (congrArg (fun u => World.cell? u _) hwr).trans r0
      have P1 := (congrArg (fun u => World.cell? u _) hwr).trans p1
      have R1 := (congrArg (fun u => World.cell? u _) hwr).trans r1
      have P2 := (congrArg (fun u => World.cell? u _) hwr).trans p2
      have R2 := (congrArg (fun u => World.cell? u _) hwr).trans r2
      have P3 := (congrArg (fun u => World.cell? u _) hwr).trans p3
      have R3 := (congrArg (fun u => World.cell? u _) hwr).trans r3
      clear hC hwr p0 p1 p2 p3 r0 r1 r2 r3 h1 h2
      go_wp2_with fail
      go_quiet (fail)
      all_goals
        go_wp2_with fail
        go_roundw
        case rel => exact ⟨k + 1, by omega, by go_num, _, by rw [HW.out, World.drewN_drewN]⟩
        case measure => simp [intOf]; omega
    · have q : ¬ (k : Int) < (l.length : Int) := by omega
      clear hwr
      go_wp2_with fail
      go_ret
      exact ⟨rfl, nr, HW.out⟩
set_option maxRecDepth 20000 in
set_option maxHeartbeats 2000000 in
theorem lwFilesC (a1 a2 : Option Addr) (c1 c2 : Nat) (l : List Fl.Ob) (w : World) (h1 : Fl.OB w.heap.size w a1 l) (h2 : Fl.OB w.heap.size w a2 l) (hn : l.length ≤ 1048576) :
    Calls Tryd.prog 15 #[.slice a1 l.length c1, .slice a2 l.length c2] w fun e w' => e = .returned (.bool true) ∧ ∃ n, w' = w.drewN n := by
  have hne : ((l.length : Int) != (l.length : Int)) = false := by simp
  go_enter Tryd.func15, Tryd.ntmps15
  go_wp2
  go_loopw [5] (fun vi wr => ∃ k : Nat, k ≤ l.length ∧ vi = .int .i64 (k : Int) ∧ ∃ nq, wr = w.drewN nq) (fun vi _ => l.length - (intOf vi).toNat)
  case atStart => exact ⟨0, Nat.zero_le _, rfl, 0, rfl⟩
  case round =>
    obtain ⟨k, hk, rfl, nr, hwr⟩ := hrel
    have HW : Hid (wr = w.drewN nr) := hwr
    by_cases hlt : k < l.length
    · have q : (k : Int) < (l.length : Int) := by omega
      obtain ⟨b1, o1, rfl, _, p0, p1, p2⟩ := h1 k hlt
      obtain ⟨b2, o2, rfl, _, r0, r1, r2⟩ := h2 k hlt
      obtain ⟨C, hC⟩ : ∃ C, l.getD k Fl.onil = C := ⟨_, rfl⟩
      obtain ⟨x0, x1, x2⟩ := C
      rw [hC] at p0 p1 p2 r0 r1 r2
      simp only [] at p0 p1 p2 r0 r1 r2
      have hE := run_selfF x0 x2 x1
      have P0 := (congrArg (fun u => World.cell? u _) hwr).trans p0
      have R0 := (congrArg (fun u => World.cell? u _) hwr).trans r0
      have P1 := (congrArg (fun u => World.cell? u _) hwr).trans p1
      have R1 := (congrArg (fun u => World.cell? u _) hwr).trans r1
      have P2 := (congrArg (fun u => World.cell? u _) hwr).trans p2
      have R2 := (congrArg (fun u => World.cell? u _) hwr).trans r2
      clear hC hwr p0 p1 p2 r0 r1 r2 h1 h2
      go_wp2_with fail
      go_quiet (fail)
      all_goals
        go_wp2_with fail
        go_roundw
        case rel => exact ⟨k + 1, by omega, by go_num, _, by rw [HW.out, World.drewN_drewN]⟩
        case measure => simp [intOf]; omega
    · have q : ¬ (k : Int) < (l.length : Int) := by omega
      clear hwr
      go_wp2_with fail
      go_ret
      exact ⟨rfl, nr, HW.out⟩
set_option maxRecDepth 20000 in
set_option maxHeartbeats 2000000 in
theorem lwHasNo (a : Option Addr) (c : Nat) (xs : List ByteArray) (s : ByteArray) (w : World) (h : SS w a xs) (hn : xs.length ≤ 1048576) (hm : ∀ x ∈ xs, ¬ x = s) :
    Calls Tryd.prog 13 #[.slice a xs.length c, .string s] w fun e w' => e = .returned (.bool false) ∧ ∃ n, w' = w.drewN n := by
  go_enter Tryd.func13, Tryd.ntmps13
  go_wp2
  go_loopw [5] (fun vi wr => ∃ k : Nat, k ≤ xs.length ∧ vi = .int .i64 (k : Int) ∧ ∃ nq, wr = w.drewN nq) (fun vi _ => xs.length - (intOf vi).toNat)
  case atStart => exact ⟨0, Nat.zero_le _, rfl, 0, rfl⟩
  case round =>
    obtain ⟨k, hk, rfl, nr, hwr⟩ := hrel
    have HW : Hid (wr = w.drewN nr) := hwr
    by_cases hlt : k < xs.length
    · have q : (k : Int) < (xs.length : Int) := by omega
      obtain ⟨b, off, e, hb, hc⟩ := h.2 k (by omega)
      subst e
      have hc' : wr.cell? ⟨b, off + k, none⟩ = some (.string (xs.getD k ByteArray.empty)) := by rw [hwr]; exact hc
      have hx := beq_bytes_false (hm (xs.getD k ByteArray.empty) (by rw [getD_at xs k hlt]; exact List.getElem_mem hlt))
      obtain ⟨X, hX⟩ : ∃ X, xs.getD k ByteArray.empty = X := ⟨_, rfl⟩
      rw [hX] at hc' hx
      clear hX hwr hc h hm
      go_wp2
      go_roundw
      case rel => exact ⟨k + 1, by omega, by go_num, nr, HW.out⟩
      case measure => simp [intOf]; omega
    · have q : ¬ (k : Int) < (xs.length : Int) := by omega
      clear hwr
      go_wp2_with fail
      go_ret
      exact ⟨rfl, nr, HW.out⟩
end Go.Proofs.YtipdebodanhooaaDoor
