/- The contracts of JoinLines (the program's and the specification's). No statement is proved here. -/
import Derived.Test.YthgoimdlhgdnoaaRows
import Derived.Test.YthgoimdlhgdnoaaLem
import Derived.Test.YthgoimdlhgdnoaaStrs
import Derived.Test.YthgoimdlhgdnoaaLFLem
import Derived.Test.YthgoimdlhgdnoaaLF
import Derived.Test.YthgoimdlhgdnoaaBld
import Derived.Test.YthgoimdlhgdnoaaShelf
import Derived.WalkKit
import Derived.ProofKit
import Derived.Below
import Derived.WalkSpells
import Derived.Laws.Concat
namespace Go.Proofs.Ythgoimdlhgdnoaa
open Go.ChangeShapes Go.WideShapes Go.ChangeAt Go.RowKit

/-- All strings behind one another. -/
def catL (ss : List ByteArray) : List UInt8 := ss.flatMap fun s => s.data.toList
def catB (ss : List ByteArray) : ByteArray := ⟨(catL ss).toArray⟩
theorem catL_take (ss : List ByteArray) (k : Nat) (h : k < ss.length) : catL (ss.take (k + 1)) = catL (ss.take k) ++ (ss.getD k ByteArray.empty).data.toList := by
  unfold catL
  rw [List.take_succ_eq_append_getElem h, List.flatMap_append, getD_at ss k h]
  simp
theorem catL_length (ss : List ByteArray) : ((catL ss).length : Int) = tot ss := by
  unfold catL tot
  induction ss with
  | nil => simp
  | cons s ss ih => simp only [List.flatMap_cons, List.length_append, List.map_cons, List.sum_cons, ← ih]; simp
theorem catB_size (ss : List ByteArray) : ((catB ss).size : Int) = tot ss := by
  rw [← catL_length]; rfl
theorem bytes_ext {a b : ByteArray} (h : a.data.toList = b.data.toList) : a = b := WideShapes.bytes_inj h
theorem catB_take (ss : List ByteArray) (k : Nat) (h : k < ss.length) : catB (ss.take (k + 1)) = catB (ss.take k) ++ ss.getD k ByteArray.empty := by
  apply bytes_ext
  rw [show (catB (ss.take (k + 1))).data.toList = catL (ss.take (k + 1)) from rfl, catL_take ss k h, ByteArray.data_append, Array.toList_append]
  rfl

set_option maxHeartbeats 800000 in
theorem l1Join (a : Option Addr) (cap : Nat) (ss : List ByteArray) (w : World) (hs : SS w a ss) (hn : ss.length ≤ 1048576) (htot : tot ss ≤ 1048576) :
    Calls Try.prog 30 #[.slice a ss.length cap] w fun e w' => e = .returned (.string (catB ss)) ∧ w' = w := by
  go_enter Try.func30, Try.ntmps30
  go_wp2
  go_loop [3, 4] (fun t i => ∃ k : Nat, k ≤ ss.length ∧ i = .int .i64 k ∧ t = .string (catB (ss.take k))) (fun _ i => ss.length - (intOf i).toNat)
  case atStart => exact ⟨0, Nat.zero_le _, rfl, rfl⟩
  case round =>
    obtain ⟨k, hk, rfl, rfl⟩ := hrel
    by_cases hlt : k < ss.length
    · obtain ⟨b, off, rfl, hb, hc⟩ := hs.2 k hlt
      have hts := tot_take ss k hlt
      have ht2 := tot_take_le ss (k + 1)
      have hcs := catB_size (ss.take k)
      obtain ⟨s, hse⟩ : ∃ s, s = ss.getD k ByteArray.empty := ⟨_, rfl⟩
      have hct := catB_take ss k hlt
      rw [← hse] at hc hts hct
      have hbd : (catB (ss.take k)).size + s.size ≤ 1048576 := by omega
      have HC : Hid (catB (ss.take (k + 1)) = catB (ss.take k) ++ s) := hct
      clear hts hse ht2 hcs hct
      go_wp2
      go_round
      case rel => exact ⟨k + 1, by omega, by go_num, by rw [HC.out]⟩
      case measure => simp [intOf]; omega
    · have e : ss.take k = ss := List.take_of_length_le (by omega)
      rw [e]
      clear e
      go_wp2
      go_ret
      exact ⟨rfl, rfl⟩

/-- What JoinLines answers. -/
def joinText (ss : List ByteArray) : ByteArray := if lf ss = 0 then catB ss else ByteArray.empty
theorem joinText_ok {ss : List ByteArray} (h : lf ss = 0) : joinText ss = catB ss := if_pos h
theorem joinText_no {ss : List ByteArray} (h : ¬ lf ss = 0) : joinText ss = ⟨#[]⟩ := if_neg h

set_option maxHeartbeats 1600000 in
theorem implJoinLines (a : Option Addr) (cap : Nat) (ss : List ByteArray) (w : World) (hs : SS w a ss) (hn : ss.length ≤ 1048576) (htot : tot ss ≤ 1048576) :
    Calls Try.prog 8 #[.slice a ss.length cap] w fun e w' => e = .returned (.agg #[.int .i64 (lf ss), .string (joinText ss)]) ∧ Below w.heap.size w w' := by
  by_cases h0 : lf ss = 0
  · have hJ := joinText_ok h0
    rw [hJ, h0]
    go_enter Try.func8, Try.ntmps8
    go_wp2_with fail
    refine (implLinesFault _ _ _ _ (hs.below ((Below.refl _ _).alloc (Nat.le_refl _) _)) hn).mono ?_; rintro e w' ⟨rfl, rfl⟩
    rw [h0]
    go_wp2
    go_loopw [15] (fun i wr => ∃ k : Nat, k ≤ ss.length ∧ i = .int .i64 k ∧ Lib.IsBuilder 46 5 (w.heap.size + 1) (w.heap.size + 1) (Lib.byteCells (catL (ss.take k))) wr ∧ Below (w.heap.size + 1) (w.alloc (.cells #[.int .i64 0, .string ⟨#[]⟩] 31)) wr) (fun i _ => ss.length - (intOf i).toNat)
    case atStart =>
      refine ⟨0, Nat.zero_le _, rfl, ?_, (Below.refl _ _).alloc (by simp) _⟩
      have := Lib.fresh_isBuilder 46 5 (w.alloc (.cells #[.int .i64 0, .string ⟨#[]⟩] 31))
      simpa [catL, Lib.byteCells] using this
    case round =>
      obtain ⟨k, hk, rfl, hbld, hbel⟩ := hrel
      have hbw : Below w.heap.size w wr := ((Below.refl _ _).alloc (Nat.le_refl _) _).trans (hbel.mono (Nat.le_succ _))
      have hsz1 : w.heap.size + 1 ≤ wr.heap.size := by have := hbel.size; simpa using this
      by_cases hlt : k < ss.length
      · obtain ⟨b, off, rfl, hb, hc⟩ := hs.2 k hlt
        have hc' := (hbw.cell (p := ⟨b, off + k, none⟩) hb).trans hc
        have hts := tot_take ss k hlt
        have ht2 := tot_take_le ss (k + 1)
        have hcs := catL_length (ss.take k)
        obtain ⟨s, hse⟩ : ∃ s, s = ss.getD k ByteArray.empty := ⟨_, rfl⟩
        have hct := catL_take ss k hlt
        rw [← hse] at hc' hts hct
        have hlen : (Lib.byteCells (catL (ss.take k))).length + s.size ≤ 140737488355328 := by rw [Lib.byteCells_length]; omega
        have HC : Hid (catL (ss.take (k + 1)) = catL (ss.take k) ++ s.data.toList) := hct
        clear hts hse ht2 hcs hct hc
        go_wp2_with fail
        refine (writeString _ _ _ _ _ hbld hlen hsz1).mono ?_; rintro e w2 ⟨rfl, hb2, hbe2⟩
        go_wp2
        go_roundw
        case rel =>
          refine ⟨k + 1, by omega, by go_num, ?_, hbel.trans hbe2⟩
          rw [HC.out, Lib.byteCells_append, ← Lib.strCells_eq]
          exact .inr hb2
        case measure => simp [intOf]; omega
      · have e : ss.take k = ss := List.take_of_length_le (by omega)
        rw [e] at hbld
        clear e
        go_wp2_with fail
        refine (Try.Builder_String_any _ _ _ _ hbld hsz1).mono ?_; rintro e w2 ⟨rfl, hbe2⟩
        have hb3 := hbel.trans hbe2
        have f0 : w2.frozen? ⟨w.heap.size, 0, none⟩ = false := (hb3.frozen (p := ⟨w.heap.size, 0, none⟩) (Nat.lt_succ_self _)).trans (by simp)
        have f1 : w2.frozen? ⟨w.heap.size, 1, none⟩ = false := (hb3.frozen (p := ⟨w.heap.size, 1, none⟩) (Nat.lt_succ_self _)).trans (by simp)
        have c0 : w2.cell? ⟨w.heap.size, 0, none⟩ = some (.int .i64 0) := (hb3.cell (p := ⟨w.heap.size, 0, none⟩) (Nat.lt_succ_self _)).trans (by simp)
        have c1 : w2.cell? ⟨w.heap.size, 1, none⟩ = some (.string ⟨#[]⟩) := (hb3.cell (p := ⟨w.heap.size, 1, none⟩) (Nat.lt_succ_self _)).trans (by simp)
        have hbw2 : Below w.heap.size w w2 := hbw.trans (hbe2.mono (Nat.le_succ _))
        clear hbel hbe2 hb3 hbld
        go_wp2
        refine bodyPost_ret (v := .agg #[.int .i64 0, .string (catB ss)]) ?_ rfl ⟨rfl, ?_⟩
        · simp [results, Try.results8, go_sem, c0, c1]; rfl
        · exact (hbw2.setCell (p := ⟨w.heap.size, 0, none⟩) (Nat.le_refl _) _).setCell (p := ⟨w.heap.size, 1, none⟩) (Nat.le_refl _) _
  · have hJ := joinText_no h0
    rw [hJ]
    have hne : (lf ss != 0) = true := by simpa using h0
    obtain ⟨r, hr⟩ : ∃ r, lf ss = r := ⟨_, rfl⟩
    rw [hr] at hne ⊢
    go_enter Try.func8, Try.ntmps8
    go_wp2_with fail
    refine (implLinesFault _ _ _ _ (hs.below ((Below.refl _ _).alloc (Nat.le_refl _) _)) hn).mono ?_; rintro e w' ⟨rfl, rfl⟩
    rw [hr]
    clear hr h0 hJ
    go_wp2
    exact bodyPost_ret (v := .agg #[.int .i64 r, .string ⟨#[]⟩]) (by simp [results, Try.results8, go_sem]) rfl ⟨rfl, (Below.refl _ _).alloc (Nat.le_refl _) _⟩
end Go.Proofs.Ythgoimdlhgdnoaa
