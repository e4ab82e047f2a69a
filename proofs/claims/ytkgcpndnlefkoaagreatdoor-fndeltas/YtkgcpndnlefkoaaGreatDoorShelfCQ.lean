/- Contracts of the library that are laid at this program: Tryz.strings_Compare. No statement is proved here. -/
import Derived.Shelf.Small.Bits
import Derived.Shelf.Small.Strs
import Derived.Shelf.Strconv.Itoa0
import Derived.Shelf.LaysM
import Derived.Shelf.Strconv.Clone
import Derived.Shelf.Strings.Search1
import Derived.Shelf.Strings.Search2
import Derived.Shelf.Strings.Search3
import Derived.Shelf.Strings.Shaped
import Derived.Shelf.Sort.Plain
import Derived.Shelf.Unicode.Decode
import Derived.Shelf.Unicode.DecodeSlow
import Derived.Shelf.Unicode.DecodeAny
import Derived.Shelf.Slices.CompactS
import Derived.Shelf.Slices.Cells
import Derived.Shelf.Slices.In.SortNone
import Derived.Test.YtkgcpndnlefkoaaGreatDoorProg
import Derived.Test.YtkgcpndnlefkoaaGreatDoorRows
import Derived.Test.YtkgcpndnlefkoaaGreatDoorLemQ
import Derived.Test.YtkgcpndnlefkoaaGreatDoorDTabQ
import Derived.Test.YtkgcpndnlefkoaaGreatDoorInQ
import Derived.Test.YtkgcpndnlefkoaaGreatDoorFfCQ
import Derived.Test.YtkgcpndnlefkoaaGreatDoorDfMQ
import Derived.WalkKit
import Derived.ProofKit
import Derived.Below
import Derived.WalkSpells
import Derived.Maps.AppendAt
namespace Go.Proofs
open Go.Shelf
def Tryz.lays106_ren : Go.Shelf.Ren := ⟨fun | 106 => 34 | 213 => 56 | 265 => 81 | n => n, fun | 9 => 9 | 3 => 3 | n => n, fun | n => n⟩
theorem Tryz.lays106 : Go.Proofs.Lays.n106 Tryz.prog Tryz.lays106_ren := {
  mixed := by kernel_rfl
  f106 := Tryz.func34.trans (congrArg some (by kernel_rfl))
  f213 := Tryz.func56.trans (congrArg some (by kernel_rfl))
  f265 := Tryz.func81.trans (congrArg some (by kernel_rfl))
  t3 := Tryz.underlying3
  a3 := Tryz.isAgg3
  z3 := Tryz.sizeOf3
  v3 := Tryz.zeroValue3
  t9 := Tryz.underlying9
  a9 := Tryz.isAgg9
  z9 := Tryz.sizeOf9
  v9 := Tryz.zeroValue9 }
open Go.RowKit in
theorem Tryz.strings_Compare (a b : ByteArray) (w : World) :
    Calls Tryz.prog 34 #[.string a, .string b] w fun e w' => e = .returned (.int .i64 (Lib.compareBytes a.data.toList b.data.toList)) ∧ w' = w := Any.strings_Compare Tryz.lays106 a b w
end Go.Proofs
/- The contract of spec.l7Find. No statement is proved here. -/
namespace Go.Proofs.YtkgcpndnlefkoaaGreatDoor.Fl
open Go.ChangeShapes Go.WideShapes Go.ChangeAt Go.RowKit

/-- A file as a value. -/
def fv (f : Ob) : Value := .agg #[.string f.1, .int .i64 f.2.1, .string f.2.2]
theorem fv_eq (f g : Ob) (h : f = g) : Ending.returned (fv f) = .returned (fv g) := by rw [h]
set_option maxRecDepth 20000 in
set_option maxHeartbeats 2000000 in
theorem l7FindC (a : Option Addr) (c : Nat) (l : List Ob) (p : ByteArray) (w : World) (h : OB w.heap.size w a l) (hn : l.length ≤ 2097152) :
    Calls Tryz.prog 19 #[.slice a l.length c, .string p] w fun e w' => e = .returned (fv (fa l p)) ∧ Below w.heap.size w w' := by
  have hNo : (∀ k, k < l.length → ¬ (l.getD k onil).1 = p) → Hid (fa l p = onil) := fun q => fa_none q
  have hAt : ∀ k, k < l.length → (l.getD k onil).1 = p → (∀ j, j < k → ¬ (l.getD j onil).1 = p) → Hid (fa l p = l.getD k onil) := fun k hk q r => fa_at hk q r
  obtain ⟨W1, hW1⟩ : ∃ W, w.alloc (.cells #[.string ⟨#[]⟩, .int .i64 0, .string ⟨#[]⟩] 42) = W := ⟨_, rfl⟩
  have b1 : Below w.heap.size w W1 := by rw [← hW1]; exact allocBelow _ _
  have r1 : Rf W1 w.heap.size [.string ⟨#[]⟩, .int .i64 0, .string ⟨#[]⟩] := by rw [← hW1]; exact Rf.new _ _ _
  have h1 := h.below b1
  have c0 := r1.at_ 0 _ rfl
  have c1 := r1.at_ 1 _ rfl
  have c2 := r1.at_ 2 _ rfl
  have f0 := r1.fz 0
  have f1 := r1.fz 1
  have f2 := r1.fz 2
  obtain ⟨R, hR⟩ : ∃ R, fa l p = R := ⟨_, rfl⟩
  rw [hR] at hNo ⊢
  simp only [hR] at hAt
  clear h hR
  go_enter Tryz.func19, Tryz.ntmps19
  go_wp2
  go_loopw [5] (fun i wr => ∃ k : Nat, k ≤ l.length ∧ i = .int .i64 k ∧ wr = W1 ∧ Hid (∀ j, j < k → ¬ (l.getD j onil).1 = p)) (fun i _ => l.length - (intOf i).toNat)
  case atStart => exact ⟨0, Nat.zero_le _, rfl, rfl, fun j hj => absurd hj (Nat.not_lt_zero _)⟩
  case round =>
    obtain ⟨k, hk, rfl, rfl, hne⟩ := hrel
    by_cases hlt : k < l.length
    · have q : (k : Int) < (l.length : Int) := by omega
      obtain ⟨g, off, e, hg, d0, d1, d2⟩ := h1 k hlt
      subst e
      have hA := hAt k hlt
      obtain ⟨C, hC⟩ : ∃ C, l.getD k onil = C := ⟨_, rfl⟩
      obtain ⟨x0, x1, x2⟩ := C
      rw [hC] at d0 d1 d2 hA
      simp only [] at d0 d1 d2 hA
      by_cases he : x0 = p
      · have HR := hA he hne.out
        subst he
        have qe := beq_bytes_true (rfl : x0 = x0)
        have RV := ((r1.set (o := 0) (by simp) (.string x0)).set (o := 1) (by simp) (.int .i64 x1)).set (o := 2) (by simp) (.string x2)
        have BV := ((b1.setCell (p := ⟨w.heap.size, 0, none⟩) (Nat.le_refl _) (.string x0)).setCell (p := ⟨w.heap.size, 1, none⟩) (Nat.le_refl _) (.int .i64 x1)).setCell (p := ⟨w.heap.size, 2, none⟩) (Nat.le_refl _) (.string x2)
        obtain ⟨V, hV⟩ : ∃ V, ((wr.setCell ⟨w.heap.size, 0, none⟩ (.string x0)).setCell ⟨w.heap.size, 1, none⟩ (.int .i64 x1)).setCell ⟨w.heap.size, 2, none⟩ (.string x2) = V := ⟨_, rfl⟩
        rw [hV] at RV BV
        have HV : Hid (_ = V) := hV
        have v0 := RV.at_ 0 _ rfl
        have v1 := RV.at_ 1 _ rfl
        have v2 := RV.at_ 2 _ rfl
        clear hV RV hNo hAt hA hne r1 b1 hC
        go_wp2
        rw [HV.out]
        refine bodyPost_ret (v := .agg #[.string x0, .int .i64 x1, .string x2]) (by simp [results, Tryz.results19, go_sem, v0, v1, v2]) rfl ?_
        exact ⟨(fv_eq (x0, x1, x2) R HR.out.symm), BV⟩
      · have qe := beq_bytes_false he
        have HN : Hid (∀ j, j < k + 1 → ¬ (l.getD j onil).1 = p) := fun j hj => by
          by_cases ej : j = k
          · rw [ej, hC]; exact he
          · exact hne.out j (by omega)
        clear hNo hAt hA hne hC
        go_wp2
        go_roundw
        case rel => exact ⟨k + 1, by omega, by go_num, (by first | rfl | trivial), HN⟩
        case measure => simp [intOf]; omega
    · have q : ¬ (k : Int) < (l.length : Int) := by omega
      have HR := hNo (fun j hj => hne.out j (by omega))
      have RV := ((r1.set (o := 0) (by simp) (.string ⟨#[]⟩)).set (o := 1) (by simp) (.int .i64 0)).set (o := 2) (by simp) (.string ⟨#[]⟩)
      have BV := ((b1.setCell (p := ⟨w.heap.size, 0, none⟩) (Nat.le_refl _) (.string ⟨#[]⟩)).setCell (p := ⟨w.heap.size, 1, none⟩) (Nat.le_refl _) (.int .i64 0)).setCell (p := ⟨w.heap.size, 2, none⟩) (Nat.le_refl _) (.string ⟨#[]⟩)
      obtain ⟨V, hV⟩ : ∃ V, ((wr.setCell ⟨w.heap.size, 0, none⟩ (.string ⟨#[]⟩)).setCell ⟨w.heap.size, 1, none⟩ (.int .i64 0)).setCell ⟨w.heap.size, 2, none⟩ (.string ⟨#[]⟩) = V := ⟨_, rfl⟩
      rw [hV] at RV BV
      have HV : Hid (_ = V) := hV
      have v0 := RV.at_ 0 _ rfl
      have v1 := RV.at_ 1 _ rfl
      have v2 := RV.at_ 2 _ rfl
      clear hV RV hNo hAt hne r1 b1
      go_wp2
      rw [HV.out]
      refine bodyPost_ret (v := .agg #[.string ⟨#[]⟩, .int .i64 0, .string ⟨#[]⟩]) (by simp [results, Tryz.results19, go_sem, v0, v1, v2]) rfl ?_
      exact ⟨(fv_eq onil R HR.out.symm), BV⟩
end Go.Proofs.YtkgcpndnlefkoaaGreatDoor.Fl
