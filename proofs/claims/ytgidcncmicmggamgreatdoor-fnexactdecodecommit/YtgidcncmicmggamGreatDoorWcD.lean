/- The contract of the program's writeCommit where nothing is at fault. No statement is proved here. -/
import Derived.Test.YtgidcncmicmggamGreatDoorRows
import Derived.Test.YtgidcncmicmggamGreatDoorLem
import Derived.Test.YtgidcncmicmggamGreatDoorStrs
import Derived.Test.YtgidcncmicmggamGreatDoorIn
import Derived.Test.YtgidcncmicmggamGreatDoorDTab
import Derived.Test.YtgidcncmicmggamGreatDoorOwn
import Derived.Test.YtgidcncmicmggamGreatDoorFr
import Derived.Test.YtgidcncmicmggamGreatDoorHkT
import Derived.Test.YtgidcncmicmggamGreatDoorIdL
import Derived.Test.YtgidcncmicmggamGreatDoorTgC
import Derived.Test.YtgidcncmicmggamGreatDoorTeL
import Derived.Test.YtgidcncmicmggamGreatDoorTrC
import Derived.Test.YtgidcncmicmggamGreatDoorJnC
import Derived.Test.YtgidcncmicmggamGreatDoorWwC
import Derived.Test.YtgidcncmicmggamGreatDoorBldG
import Derived.Test.YtgidcncmicmggamGreatDoorWwG
import Derived.Test.YtgidcncmicmggamGreatDoorNtC
import Derived.Test.YtgidcncmicmggamGreatDoorHdC
import Derived.Test.YtgidcncmicmggamGreatDoorCfS
import Derived.Test.YtgidcncmicmggamGreatDoorFiC
import Derived.Test.YtgidcncmicmggamGreatDoorWcC
import Derived.WalkKit
import Derived.ProofKit
import Derived.Below
import Derived.WalkSpells
import Derived.Deep.RegionWith
import Derived.Deep.QuietTactic
import Derived.BigQuiet
namespace Go.Proofs.YtgidcncmicmggamGreatDoor
open Go.ChangeShapes Go.WideShapes Go.ChangeAt Go.RowKit

theorem ss2 (w : World) (x y : ByteArray) (hx : x.size ≤ 1048576) (hy : y.size ≤ 1048576) : SS (w.alloc (.cells #[.string x, .string y] 9)) (some ⟨w.heap.size, 0, none⟩) [x, y] := by
  refine ⟨?_, ?_⟩
  · intro k hk
    match k, hk with
    | 0, _ => show x.size ≤ _; omega
    | 1, _ => show y.size ≤ _; omega
  · intro k hk
    refine ⟨w.heap.size, 0, rfl, by simp, ?_⟩
    match k, hk with
    | 0, _ => exact Rs.new w #[.string x, .string y] _ 0 _ rfl
    | 1, _ => exact Rs.new w #[.string x, .string y] _ 1 _ rfl
/-- A line of two words is written. -/
theorem words2 (B b : Nat) (l : List UInt8) (x y : ByteArray) (w : World) (hT : TG B b l w) (hB : B ≤ w.heap.size) (hx : x.size ≤ 100) (hy : y.size ≤ 100) (hl : l.length ≤ 1000000) :
    Calls Tryz.prog 190 #[.pointer (some ⟨b, 0, none⟩), .slice (some ⟨w.heap.size, 0, none⟩) 2 2] (w.alloc (.cells #[.string x, .string y] 9)) fun e w' => e = .returned (.tuple #[]) ∧ TG B b (l ++ wl [x, y]) w' ∧ Kb B b w w' := by
  have hW := writeWordsG B b w.heap.size 0 2 l [x, y] (w.alloc (.cells #[.string x, .string y] 9)) (hT.below (allocBelow _ _)) (by have := (allocBelow w (.cells #[.string x, .string y] 9)).size; omega) (ss2 w x y (by omega) (by omega)) (by simp) (by simp) (by simp) (by simp [tot]; omega) (by omega)
  refine hW.mono ?_
  rintro e w' ⟨rfl, T, K⟩
  exact ⟨rfl, T, (Kb.of ((allocBelow w _).mono hB)).trans K⟩
theorem Kb.cell {B b k o : Nat} {w w' : World} {v : Value} (h : Kb B b w w') (hk : k < B) (hb : ¬ k = b) (hc : w.cell? ⟨k, o, none⟩ = some v) : w'.cell? ⟨k, o, none⟩ = some v := by
  unfold World.cell? at hc ⊢
  simp only [h.block k hk hb]
  exact hc
theorem hd_zero {t : ByteArray} {ps : List ByteArray} (h : hd t ps = 0) : isOf 2 t = true ∧ ps.length ≤ 3 ∧ ∀ k, k < ps.length → PaOk ps k := by
  cases hb : isOf 2 t with
  | false => rw [hd_tree hb] at h; omega
  | true =>
    by_cases h3 : 3 < ps.length
    · rw [hd_many hb h3] at h; omega
    · refine ⟨rfl, by omega, fun k hk => ?_⟩
      by_cases hp : PaOk ps k
      · exact hp
      · rw [hd_bad hb h3 hk hp] at h; omega
end Go.Proofs.YtgidcncmicmggamGreatDoor
