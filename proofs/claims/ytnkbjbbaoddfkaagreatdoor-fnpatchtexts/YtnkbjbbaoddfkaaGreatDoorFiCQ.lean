/- The contract of strconv.FormatInt at a commit's time, and its table. No statement is proved here. -/
import Derived.Test.YtnkbjbbaoddfkaaGreatDoorRows
import Derived.Test.YtnkbjbbaoddfkaaGreatDoorLemQ
import Derived.Test.YtnkbjbbaoddfkaaGreatDoorShelfEQ
import Derived.Lib.LaidTab
import Derived.Lib.ItoaNum
import Derived.Below
import Derived.WalkKit
import Derived.ProofKit
namespace Go.Proofs.YtnkbjbbaoddfkaaGreatDoor
open Go.RowKit Go.Sort

/-- The table of powers that strconv reads. -/
def TaG (w : World) : Prop := Lib.TabIs Tryz.prog w "internal/strconv.uint64pow10" .u64 Lib.pow10Tab
theorem gTa : Tryz.prog.globalNamed "internal/strconv.uint64pow10" = some 1 := by kernel_rfl
theorem TaG.below {B : Nat} {w w' : World} (h : TaG w) (hb : Below B w w') (hB : 1 < B) : TaG w' := by
  unfold TaG Lib.TabIs World.var? at *
  rw [gTa] at h ⊢
  simp only [Option.bind_some] at h ⊢
  rw [hb.block _ hB]
  exact h
/-- A number's text. -/
def itB (n : Int) : ByteArray := ⟨(Lib.itoa n).toArray⟩
theorem belGrow (w : World) (q : Nat) (os : Array Obj) : Below w.heap.size w (grow (w.drewN q) os) :=
  ⟨rfl, rfl, rfl, by show w.heap.size ≤ (w.heap ++ os).size; simp, fun k hk => by show (w.heap ++ os)[k]? = w.heap[k]?; simp [Array.getElem?_append, hk]⟩
theorem formatInt (n : Int) (h0 : 0 ≤ n) (h1 : n ≤ 1000000000) (w : World) (ht : TaG w) :
    Calls Tryz.prog 41 #[.int .i64 n, .int .i64 10] w fun e w' => e = .returned (.string (itB n)) ∧ Below w.heap.size w w' := by
  refine (Tryz.strconv_FormatInt_10 n (by omega) (by omega) w ht).mono ?_
  rintro e w' ⟨rfl, k, os, rfl⟩
  exact ⟨rfl, belGrow w k os⟩
theorem dec_len : ∀ (d n : Nat), n < 10 ^ (d + 1) → (Lib.decDigits n).length ≤ d + 1
  | 0, n, h => by rw [Lib.decDigits, dif_pos (by omega)]; simp
  | d + 1, n, h => by
    by_cases h9 : n < 10
    · rw [Lib.decDigits, dif_pos h9]; simp
    · rw [Lib.decDigits, dif_neg h9]
      have := dec_len d (n / 10) (by rw [Nat.pow_succ] at h; omega)
      simp
      omega
theorem it_size {n : Int} (h0 : 0 ≤ n) (h1 : n ≤ 1000000000) : (itB n).size ≤ 10 := by
  show (Lib.itoa n).toArray.size ≤ 10
  rw [Lib.itoa, if_neg (by omega)]
  have := dec_len 9 n.toNat (by omega)
  simpa using this
end Go.Proofs.YtnkbjbbaoddfkaaGreatDoor
