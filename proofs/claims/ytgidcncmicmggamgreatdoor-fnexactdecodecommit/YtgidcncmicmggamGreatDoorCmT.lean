/- The text of a commit is never too long. No statement is proved here. -/
import Derived.Test.YtgidcncmicmggamGreatDoorRows
import Derived.Test.YtgidcncmicmggamGreatDoorLem
import Derived.Test.YtgidcncmicmggamGreatDoorStrs
import Derived.Test.YtgidcncmicmggamGreatDoorSplLem
import Derived.Test.YtgidcncmicmggamGreatDoorTF
import Derived.Test.YtgidcncmicmggamGreatDoorJnC
import Derived.Test.YtgidcncmicmggamGreatDoorWwC
import Derived.Test.YtgidcncmicmggamGreatDoorIn
import Derived.Test.YtgidcncmicmggamGreatDoorIdL
import Derived.Test.YtgidcncmicmggamGreatDoorTgC
import Derived.Test.YtgidcncmicmggamGreatDoorTrW
import Derived.Test.YtgidcncmicmggamGreatDoorNtC
import Derived.Test.YtgidcncmicmggamGreatDoorHdC
import Derived.Test.YtgidcncmicmggamGreatDoorFiC
import Derived.Test.YtgidcncmicmggamGreatDoorWcC
import Derived.Test.YtgidcncmicmggamGreatDoorWcD
import Derived.Test.YtgidcncmicmggamGreatDoorWcE
namespace Go.Proofs.YtgidcncmicmggamGreatDoor
open Go.RowKit

theorem spl_cons {c : UInt8} (l : List UInt8) (h : ¬ c = 10) : (spl (c :: l)).length = max 1 (spl l).length := by
  rw [spl, if_neg h]
  split
  · rename_i e; rw [e]; rfl
  · rename_i x xs e; rw [e]; simp
theorem spl_app (a b : List UInt8) : (spl (a ++ b)).length ≤ (spl a).length + (spl b).length := by
  induction a with
  | nil => simp [spl]
  | cons c a ih =>
    by_cases hc : c = 10
    · rw [List.cons_append, spl, if_pos hc, spl, if_pos hc]
      simp
      omega
    · rw [List.cons_append, spl_cons _ hc, spl_cons _ hc]
      omega
theorem wl2 (x y : ByteArray) : wl [x, y] = (x.data.toList ++ 32 :: y.data.toList) ++ [10] := by
  unfold wl jnB
  show (jl [x, y] 1) ++ [10] = _
  simp [jl]
theorem nt_no10 {s : ByteArray} (h : nt s = true) : ¬ (10 : UInt8) ∈ s.data.toList := fun hm => by
  obtain ⟨k, hk, e⟩ := List.mem_iff_getElem.1 hm
  have hk' : k < s.size := by simpa using hk
  have := ((of_decide_eq_true h).2 k hk').1
  have e' : s[k] = 10 := e
  rw [e'] at this
  exact absurd this (by decide)
theorem note_line {no : ByteArray} (h : nt no = true) : (spl (wl [wNote, no])).length ≤ 1 := by
  have h10 : ¬ (10 : UInt8) ∈ wNote.data.toList ++ 32 :: no.data.toList := fun hm => by
    rcases List.mem_append.1 hm with q | q
    · revert q; decide
    · rcases List.mem_cons.1 q with q | q
      · revert q; decide
      · exact nt_no10 h q
  rw [wl2, spl_feed _ [] h10]
  simp [spl]
theorem tf_commit {t : ByteArray} {ps : List ByteArray} {tm : Int} {no : ByteArray} (h0 : hd t ps = 0) (ht : inB tm 0 1000000000 = true) (hno : nt no = true) : tf ⟨(cmL t ps tm no).toArray⟩ = 0 := by
  obtain ⟨x1, x2, x3⟩ := hd_zero h0
  obtain ⟨q1, q2⟩ := inB_lo ht
  have y0 := Te.isOf_size x1
  have y2 : ∀ k, k < ps.length → (ps.getD k ByteArray.empty).size = 5 := fun k hk => Te.isOf_size (x3 k hk).1
  have hl := cmP_len y0 y2 ps.length (Nat.le_refl _)
  rw [List.take_length] at hl
  have yi := it_size q1 q2
  have yn := nt_size hno
  have a1 : (cmP t ps ++ wl [wTime, itB tm]).length ≤ 66 := by
    rw [List.length_append, wl2_len]
    have : wTime.size = 4 := rfl
    omega
  have a2 := spl_length (cmP t ps ++ wl [wTime, itB tm])
  have a3 := note_line hno
  have a4 := spl_app (cmP t ps ++ wl [wTime, itB tm]) (wl [wNote, no])
  have a5 : (cmL t ps tm no).length ≤ 132 := by
    unfold cmL
    rw [List.length_append, wl2_len]
    have : wNote.size = 4 := rfl
    omega
  refine tf_ok ?_
  rintro (q | q)
  · have : (⟨(cmL t ps tm no).toArray⟩ : ByteArray).size = (cmL t ps tm no).length := by
      show (cmL t ps tm no).toArray.size = _
      simp
    omega
  · have : (linesOf ⟨(cmL t ps tm no).toArray⟩).length = (spl (cmL t ps tm no)).length := by
      unfold linesOf linesFrom
      simp
    rw [this] at q
    have : (spl (cmL t ps tm no)).length ≤ 67 := by
      unfold cmL
      omega
    omega
end Go.Proofs.YtgidcncmicmggamGreatDoor
