/- The text of a patch. Plain mathematics, and strings.HasSuffix at a line feed. No statement is proved here. -/
import Derived.Test.YtdfoponekgifkaaDoorRows
import Derived.Test.YtdfoponekgifkaaDoorLem
import Derived.Test.YtdfoponekgifkaaDoorStrs
import Derived.Test.YtdfoponekgifkaaDoorLFLem
import Derived.Test.YtdfoponekgifkaaDoorIn
import Derived.Test.YtdfoponekgifkaaDoorHkL
import Derived.Test.YtdfoponekgifkaaDoorHfL
import Derived.Test.YtdfoponekgifkaaDoorFpS
import Derived.Test.YtdfoponekgifkaaDoorFpH
import Derived.Test.YtdfoponekgifkaaDoorFiC
import Derived.WalkKit
import Derived.ProofKit
import Derived.Below
import Derived.WalkSpells
namespace Go.Proofs.YtdfoponekgifkaaDoor.Fp
open Go.ChangeShapes Go.WideShapes Go.ChangeAt Go.RowKit

/-- The last byte is a line feed. -/
def ends (l : List UInt8) : Bool := decide (l.getLast? = some 10)
/-- A line of a hunk, as it is written. -/
def lnT (s : ByteArray) : List UInt8 := s.data.toList ++ (if ends s.data.toList = true then [] else [10, 92, 10])
def linesT (ss : List ByteArray) : List UInt8 := ss.flatMap lnT
def headT (h : Hk) : ByteArray := headB h.1.toNat (oldN h.2.2).toNat h.2.1.toNat (newN h.2.2).toNat
def hkT (h : Hk) : List UInt8 := (headT h).data.toList ++ linesT h.2.2
def fpL (l : List Hk) : List UInt8 := l.flatMap hkT
def hnil : Hk := (0, 0, [])
/-- What FormatPatch tells. -/
def fpC (l : List Hk) : Int := if hf l = 0 then (if 8000 < (fpL l).length then 2 else 0) else hf l
def fpT (l : List Hk) : ByteArray := if fpC l = 0 then ⟨(fpL l).toArray⟩ else ⟨#[]⟩
theorem lines_take (ss : List ByteArray) (k : Nat) (h : k < ss.length) : linesT (ss.take (k + 1)) = linesT (ss.take k) ++ lnT (ss.getD k ByteArray.empty) := by
  unfold linesT
  rw [List.take_succ_eq_append_getElem h, List.flatMap_append, getD_at ss k h]
  simp
theorem fp_take (l : List Hk) (k : Nat) (h : k < l.length) : fpL (l.take (k + 1)) = fpL (l.take k) ++ hkT (l.getD k hnil) := by
  unfold fpL
  rw [List.take_succ_eq_append_getElem h, List.flatMap_append]
  simp [List.getD, h]
theorem ln_yes {s : ByteArray} (h : ends s.data.toList = true) : lnT s = s.data.toList := by unfold lnT; rw [if_pos h]; simp
theorem ln_no {s : ByteArray} (h : ends s.data.toList = false) : lnT s = s.data.toList ++ [10, 92, 10] := by unfold lnT; rw [if_neg (by rw [h]; decide)]
/-- What HunksFault asks of each hunk. -/
structure Hok (h : Hk) : Prop where
  n : h.2.2.length ≤ 200
  ok : h.2.2.all okH = true
  a0 : 0 ≤ h.1 ∧ h.1 ≤ 100
  a1 : 0 ≤ h.2.1 ∧ h.2.1 ≤ 100
theorem hkC_ok {i j : Int} {h : Hk} (e : hkC i j h = 0) : Hok h := by
  unfold hkC at e
  split at e
  · cases e
  · rename_i h1
    split at e
    · cases e
    · rename_i h2
      split at e
      · cases e
      · split at e
        · cases e
        · rename_i h4
          have h4 : (inB h.1 0 100 && inB h.2.1 0 100) = true := by
            cases q : (inB h.1 0 100 && inB h.2.1 0 100) with
            | true => rfl
            | false => exact absurd q h4
          rw [Bool.and_eq_true] at h4
          have q1 : 0 ≤ h.1 ∧ h.1 ≤ 100 := of_decide_eq_true h4.1
          have q2 : 0 ≤ h.2.1 ∧ h.2.1 ≤ 100 := of_decide_eq_true h4.2
          refine ⟨by omega, ?_, q1, q2⟩
          cases q : h.2.2.all okH with
          | true => rfl
          | false => exact absurd q h2
theorem hfF_all : ∀ (l : List Hk) (i j : Int), hfF l i j = 0 → ∀ h ∈ l, Hok h := by
  intro l
  induction l with
  | nil => intro i j _ h hh; cases hh
  | cons x l ih =>
    intro i j e h hh
    by_cases q : hkC i j x = 0
    · rw [hfF_go q] at e
      rcases List.mem_cons.1 hh with rfl | hh
      · exact hkC_ok q
      · exact ih _ _ e h hh
    · rw [hfF_stop rfl q] at e
      exact absurd e q
theorem hf_all {l : List Hk} (h : hf l = 0) : l.length ≤ 100 ∧ ∀ x ∈ l, Hok x := by
  unfold hf at h
  split at h
  · cases h
  · exact ⟨by omega, hfF_all l 0 0 h⟩
theorem fp_fault {l : List Hk} (h : ¬ hf l = 0) : fpC l = hf l ∧ fpT l = ⟨#[]⟩ := by
  have e : fpC l = hf l := if_neg h
  exact ⟨e, if_neg (by rw [e]; exact h)⟩
theorem fp_many {l : List Hk} (h : hf l = 0) (k : 8000 < (fpL l).length) : fpC l = 2 ∧ fpT l = ⟨#[]⟩ := by
  have e : fpC l = 2 := by unfold fpC; rw [if_pos h, if_pos k]
  exact ⟨e, if_neg (by rw [e]; decide)⟩
theorem fp_ok {l : List Hk} (h : hf l = 0) (k : ¬ 8000 < (fpL l).length) : fpC l = 0 ∧ fpT l = ⟨(fpL l).toArray⟩ := by
  have e : fpC l = 0 := by unfold fpC; rw [if_pos h, if_neg k]
  exact ⟨e, if_pos e⟩
theorem dec_it (n : Int) (h : 0 ≤ n) : decB n.toNat = itB n := by
  apply WideShapes.bytes_inj
  show Lib.decDigits n.toNat = Lib.itoa n
  unfold Lib.itoa
  rw [if_neg (by omega)]
theorem dec_pos (n : Nat) : (decB n).data.toList ≠ [] := by
  show Lib.decDigits n ≠ []
  rw [Lib.decDigits]
  split <;> simp
theorem head_parts (x0 a x1 b : Nat) : (headB x0 a x1 b).data.toList = [64, 64, 32, 45] ++ (decB x0).data.toList ++ [44] ++ (decB a).data.toList ++ [32, 43] ++ (decB x1).data.toList ++ [44] ++ (decB b).data.toList ++ [32, 64, 64, 10] := by
  unfold headB
  simp [ByteArray.data_append]
theorem head_pos (h : Hk) : hkT h ≠ [] := by
  unfold hkT headT
  rw [head_parts]
  simp
theorem dec_size (n : Nat) (h : n ≤ 1000) : (decB n).size ≤ 1001 := by have := decB_size n n (Nat.le_refl _); omega
theorem head_size (h : Hk) (hk : Hok h) (hb : (oldN h.2.2).toNat ≤ 200 ∧ (newN h.2.2).toNat ≤ 200) : (headT h).size ≤ 5000 := by
  have e : (headT h).size = (headT h).data.toList.length := by simp
  have d : ∀ n, (decB n).data.toList.length = (decB n).size := fun n => by simp
  rw [e]
  unfold headT
  rw [head_parts]
  simp only [List.length_append, List.length_cons, List.length_nil, d]
  have a0 := hk.a0
  have a1 := hk.a1
  have h1 := dec_size h.1.toNat (by omega)
  have h2 := dec_size (oldN h.2.2).toNat (by omega)
  have h3 := dec_size h.2.1.toNat (by omega)
  have h4 := dec_size (newN h.2.2).toNat (by omega)
  omega
theorem lnT_len (s : ByteArray) : (lnT s).length ≤ s.size + 3 := by
  unfold lnT
  split <;> simp
theorem last_split {l : List UInt8} (h : l ≠ []) : ∃ t x, l = t ++ [x] := ⟨l.dropLast, l.getLast h, (List.dropLast_concat_getLast h).symm⟩
theorem dataPos {s : ByteArray} (hp : 0 < s.size) : s.data.toList ≠ [] := fun h => by
  have h1 : s.data.toList.length = 0 := by rw [h]; rfl
  have h2 : s.data.toList.length = s.size := by simp
  omega
theorem ends_snoc (t : List UInt8) (x : UInt8) : ends (t ++ [x]) = decide (x = 10) := by
  unfold ends
  rw [List.getLast?_append]
  simp
theorem lastByte (s : ByteArray) (hp : 0 < s.size) : ((s.extract (s.size - 1) s.size).toList == [10]) = ends s.data.toList := by
  have e : (s.extract (s.size - 1) s.size).toList = s.data.toList.drop (s.data.toList.length - 1) := by
    rw [ByteArray.toList_eq, ByteArray.data_extract, Array.toList_extract]
    simp only [List.extract]
    rw [List.take_of_length_le (by simp)]
    simp
  rw [e]
  obtain ⟨t, x, hx⟩ := last_split (dataPos hp)
  rw [hx, ends_snoc, show (t ++ [x]).drop ((t ++ [x]).length - 1) = [x] by simp]
  by_cases h : x = 10
  · subst h; rfl
  · rw [decide_eq_false h]
    simp [h]
/-- The last byte of a line, as the specification reads it. -/
theorem lastIdx (s : ByteArray) (hp : 0 < s.size) : (((s[s.size - 1]'(by omega)).toNat : Int) != 10) = !(ends s.data.toList) := by
  obtain ⟨t, x, hx⟩ := last_split (dataPos hp)
  have h1 : s[s.size - 1]'(by omega) = x := by
    have h2 : s.data.toList.length = s.size := by simp
    have h3 : s.data.toList[s.size - 1]? = some x := by
      rw [← h2, hx]; simp
    have h4 : s.data.toList[s.size - 1]? = some (s[s.size - 1]'(by omega)) := by
      rw [List.getElem?_eq_getElem (by omega)]; rfl
    rw [h3] at h4
    exact (Option.some.inj h4).symm
  rw [h1, hx, ends_snoc]
  by_cases h : x = 10
  · subst h; rfl
  · rw [decide_eq_false h]
    have : ¬ (x.toNat : Int) = 10 := fun e => h (by
      apply UInt8.toNat_inj.1
      have : x.toNat = 10 := by omega
      rw [this]; rfl)
    simp [this]
set_option maxHeartbeats 1000000 in
theorem hasSuffix0 (s : ByteArray) (w : World) (hp : 0 < s.size) (hs : s.size ≤ 9223372036854775807) :
    Calls Tryd.prog 60 #[.string s, .string ⟨#[10]⟩] w fun e w' => e = .returned (.bool (ends s.data.toList)) ∧ w' = w := by
  have hE := lastByte s hp
  have q1 : (1 : Int) ≤ (s.size : Int) := by omega
  go_enter Tryd.func60, Tryd.ntmps60
  go_wp2
  go_ret
  exact ⟨rfl, rfl⟩
theorem hasSuffix (s : ByteArray) (w : World) (hp : 0 < s.size) (hs : s.size ≤ 9223372036854775807) :
    Calls Tryd.prog 40 #[.string s, .string ⟨#[10]⟩] w fun e w' => e = .returned (.bool (ends s.data.toList)) ∧ w' = w := by
  go_enter Tryd.func40, Tryd.ntmps40
  go_wp2_with fail
  refine (hasSuffix0 s _ hp hs).mono ?_; rintro e w ⟨rfl, rfl⟩
  go_wp2
  go_ret
  exact ⟨rfl, rfl⟩
end Go.Proofs.YtdfoponekgifkaaDoor.Fp
