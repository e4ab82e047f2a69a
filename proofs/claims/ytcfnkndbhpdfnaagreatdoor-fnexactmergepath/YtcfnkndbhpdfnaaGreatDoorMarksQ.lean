/- Contracts of the laws' marks (markText, markStringS, heldStringS) over this seat's program. No statement is proved here. -/
import Derived.Test.YtcfnkndbhpdfnaaGreatDoorLemQ
import Derived.Laws.Concat
import Derived.Laws.IdiomStrings
namespace Go.Proofs.YtcfnkndbhpdfnaaGreatDoor
open Go.ChangeShapes Go.WideShapes Go.ChangeAt Go.RowKit
theorem ret_string {a b : ByteArray} (h : a = b) : Ending.returned (.string a) = .returned (.string b) := by rw [h]
def dgsF : Nat -> Nat -> ByteArray -> ByteArray
 | 0, _, t => t
 | f + 1, n, t => if n = 0 then t else dgsF f (n / 10) (⟨#[(48 + n % 10).toUInt8]⟩ ++ t)
theorem dgsF_zero (f : Nat) (t : ByteArray) : dgsF f 0 t = t := by
 cases f with
 | zero => rfl
 | succ f => rw [dgsF, if_pos rfl]
theorem dgsF_more : ∀ (f g n : Nat) (t : ByteArray), n <= f -> n <= g -> dgsF f n t = dgsF g n t := by
 intro f
 induction f with
 | zero =>
  intro g n t hf _
  have : n = 0 := by omega
  subst this
  rw [dgsF_zero, dgsF_zero]
 | succ f ih =>
  intro g n t hf hg
  by_cases h0 : n = 0
  ·subst h0; rw [dgsF_zero, dgsF_zero]
  ·cases g with
   | zero => omega
   | succ g =>
    rw [dgsF, dgsF, if_neg h0, if_neg h0]
    exact ih g (n / 10) _ (by omega) (by omega)
def dgs (n : Nat) (t : ByteArray) : ByteArray := dgsF n n t
theorem dgs_zero (t : ByteArray) : dgs 0 t = t := rfl
theorem dgs_pos (n : Nat) (t : ByteArray) (h : ¬ n = 0) : dgs n t = dgs (n / 10) (⟨#[(48 + n % 10).toUInt8]⟩ ++ t) := by
 unfold dgs
 obtain ⟨m, rfl⟩ : ∃ m, n = m + 1 := ⟨n - 1, by omega⟩
 rw [dgsF, if_neg h]
 exact dgsF_more _ _ _ _ (by omega) (Nat.le_refl _)
def mtxt (n : Nat) : ByteArray := ⟨#[109]⟩ ++ dgs n ⟨#[]⟩
theorem conv_one (wx : World) (c : Int) (m : Nat) (hcm : c = (m : Int)) (hm : m < 256) :
  (convert 102 9 (.slice (some ⟨wx.heap.size, 0, none⟩) 1 1)).run Tryz.prog (wx.alloc (.cells #[.int .u8 c] 5)) = .ok (.string ⟨#[m.toUInt8]⟩) (wx.alloc (.cells #[.int .u8 c] 5)) := by
 subst hcm
 have e : (m.toUInt8.toNat : Int) = (m : Int) := by
  have : m.toUInt8.toNat = m % 256 := by simp
  omega
 refine run_convert_bytes_back _ 102 9 5 ⟨wx.heap.size, 0, none⟩ 1 [m.toUInt8] Tryz.underlying102 Tryz.underlying5 Tryz.underlying9 ?_
 intro j hj
 have : j = 0 := by simp at hj; omega
 subst this
 show _ = some (Value.int .u8 (m.toUInt8.toNat : Int))
 rw [e]
 simp [Addr.add]
set_option maxHeartbeats 1000000 in
theorem markText (n : Nat) (h1 : 1 <= n) (h2 : n <= 8388608) (w : World) :
  Calls Tryz.prog 34 #[.int .i64 n] w fun e w' => e = .returned (.string (mtxt n)) /\ Below w.heap.size w w' := by
 go_enter Tryz.func34, Tryz.ntmps34
 go_wp2
 go_loopw [0, 3] (fun i t wr => ∃ (k : Nat) (s : ByteArray), i = .int .i64 k /\ t = .string s /\ s.size + k <= n /\ Hid (dgs n ⟨#[]⟩ = dgs k s) /\ Below w.heap.size w wr) (fun i _ _ => (intOf i).toNat)
 case atStart => exact ⟨n, ⟨#[]⟩, rfl, rfl, by simp [ByteArray.size], rfl, Below.refl _ _⟩
 case round =>
  obtain ⟨k, s, rfl, rfl, hsz, hd, hb⟩ := hrel
  by_cases h0 : k = 0
  ·have h0' : ¬ (0 : Int) < (k : Int) := by omega
   have hd2 : Hid (dgs n ⟨#[]⟩ = s) := by show _ = s; rw [hd.out, h0, dgs_zero]
   clear h0 hd
   go_wp2
   go_ret
   exact ⟨ret_string (by unfold mtxt; rw [hd2.out]), hb⟩
  ·have h0' : (0 : Int) < (k : Int) := by omega
   have hd2 : Hid (dgs n ⟨#[]⟩ = dgs (k / 10) (⟨#[(48 + k % 10).toUInt8]⟩ ++ s)) := by show _ = _; rw [hd.out, dgs_pos k s h0]
   have hcv := fun wx => conv_one wx (48 + (k : Int) % 10) (48 + k % 10) (by omega) (by omega)
   have hsz2 : (⟨#[(48 + k % 10).toUInt8]⟩ ++ s : ByteArray).size = 1 + s.size := by rw [ByteArray.size_append]; rfl
   obtain ⟨d, hde⟩ : ∃ d, (⟨#[(48 + k % 10).toUInt8]⟩ : ByteArray) = d := ⟨_, rfl⟩
   have hd1 : d.size = 1 := by rw [<- hde]; rfl
   rw [hde] at hcv hd2 hsz2
   have HSZ : Hid ((d ++ s).size = 1 + s.size) := hsz2
   clear hd hde hsz2
   go_wp2
   go_roundw
   case rel =>
    refine ⟨k / 10, d ++ s, ?_, rfl, ?_, hd2, hb.alloc hb.size _⟩
    ·go_num
    ·rw [HSZ.out]; omega
   case measure => simp [intOf]; omega
theorem grown_of_below {w w' : World} (h : Below w.heap.size w w') (row : Option Nat) : w.grownBy w' row := ⟨h.os, h.tape, h.output, h.size, fun k hk _ => h.block k hk⟩
end Go.Proofs.YtcfnkndbhpdfnaaGreatDoor
namespace Go.Proofs.YtcfnkndbhpdfnaaGreatDoor
def com : List ByteArray -> List ByteArray -> Nat
 | [], _ => 0
 | _ :: _, [] => 0
 | x :: xs, y :: ys => if x = y then com xs ys + 1 else max (com xs (y :: ys)) (com (x :: xs) ys)
 termination_by xs ys => xs.length + ys.length
theorem com_nil_left (ys : List ByteArray) : com [] ys = 0 := by rw [com]
theorem com_nil_right (xs : List ByteArray) : com xs [] = 0 := by cases xs <;> rw [com]
theorem com_eq (x : ByteArray) (xs ys : List ByteArray) : com (x :: xs) (x :: ys) = com xs ys + 1 := by rw [com, if_pos rfl]
theorem com_ne {x y : ByteArray} (xs ys : List ByteArray) (h : ¬ x = y) : com (x :: xs) (y :: ys) = max (com xs (y :: ys)) (com (x :: xs) ys) := by rw [com, if_neg h]
theorem com_bounds : ∀ (n : Nat) (xs ys : List ByteArray), xs.length + ys.length <= n ->
  (∀ x, com xs ys <= com (x :: xs) ys /\ com (x :: xs) ys <= com xs ys + 1) /\ (∀ y, com xs ys <= com xs (y :: ys) /\ com xs (y :: ys) <= com xs ys + 1) := by
 intro n
 induction n with
 | zero =>
  intro xs ys h
  have hx : xs = [] := List.length_eq_zero_iff.1 (by omega)
  have hy : ys = [] := List.length_eq_zero_iff.1 (by omega)
  subst hx hy
  simp [com_nil_left, com_nil_right]
 | succ n ih =>
  intro xs ys h
  refine ⟨fun x => ?_, fun y => ?_⟩
  ·cases ys with
   | nil => simp [com_nil_right]
   | cons y ys =>
    have hl : xs.length + ys.length <= n := by simp only [List.length_cons] at h; omega
    have i1 := (ih xs ys hl).2 y
    have i2 := (ih xs ys hl).1 x
    by_cases e : x = y
    ·subst e; rw [com_eq]; omega
    ·rw [com_ne xs ys e]; omega
  ·cases xs with
   | nil => simp [com_nil_left]
   | cons x xs =>
    have hl : xs.length + ys.length <= n := by simp only [List.length_cons] at h; omega
    have i1 := (ih xs ys hl).2 y
    have i2 := (ih xs ys hl).1 x
    by_cases e : x = y
    ·subst e; rw [com_eq]; omega
    ·rw [com_ne xs ys e]; omega
theorem com_le_left (x : ByteArray) (xs ys : List ByteArray) : com (x :: xs) ys <= com xs ys + 1 := ((com_bounds _ xs ys (Nat.le_refl _)).1 x).2
theorem com_le_right (y : ByteArray) (xs ys : List ByteArray) : com xs (y :: ys) <= com xs ys + 1 := ((com_bounds _ xs ys (Nat.le_refl _)).2 y).2
theorem com_le_length : ∀ (n : Nat) (xs ys : List ByteArray), xs.length + ys.length <= n -> com xs ys <= xs.length /\ com xs ys <= ys.length := by
 intro n
 induction n with
 | zero =>
  intro xs ys h
  have hx : xs = [] := List.length_eq_zero_iff.1 (by omega)
  subst hx
  simp [com_nil_left]
 | succ n ih =>
  intro xs ys h
  cases xs with
  | nil => simp [com_nil_left]
  | cons x xs =>
   cases ys with
   | nil => simp [com_nil_right]
   | cons y ys =>
    simp only [List.length_cons] at h ⊢
    by_cases e : x = y
    ·subst e
     have := ih xs ys (by omega)
     rw [com_eq]; omega
    ·have i1 := ih xs (y :: ys) (by simp only [List.length_cons]; omega)
     have i2 := ih (x :: xs) ys (by simp only [List.length_cons]; omega)
     simp only [List.length_cons] at i1 i2
     rw [com_ne xs ys e]; omega
def comAt (xs ys : List ByteArray) (i j : Nat) : Nat := com (xs.drop i) (ys.drop j)
theorem comAt_end_left (xs ys : List ByteArray) (i j : Nat) (h : xs.length <= i) : comAt xs ys i j = 0 := by
 unfold comAt; rw [List.drop_of_length_le h, com_nil_left]
theorem comAt_end_right (xs ys : List ByteArray) (i j : Nat) (h : ys.length <= j) : comAt xs ys i j = 0 := by
 unfold comAt; rw [List.drop_of_length_le h, com_nil_right]
theorem getD_drop (xs : List ByteArray) (i : Nat) (h : i < xs.length) : xs.drop i = xs.getD i ByteArray.empty :: xs.drop (i + 1) := by
 rw [List.drop_eq_getElem_cons h]; simp [List.getD, h]
theorem comAt_eq (xs ys : List ByteArray) (i j : Nat) (hi : i < xs.length) (hj : j < ys.length) (h : xs.getD i ByteArray.empty = ys.getD j ByteArray.empty) :
  comAt xs ys i j = comAt xs ys (i + 1) (j + 1) + 1 := by
 unfold comAt; rw [getD_drop xs i hi, getD_drop ys j hj, h, com_eq]
theorem comAt_ne (xs ys : List ByteArray) (i j : Nat) (hi : i < xs.length) (hj : j < ys.length) (h : ¬ xs.getD i ByteArray.empty = ys.getD j ByteArray.empty) :
  comAt xs ys i j = max (comAt xs ys (i + 1) j) (comAt xs ys i (j + 1)) := by
 unfold comAt; rw [getD_drop xs i hi, getD_drop ys j hj, com_ne _ _ h]
theorem comAt_down_left (xs ys : List ByteArray) (i j : Nat) (hj : j < ys.length) : comAt xs ys i j <= comAt xs ys i (j + 1) + 1 := by
 unfold comAt; rw [getD_drop ys j hj]; exact com_le_right _ _ _
theorem comAt_down_right (xs ys : List ByteArray) (i j : Nat) (hi : i < xs.length) : comAt xs ys i j <= comAt xs ys (i + 1) j + 1 := by
 unfold comAt; rw [getD_drop xs i hi]; exact com_le_left _ _ _
theorem comAt_le (xs ys : List ByteArray) (i j : Nat) : comAt xs ys i j <= xs.length /\ comAt xs ys i j <= ys.length := by
 have := com_le_length _ (xs.drop i) (ys.drop j) (Nat.le_refl _)
 simp only [List.length_drop] at this
 unfold comAt
 omega
theorem comAt_best_eq (xs ys : List ByteArray) (i j : Nat) (hi : i < xs.length) (hj : j < ys.length) (h : xs.getD i ByteArray.empty = ys.getD j ByteArray.empty) :
  max (max (comAt xs ys (i + 1) j) (comAt xs ys i (j + 1))) (1 + comAt xs ys (i + 1) (j + 1)) = comAt xs ys i j := by
 have h1 := comAt_down_left xs ys (i + 1) j hj
 have h2 := comAt_down_right xs ys i (j + 1) hi
 rw [comAt_eq xs ys i j hi hj h]
 omega
def skipA (xs ys : List ByteArray) (i j : Nat) : Bool := decide (comAt xs ys i (j + 1) <= comAt xs ys (i + 1) j)
def matF (xs ys : List ByteArray) : Nat -> Nat -> Nat -> List (Nat × Nat)
 | 0, _, _ => []
 | f + 1, i, j =>
  if i < xs.length /\ j < ys.length then
   if xs.getD i ByteArray.empty = ys.getD j ByteArray.empty then (i, j) :: matF xs ys f (i + 1) (j + 1)
   else if skipA xs ys i j = true then matF xs ys f (i + 1) j
   else matF xs ys f i (j + 1)
  else []
def mat (xs ys : List ByteArray) (i j : Nat) : List (Nat × Nat) := matF xs ys ((xs.length - i) + (ys.length - j)) i j
theorem matF_more (xs ys : List ByteArray) : ∀ (f g i j : Nat), (xs.length - i) + (ys.length - j) <= f -> (xs.length - i) + (ys.length - j) <= g -> matF xs ys f i j = matF xs ys g i j := by
 have base : ∀ g i j, (xs.length - i) + (ys.length - j) = 0 -> matF xs ys g i j = [] := by
  intro g i j h
  cases g with
  | zero => rfl
  | succ g => rw [matF, if_neg (by omega)]
 intro f
 induction f with
 | zero => intro g i j hf hg; rw [base 0 i j (by omega), base g i j (by omega)]
 | succ f ih =>
  intro g i j hf hg
  cases g with
  | zero => rw [base (f + 1) i j (by omega), base 0 i j (by omega)]
  | succ g =>
   rw [matF, matF]
   split
   ·rename_i hij
    split
    ·rw [ih g (i + 1) (j + 1) (by omega) (by omega)]
    ·split
     ·rw [ih g (i + 1) j (by omega) (by omega)]
     ·rw [ih g i (j + 1) (by omega) (by omega)]
   ·rfl
theorem mat_end (xs ys : List ByteArray) (i j : Nat) (h : ¬ (i < xs.length /\ j < ys.length)) : mat xs ys i j = [] := by
 unfold mat
 cases hf : (xs.length - i) + (ys.length - j) with
 | zero => rfl
 | succ f => rw [matF, if_neg h]
theorem mat_eq (xs ys : List ByteArray) (i j : Nat) (hi : i < xs.length) (hj : j < ys.length) (h : xs.getD i ByteArray.empty = ys.getD j ByteArray.empty) :
  mat xs ys i j = (i, j) :: mat xs ys (i + 1) (j + 1) := by
 unfold mat
 obtain ⟨f, hf⟩ : ∃ f, (xs.length - i) + (ys.length - j) = f + 1 := ⟨(xs.length - i) + (ys.length - j) - 1, by omega⟩
 rw [hf, matF, if_pos ⟨hi, hj⟩, if_pos h]
 congr 1
 exact matF_more xs ys _ _ _ _ (by omega) (Nat.le_refl _)
theorem mat_skipA (xs ys : List ByteArray) (i j : Nat) (hi : i < xs.length) (hj : j < ys.length) (h : ¬ xs.getD i ByteArray.empty = ys.getD j ByteArray.empty) (hs : skipA xs ys i j = true) :
  mat xs ys i j = mat xs ys (i + 1) j := by
 unfold mat
 obtain ⟨f, hf⟩ : ∃ f, (xs.length - i) + (ys.length - j) = f + 1 := ⟨(xs.length - i) + (ys.length - j) - 1, by omega⟩
 rw [hf, matF, if_pos ⟨hi, hj⟩, if_neg h, if_pos hs]
 exact matF_more xs ys _ _ _ _ (by omega) (Nat.le_refl _)
theorem mat_skipB (xs ys : List ByteArray) (i j : Nat) (hi : i < xs.length) (hj : j < ys.length) (h : ¬ xs.getD i ByteArray.empty = ys.getD j ByteArray.empty) (hs : skipA xs ys i j = false) :
  mat xs ys i j = mat xs ys i (j + 1) := by
 unfold mat
 obtain ⟨f, hf⟩ : ∃ f, (xs.length - i) + (ys.length - j) = f + 1 := ⟨(xs.length - i) + (ys.length - j) - 1, by omega⟩
 rw [hf, matF, if_pos ⟨hi, hj⟩, if_neg h, if_neg (by rw [hs]; simp)]
 exact matF_more xs ys _ _ _ _ (by omega) (Nat.le_refl _)
theorem mat_length (xs ys : List ByteArray) : ∀ (f i j : Nat), (xs.length - i) + (ys.length - j) <= f -> (mat xs ys i j).length = comAt xs ys i j := by
 intro f
 induction f with
 | zero =>
  intro i j h
  rw [mat_end xs ys i j (by omega), comAt_end_left xs ys i j (by omega)]; rfl
 | succ f ih =>
  intro i j h
  by_cases hij : i < xs.length /\ j < ys.length
  ·obtain ⟨hi, hj⟩ := hij
   by_cases he : xs.getD i ByteArray.empty = ys.getD j ByteArray.empty
   ·rw [mat_eq xs ys i j hi hj he, comAt_eq xs ys i j hi hj he, List.length_cons, ih _ _ (by omega)]
   ·rw [comAt_ne xs ys i j hi hj he]
    cases hs : skipA xs ys i j with
    | true =>
     rw [mat_skipA xs ys i j hi hj he hs, ih _ _ (by omega)]
     have := of_decide_eq_true hs
     omega
    | false =>
     rw [mat_skipB xs ys i j hi hj he hs, ih _ _ (by omega)]
     have := of_decide_eq_false hs
     omega
  ·rw [mat_end xs ys i j hij]
   by_cases hi : xs.length <= i
   ·rw [comAt_end_left xs ys i j hi]; rfl
   ·rw [comAt_end_right xs ys i j (by omega)]; rfl
end Go.Proofs.YtcfnkndbhpdfnaaGreatDoor
namespace Go.Proofs.YtcfnkndbhpdfnaaGreatDoor
theorem mat_in (xs ys : List ByteArray) : ∀ (f i j : Nat), (xs.length - i) + (ys.length - j) <= f -> ∀ p ∈ mat xs ys i j, i <= p.1 /\ j <= p.2 /\ p.1 < xs.length /\ p.2 < ys.length /\ xs.getD p.1 ByteArray.empty = ys.getD p.2 ByteArray.empty := by
 intro f
 induction f with
 | zero =>
  intro i j h p hp
  rw [mat_end xs ys i j (by omega)] at hp
  cases hp
 | succ f ih =>
  intro i j h p hp
  by_cases hij : i < xs.length /\ j < ys.length
  ·obtain ⟨hi, hj⟩ := hij
   by_cases e : xs.getD i ByteArray.empty = ys.getD j ByteArray.empty
   ·rw [mat_eq xs ys i j hi hj e] at hp
    rcases List.mem_cons.1 hp with rfl | hp
    ·exact ⟨Nat.le_refl _, Nat.le_refl _, hi, hj, e⟩
    ·have := ih (i + 1) (j + 1) (by omega) p hp
     exact ⟨by omega, by omega, this.2.2⟩
   ·by_cases hs : skipA xs ys i j = true
    ·rw [mat_skipA xs ys i j hi hj e hs] at hp
     have := ih (i + 1) j (by omega) p hp
     exact ⟨by omega, this.2⟩
    ·rw [mat_skipB xs ys i j hi hj e (by simpa using hs)] at hp
     have := ih i (j + 1) (by omega) p hp
     exact ⟨this.1, by omega, this.2.2⟩
  ·rw [mat_end xs ys i j hij] at hp
   cases hp
theorem mat_rises (xs ys : List ByteArray) : ∀ (f i j : Nat), (xs.length - i) + (ys.length - j) <= f -> (mat xs ys i j).Pairwise (fun p q => p.1 < q.1 /\ p.2 < q.2) := by
 intro f
 induction f with
 | zero =>
  intro i j h
  rw [mat_end xs ys i j (by omega)]
  exact List.Pairwise.nil
 | succ f ih =>
  intro i j h
  by_cases hij : i < xs.length /\ j < ys.length
  ·obtain ⟨hi, hj⟩ := hij
   by_cases e : xs.getD i ByteArray.empty = ys.getD j ByteArray.empty
   ·rw [mat_eq xs ys i j hi hj e]
    refine List.Pairwise.cons (fun q hq => ?_) (ih (i + 1) (j + 1) (by omega))
    have := mat_in xs ys _ (i + 1) (j + 1) (Nat.le_refl _) q hq
    exact ⟨by simp only []; omega, by simp only []; omega⟩
   ·by_cases hs : skipA xs ys i j = true
    ·rw [mat_skipA xs ys i j hi hj e hs]
     exact ih (i + 1) j (by omega)
    ·rw [mat_skipB xs ys i j hi hj e (by simpa using hs)]
     exact ih i (j + 1) (by omega)
  ·rw [mat_end xs ys i j hij]
   exact List.Pairwise.nil
end Go.Proofs.YtcfnkndbhpdfnaaGreatDoor
