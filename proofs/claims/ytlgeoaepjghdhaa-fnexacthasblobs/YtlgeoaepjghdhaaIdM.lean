/- The contracts of IdOf (the program's and the specification's). No statement is proved here. -/
import Derived.Test.YtlgeoaepjghdhaaRows
import Derived.Test.YtlgeoaepjghdhaaLem
import Derived.Test.YtlgeoaepjghdhaaStrs
import Derived.Test.YtlgeoaepjghdhaaLFLem
import Derived.Test.YtlgeoaepjghdhaaIdxB
import Derived.Test.YtlgeoaepjghdhaaSplLem
import Derived.Test.YtlgeoaepjghdhaaTF
import Derived.Test.YtlgeoaepjghdhaaSpl
import Derived.Test.YtlgeoaepjghdhaaDigC
import Derived.Test.YtlgeoaepjghdhaaDTab
import Derived.Test.YtlgeoaepjghdhaaOwn
import Derived.Test.YtlgeoaepjghdhaaFr
import Derived.Test.YtlgeoaepjghdhaaIn
import Derived.Test.YtlgeoaepjghdhaaHkT
import Derived.Laws.BytesArg
import Derived.WalkKit
import Derived.ProofKit
import Derived.Below
namespace Go.Proofs.Ytlgeoaepjghdhaa
open Go.ChangeShapes Go.WideShapes Go.ChangeAt Go.RowKit

def letN (k : Int) : UInt8 := if k = 1 then 98 else if k = 2 then 116 else 99
def hexN (n : Nat) : UInt8 := ([48, 49, 50, 51, 52, 53, 54, 55, 56, 57, 97, 98, 99, 100, 101, 102] : List UInt8).getD n 0
/-- The last k digits of a number. -/
def hexs (d : Nat) : Nat → List UInt8
  | 0 => []
  | k + 1 => hexN (d / 16 ^ k % 16) :: hexs d k
def idN (k : Int) (s : ByteArray) : ByteArray := ⟨(letN k :: hexs (dig s.data.toList).toNat 4).toArray⟩
/-- The code and the text of IdOf. -/
def idK (k : Int) (s : ByteArray) : Int := if inB k 1 3 = true then tf s else 3
def idT (k : Int) (s : ByteArray) : ByteArray := if inB k 1 3 = true then (if tf s = 0 then idN k s else ByteArray.empty) else ByteArray.empty

theorem l5Kind (k : Int) (w : World) : Calls Try.prog 110 #[.int .i64 k] w fun e w' => e = .returned (.bool (inB k 1 3)) ∧ w' = w := by
  go_enter Try.func110, Try.ntmps110
  go_wp2_with fail
  refine (l1In k 1 3 _).mono ?_; rintro e w ⟨rfl, rfl⟩
  go_wp2
  go_ret
  exact ⟨rfl, rfl⟩
theorem isKind (k : Int) (w : World) : Calls Try.prog 113 #[.int .i64 k] w fun e w' => e = .returned (.bool (inB k 1 3)) ∧ w' = w := by
  by_cases h1 : 1 ≤ k
  · have hE : Hid (inB k 1 3 = decide (k ≤ 3)) := by show _ = _; simp [inB, h1]
    go_enter Try.func113, Try.ntmps113
    go_wp2
    go_ret
    exact ⟨ret_bool hE.out.symm, rfl⟩
  · have hE : Hid (inB k 1 3 = false) := by show _ = _; simp [inB, h1]
    go_enter Try.func113, Try.ntmps113
    go_wp2
    go_ret
    exact ⟨ret_bool hE.out.symm, rfl⟩
theorem three {k : Int} (h : inB k 1 3 = true) : k = 1 ∨ k = 2 ∨ k = 3 := by
  have := of_decide_eq_true h
  omega
theorem ret_string {a b : ByteArray} (h : a = b) : Ending.returned (.string a) = .returned (.string b) := by rw [h]
theorem l5Letter (k : Int) (w : World) (h : inB k 1 3 = true) : Calls Try.prog 128 #[.int .i64 k] w fun e w' => e = .returned (.string ⟨#[letN k]⟩) ∧ w' = w := by
  rcases three h with rfl | rfl | rfl
  all_goals
    go_enter Try.func128, Try.ntmps128
    go_wp2
    go_ret
    exact ⟨ret_string (by decide +kernel), rfl⟩
theorem hex_at (n : Nat) (h : n < 16) : (⟨#[48, 49, 50, 51, 52, 53, 54, 55, 56, 57, 97, 98, 99, 100, 101, 102]⟩ : ByteArray).extract n (n + 1) = ⟨#[hexN n]⟩ := by
  have : ∀ n : Fin 16, (⟨#[48, 49, 50, 51, 52, 53, 54, 55, 56, 57, 97, 98, 99, 100, 101, 102]⟩ : ByteArray).extract n.val (n.val + 1) = ⟨#[hexN n.val]⟩ := by decide +kernel
  exact this ⟨n, h⟩
set_option maxHeartbeats 1000000 in
theorem l5Id (k : Int) (s : ByteArray) (w : World) (h : inB k 1 3 = true) (hs : s.size ≤ 1048576) : Calls Try.prog 111 #[.int .i64 k, .string s] w fun e w' => e = .returned (.string (idN k s)) ∧ w' = w := by
  have hd := dig_bd s.data.toList
  obtain ⟨D, hD⟩ : ∃ D : Nat, dig s.data.toList = (D : Int) := ⟨(dig s.data.toList).toNat, by omega⟩
  have HN : Hid (idN k s = ⟨(letN k :: hexs D 4).toArray⟩) := by show _ = _; unfold idN; rw [hD]; rfl
  have H1 := specDigestOf s
  rw [hD] at H1 hd
  have hd1 : D < 65521 := by omega
  clear hD hd
  go_enter Try.func111, Try.ntmps111
  go_wp2_with fail
  refine (H1 _ (by unfold maxLen; omega)).mono ?_; rintro e w ⟨rfl, rfl⟩
  clear H1
  go_wp2
  go_loop [5, 6, 7, 8] (fun x t i _d => ∃ m : Nat, m ≤ 4 ∧ i = .int .i64 m ∧ x = .int .i64 ((D / 16 ^ m : Nat) : Int) ∧ t = .string ⟨(hexs D m).toArray⟩) (fun _ _ i _ => 4 - (intOf i).toNat)
  case atStart => exact ⟨0, by omega, rfl, by simp, rfl⟩
  case round =>
    obtain ⟨m, hm, rfl, rfl, rfl⟩ := hrel
    by_cases hlt : m < 4
    · have q : (m : Int) < 4 := by omega
      have hX : Hid (hexs D (m + 1) = hexN (D / 16 ^ m % 16) :: hexs D m) := rfl
      have hP : Hid (D / 16 ^ (m + 1) = D / 16 ^ m / 16) := by show _ = _; rw [Nat.pow_succ, Nat.div_div_eq_div_mul]
      have hle : D / 16 ^ m ≤ D := Nat.div_le_self _ _
      obtain ⟨X, hx⟩ : ∃ X, D / 16 ^ m = X := ⟨_, rfl⟩
      rw [hx] at hX hP hle ⊢
      clear hx
      have hXI : (0 : Int) ≤ (X : Int) := by omega
      have hT : (hexs D m).length ≤ 4 := by
        have : ∀ n, (hexs D n).length = n := fun n => by induction n with | zero => rfl | succ n ih => simp [hexs, ih]
        rw [this]; omega
      go_wp2
      go_round
      case rel =>
        exact ⟨m + 1, by omega, by go_num, by rw [hP.out]; congr 1, by
          rw [hX.out, hex_at _ (by omega)]
          congr 1⟩
      case measure => simp [intOf]; omega
    · have q : ¬ (m : Int) < 4 := by omega
      have em : m = 4 := by omega
      subst em
      have hT : (hexs D 4).length ≤ 4 := by simp [hexs]
      obtain ⟨T, hTe⟩ : ∃ T, hexs D 4 = T := ⟨_, rfl⟩
      rw [hTe] at HN hT ⊢
      clear hTe
      go_wp2_with (go_at_call 128; refine (l5Letter k _ h).mono ?_; rintro e w' ⟨rfl, rfl⟩)
      go_ret
      exact ⟨ret_string (by
        rw [HN.out]
        apply WideShapes.bytes_inj
        rw [ByteArray.data_append]
        simp), rfl⟩
theorem ret_text {c d : Int} {s t : ByteArray} (h : c = d) (k : s = t) : Ending.returned (.agg #[.int .i64 c, .string s]) = .returned (.agg #[.int .i64 d, .string t]) := by rw [h, k]
theorem emp : (⟨#[]⟩ : ByteArray) = ByteArray.empty := rfl
theorem hexGet (n : Nat) (h : n < 16) : (⟨#[48, 49, 50, 51, 52, 53, 54, 55, 56, 57, 97, 98, 99, 100, 101, 102]⟩ : ByteArray)[n]'(by simpa [ByteArray.size] using h) = hexN n := by
  have : n = 0 ∨ n = 1 ∨ n = 2 ∨ n = 3 ∨ n = 4 ∨ n = 5 ∨ n = 6 ∨ n = 7 ∨ n = 8 ∨ n = 9 ∨ n = 10 ∨ n = 11 ∨ n = 12 ∨ n = 13 ∨ n = 14 ∨ n = 15 := by omega
  rcases this with rfl | rfl | rfl | rfl | rfl | rfl | rfl | rfl | rfl | rfl | rfl | rfl | rfl | rfl | rfl | rfl <;> rfl
theorem Res2.belowAt {w w' : World} {p B : Nat} {u v : Value} (h : Res2 w p u v) (hp : p < B) (hb : Below B w w') : Res2 w' p u v :=
  ⟨(hb.cell (p := ⟨p, 0, none⟩) hp).trans h.c0, (hb.cell (p := ⟨p, 1, none⟩) hp).trans h.c1, (hb.frozen (p := ⟨p, 0, none⟩) hp).trans h.f0, (hb.frozen (p := ⟨p, 1, none⟩) hp).trans h.f1⟩
def idDig (D m j : Nat) : Value := if j ≤ m then .int .u8 0 else .int .u8 ((hexN (D / 16 ^ (4 - j) % 16)).toNat : Int)
/-- The key while its digits are written from the last one on. -/
def idCells (L : UInt8) (D m : Nat) : List Value := [.int .u8 (L.toNat : Int), idDig D m 1, idDig D m 2, idDig D m 3, idDig D m 4]
theorem idCells_at {L : UInt8} {D : Nat} (m : Nat) (h : 0 < m) (h4 : m ≤ 4) : (idCells L D m)[m]? = some (idDig D m m) := by
  have : m = 1 ∨ m = 2 ∨ m = 3 ∨ m = 4 := by omega
  rcases this with rfl | rfl | rfl | rfl <;> rfl
theorem idCells_set {L : UInt8} {D : Nat} (m : Nat) (h : 0 < m) (h4 : m ≤ 4) : (idCells L D m).set m (.int .u8 ((hexN (D / 16 ^ (4 - m) % 16)).toNat : Int)) = idCells L D (m - 1) := by
  have : m = 1 ∨ m = 2 ∨ m = 3 ∨ m = 4 := by omega
  rcases this with rfl | rfl | rfl | rfl <;> rfl
theorem keyText (L : UInt8) (D q2 : Nat) (wr : World) (hA : Rf wr q2 (idCells L D 0)) : (convert 124 9 (.slice (some ⟨q2, 0, none⟩) 5 5)).run Try.prog wr = .ok (.string ⟨(L :: hexs D 4).toArray⟩) wr := by
  rw [run_convert_bytes_arg (P := Try.prog) wr 124 5 Try.underlying124 Try.underlying5 q2 0 5 5 ((L :: hexs D 4).map fun c => (c.toNat : Int)) (by simp [hexs]) (fun i hi => by
    rw [Nat.zero_add]
    have h5 : i = 0 ∨ i = 1 ∨ i = 2 ∨ i = 3 ∨ i = 4 := by omega
    rcases h5 with rfl | rfl | rfl | rfl | rfl <;> exact hA.at_ _ _ rfl) 9 Try.underlying9]
  congr 2
  apply ByteArray.ext
  apply Array.toList_inj.1
  rw [strOfNums_data, List.map_map]
  conv => rhs; rw [← List.map_id (L :: hexs D 4)]
  apply List.map_congr_left
  intro x _
  simp
set_option maxHeartbeats 1000000 in
theorem specIdOf (k : Int) (s : ByteArray) (w : World) (hs : s.size ≤ 1048576) : Calls Try.prog 89 #[.int .i64 k, .string s] w fun e w' => e = .returned (.agg #[.int .i64 (idK k s), .string (idT k s)]) ∧ Below w.heap.size w w' := by
  obtain ⟨W1, hW1⟩ : ∃ W1, w.alloc (.cells #[.int .i64 0, .string ⟨#[]⟩] 48) = W1 := ⟨_, rfl⟩
  have b1 : Below w.heap.size w W1 := by rw [← hW1]; exact allocBelow _ _
  have zW : w.heap.size < W1.heap.size := by rw [← hW1]; simp
  have r1 : Res2 W1 w.heap.size (.int .i64 0) (.string ⟨#[]⟩) := by rw [← hW1]; exact Res2.new _ _ _ _
  have hK := fun w => l5Kind k w
  have hT := fun w => specTextFault s w hs
  cases hk : inB k 1 3 with
  | false =>
    have H1 : Hid (idK k s = 3) := by show _ = _; unfold idK; rw [hk]; rfl
    have H2 : Hid (idT k s = ⟨#[]⟩) := by show _ = _; unfold idT; rw [hk]; rfl
    rw [hk] at hK
    clear hk hT hs
    go_enter Try.func89, Try.ntmps89
    go_wp2_with fail
    refine (hK _).mono ?_; rintro e W1 ⟨rfl, rfl⟩
    clear hK
    have d0 := r1.c0
    have d1 := r1.c1
    have f0 := r1.f0
    have f1 := r1.f1
    have HB : Hid (Below w.heap.size w ((W1.setCell ⟨w.heap.size, 0, none⟩ (.int .i64 3)).setCell ⟨w.heap.size, 1, none⟩ (.string ⟨#[]⟩))) := below_sets b1 (Nat.le_refl _) _ _
    clear r1 b1
    go_wp2
    refine bodyPost_ret (v := .agg #[.int .i64 3, .string ⟨#[]⟩]) (by simp [results, Try.results89, go_sem, d0, d1]) rfl ?_
    exact ⟨ret_text H1.out.symm H2.out.symm, HB.out⟩
  | true =>
    have hkk := hk
    rw [hk] at hK
    go_enter Try.func89, Try.ntmps89
    go_wp2_with fail
    refine (hK _).mono ?_; rintro e W1 ⟨rfl, rfl⟩
    go_wp2_with fail
    refine (hT _).mono ?_; rintro e w2 ⟨rfl, b2⟩
    have r2 := r1.below zW b2
    have B2 := b1.trans (b2.mono b1.size)
    have z2 : w.heap.size < w2.heap.size := Nat.lt_of_lt_of_le zW b2.size
    clear hK hT r1 b1 b2 hW1 zW
    by_cases h0 : tf s = 0
    · have H1 : Hid (idK k s = 0) := by show _ = _; unfold idK; rw [hk, h0]; rfl
      have H2 : Hid (idT k s = idN k s) := by show _ = _; unfold idT; rw [hk, h0]; rfl
      rw [h0]
      clear hk h0
      have hI := fun w => l5Id k s w hkk hs
      obtain ⟨T, hTT⟩ : ∃ T, idN k s = T := ⟨_, rfl⟩
      rw [hTT] at hI H2
      clear hTT hkk
      go_wp2_with fail
      refine (hI _).mono ?_; rintro e w2 ⟨rfl, rfl⟩
      clear hI
      have d0 := r2.c0
      have d1 := r2.c1
      have f0 := r2.f0
      have f1 := r2.f1
      have HB : Hid (Below w.heap.size w ((w2.setCell ⟨w.heap.size, 0, none⟩ (.int .i64 0)).setCell ⟨w.heap.size, 1, none⟩ (.string T))) := below_sets B2 (Nat.le_refl _) _ _
      clear r2 B2
      go_wp2
      refine bodyPost_ret (v := .agg #[.int .i64 0, .string T]) (by simp [results, Try.results89, go_sem, d0, d1]) rfl ?_
      exact ⟨ret_text H1.out.symm H2.out.symm, HB.out⟩
    · have H1 : Hid (idK k s = tf s) := by show _ = _; unfold idK; rw [hk]; rfl
      have H2 : Hid (idT k s = ⟨#[]⟩) := by show _ = _; unfold idT; rw [hk, if_neg h0]; rfl
      have q := ne_beq h0
      obtain ⟨R, hR⟩ : ∃ R, tf s = R := ⟨_, rfl⟩
      rw [hR] at H1 q ⊢
      clear hk hkk hR h0
      have d0 := r2.c0
      have d1 := r2.c1
      have f0 := r2.f0
      have f1 := r2.f1
      have HB : Hid (Below w.heap.size w ((w2.setCell ⟨w.heap.size, 0, none⟩ (.int .i64 R)).setCell ⟨w.heap.size, 1, none⟩ (.string ⟨#[]⟩))) := below_sets B2 (Nat.le_refl _) _ _
      clear r2 B2
      go_wp2
      refine bodyPost_ret (v := .agg #[.int .i64 R, .string ⟨#[]⟩]) (by simp [results, Try.results89, go_sem, d0, d1]) rfl ?_
      exact ⟨ret_text H1.out.symm H2.out.symm, HB.out⟩
set_option maxHeartbeats 1000000 in
theorem implIdOf (k : Int) (s : ByteArray) (w : World) (hs : s.size ≤ 1048576) : Calls Try.prog 91 #[.int .i64 k, .string s] w fun e w' => e = .returned (.agg #[.int .i64 (idK k s), .string (idT k s)]) ∧ Below w.heap.size w w' := by
  obtain ⟨W1, hW1⟩ : ∃ W1, w.alloc (.cells #[.int .i64 0, .string ⟨#[]⟩] 48) = W1 := ⟨_, rfl⟩
  have b1 : Below w.heap.size w W1 := by rw [← hW1]; exact allocBelow _ _
  have zW : w.heap.size < W1.heap.size := by rw [← hW1]; simp
  have r1 : Res2 W1 w.heap.size (.int .i64 0) (.string ⟨#[]⟩) := by rw [← hW1]; exact Res2.new _ _ _ _
  have hK := fun w => isKind k w
  have hT := fun w => implTextFault s w hs
  cases hk : inB k 1 3 with
  | false =>
    have H1 : Hid (idK k s = 3) := by show _ = _; unfold idK; rw [hk]; rfl
    have H2 : Hid (idT k s = ⟨#[]⟩) := by show _ = _; unfold idT; rw [hk]; rfl
    rw [hk] at hK
    clear hk hT hs
    go_enter Try.func91, Try.ntmps91
    go_wp2_with fail
    refine (hK _).mono ?_; rintro e W1 ⟨rfl, rfl⟩
    clear hK
    have d0 := r1.c0
    have d1 := r1.c1
    have f0 := r1.f0
    have f1 := r1.f1
    have HB : Hid (Below w.heap.size w ((W1.setCell ⟨w.heap.size, 0, none⟩ (.int .i64 3)).setCell ⟨w.heap.size, 1, none⟩ (.string ⟨#[]⟩))) := below_sets b1 (Nat.le_refl _) _ _
    clear r1 b1
    go_wp2
    refine bodyPost_ret (v := .agg #[.int .i64 3, .string ⟨#[]⟩]) (by simp [results, Try.results91, go_sem, d0, d1]) rfl ?_
    exact ⟨ret_text H1.out.symm H2.out.symm, HB.out⟩
  | true =>
    have hkk := hk
    rw [hk] at hK
    go_enter Try.func91, Try.ntmps91
    go_wp2_with fail
    refine (hK _).mono ?_; rintro e W1 ⟨rfl, rfl⟩
    go_wp2_with fail
    refine (hT _).mono ?_; rintro e w2 ⟨rfl, b2⟩
    have r2 := r1.below zW b2
    have B2 := b1.trans (b2.mono b1.size)
    have z2 : w.heap.size < w2.heap.size := Nat.lt_of_lt_of_le zW b2.size
    clear hK hT r1 b1 b2 hW1 zW
    by_cases h0 : tf s = 0
    · have H1 : Hid (idK k s = 0) := by show _ = _; unfold idK; rw [hk, h0]; rfl
      have H2 : Hid (idT k s = idN k s) := by show _ = _; unfold idT; rw [hk, h0]; rfl
      rw [h0]
      clear hk h0
      have hk1 : 1 ≤ k := by have := of_decide_eq_true hkk; omega
      have hk3 : k ≤ 3 := by have := of_decide_eq_true hkk; omega
      have ix : ∀ w, (Instr.index 9 (.string ⟨#[98, 116, 99]⟩) (.int .i64 (k - 1))).run Try.prog w = .ok (.int .u8 ((letN k).toNat : Int)) w := by
        rcases three hkk with rfl | rfl | rfl <;> (intro w; kernel_rfl)
      have hd := dig_bd s.data.toList
      obtain ⟨D, hD⟩ : ∃ D : Nat, dig s.data.toList = (D : Int) := ⟨(dig s.data.toList).toNat, by omega⟩
      have HN : Hid (idN k s = ⟨(letN k :: hexs D 4).toArray⟩) := by show _ = _; unfold idN; rw [hD]; rfl
      have HD := fun w => implDigestOf s w (by unfold maxLen; omega)
      rw [hD] at HD hd
      have hd1 : D < 65521 := by omega
      obtain ⟨W3, hW3⟩ : ∃ W3, w2.alloc (.cells #[.int .u8 0, .int .u8 0, .int .u8 0, .int .u8 0, .int .u8 0] 173) = W3 := ⟨_, rfl⟩
      have b3 : Below w2.heap.size w2 W3 := by rw [← hW3]; exact allocBelow _ _
      have z3 : w2.heap.size < W3.heap.size := by rw [← hW3]; simp
      have A3 : Rf W3 w2.heap.size [.int .u8 0, .int .u8 0, .int .u8 0, .int .u8 0, .int .u8 0] := by rw [← hW3]; exact Rf.new _ _ _
      have r3 := r2.below z2 b3
      have B3 := B2.trans (b3.mono B2.size)
      have g0 := A3.at_ 0 _ rfl
      have g1 := A3.fz 0
      have A4 : Hid (Rf (W3.setCell ⟨w2.heap.size, 0, none⟩ (.int .u8 ((letN k).toNat : Int))) w2.heap.size (idCells (letN k) D 4)) := A3.set (o := 0) (by simp) _
      have F4 : Hid (Below w2.heap.size W3 (W3.setCell ⟨w2.heap.size, 0, none⟩ (.int .u8 ((letN k).toNat : Int)))) := (Below.refl _ _).setCell (p := ⟨w2.heap.size, 0, none⟩) (Nat.le_refl _) _
      have Z4 : Hid (w2.heap.size < (W3.setCell ⟨w2.heap.size, 0, none⟩ (.int .u8 ((letN k).toNat : Int))).heap.size) := by show _ < _; rw [World.size_setCell]; exact z3
      clear hD hd hkk
      go_wp2_with fail
      refine (HD _).mono ?_; rintro e W4 ⟨rfl, rfl⟩
      obtain ⟨W4, hW4⟩ : ∃ W4, W3.setCell ⟨w2.heap.size, 0, none⟩ (.int .u8 ((letN k).toNat : Int)) = W4 := ⟨_, rfl⟩
      rw [hW4] at A4 F4 Z4 ⊢
      have r4 := r2.below z2 (b3.trans F4.out)
      have B4 := B2.trans ((b3.trans F4.out).mono B2.size)
      have a4 := A4.out
      have z4 := Z4.out
      have zz : w.heap.size < w2.heap.size := z2
      clear hW3 hW4 A4 F4 Z4 A3 z3 g0 g1 r3 B3 b3 HD ix r2 B2 z2
      obtain ⟨q2, hq2⟩ : ∃ q2, w2.heap.size = q2 := ⟨_, rfl⟩
      rw [hq2] at zz a4 z4 ⊢
      clear hq2
      go_wp2
      go_loopw [7, 8] (fun x i wr => ∃ m : Nat, m ≤ 4 ∧ i = .int .i64 m ∧ x = .int .i64 ((D / 16 ^ (4 - m) : Nat) : Int) ∧ Rf wr q2 (idCells (letN k) D m) ∧ Below q2 W4 wr) (fun _ i _ => (intOf i).toNat)
      case atStart => exact ⟨4, by omega, rfl, by simp, a4, Below.refl _ _⟩
      case round =>
        obtain ⟨m, hm, rfl, rfl, hA, hB⟩ := hrel
        by_cases hlt : 0 < m
        · have q : (0 : Int) < (m : Int) := by omega
          have q5 : (m : Int) < 5 := by omega
          have c0 := hA.at_ m (idDig D m m) (idCells_at m hlt hm)
          have c1 := hA.fz m
          have hX : Hid ((idCells (letN k) D m).set m (.int .u8 ((hexN (D / 16 ^ (4 - m) % 16)).toNat : Int)) = idCells (letN k) D (m - 1)) := idCells_set m hlt hm
          have hP : Hid (D / 16 ^ (4 - (m - 1)) = D / 16 ^ (4 - m) / 16) := by show _ = _; rw [show 4 - (m - 1) = (4 - m) + 1 by omega, Nat.pow_succ, Nat.div_div_eq_div_mul]
          have hle : D / 16 ^ (4 - m) ≤ D := Nat.div_le_self _ _
          have hS := fun v => hA.set (o := m) (by simp [idCells]; omega) v
          have hU := fun v => hB.setCell (p := ⟨q2, m, none⟩) (Nat.le_refl _) v
          obtain ⟨X, hx⟩ : ∃ X, D / 16 ^ (4 - m) = X := ⟨_, rfl⟩
          rw [hx] at hX hP hle ⊢
          clear hx
          have HS : Hid (∀ v, Rf (wr.setCell ⟨q2, m, none⟩ v) q2 ((idCells (letN k) D m).set m v)) := hS
          have HU : Hid (∀ v, Below q2 W4 (wr.setCell ⟨q2, m, none⟩ v)) := hU
          clear hS hU hA hB
          go_wp2
          go_roundw
          case rel =>
            rw [hexGet (X % 16) (by omega)]
            exact ⟨m - 1, by omega, by go_num, by rw [hP.out]; congr 1, by rw [← hX.out]; exact HS.out _, HU.out _⟩
          case measure => simp [intOf]; omega
        · have q : ¬ (0 : Int) < (m : Int) := by omega
          have em : m = 0 := by omega
          subst em
          have r5 := r4.belowAt zz hB
          have B5 := B4.trans (hB.mono (by omega))
          have cv := keyText (letN k) D q2 wr hA
          rw [← HN.out] at cv
          obtain ⟨T, hTT⟩ : ∃ T, idN k s = T := ⟨_, rfl⟩
          rw [hTT] at cv H2
          clear hTT HN hA hB r4 B4 a4 z4
          have d0 := r5.c0
          have d1 := r5.c1
          have f0 := r5.f0
          have f1 := r5.f1
          have HB : Hid (Below w.heap.size w ((wr.setCell ⟨w.heap.size, 0, none⟩ (.int .i64 0)).setCell ⟨w.heap.size, 1, none⟩ (.string T))) := below_sets B5 (Nat.le_refl _) _ _
          clear r5 B5
          go_wp2
          refine bodyPost_ret (v := .agg #[.int .i64 0, .string T]) (by simp [results, Try.results91, go_sem, d0, d1]) rfl ?_
          exact ⟨ret_text H1.out.symm H2.out.symm, HB.out⟩
    · have H1 : Hid (idK k s = tf s) := by show _ = _; unfold idK; rw [hk]; rfl
      have H2 : Hid (idT k s = ⟨#[]⟩) := by show _ = _; unfold idT; rw [hk, if_neg h0]; rfl
      have q := ne_beq h0
      obtain ⟨R, hR⟩ : ∃ R, tf s = R := ⟨_, rfl⟩
      rw [hR] at H1 q ⊢
      clear hk hkk hR h0
      have d0 := r2.c0
      have d1 := r2.c1
      have f0 := r2.f0
      have f1 := r2.f1
      have HB : Hid (Below w.heap.size w ((w2.setCell ⟨w.heap.size, 0, none⟩ (.int .i64 R)).setCell ⟨w.heap.size, 1, none⟩ (.string ⟨#[]⟩))) := below_sets B2 (Nat.le_refl _) _ _
      clear r2 B2
      go_wp2
      refine bodyPost_ret (v := .agg #[.int .i64 R, .string ⟨#[]⟩]) (by simp [results, Try.results91, go_sem, d0, d1]) rfl ?_
      exact ⟨ret_text H1.out.symm H2.out.symm, HB.out⟩
end Go.Proofs.Ytlgeoaepjghdhaa
