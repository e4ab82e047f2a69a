/- The contracts of DigestOf (the program's and the specification's). No statement is proved here. -/
import Derived.Test.YtkgcpndnlefkoaaGreatDoorRows
import Derived.Test.YtkgcpndnlefkoaaGreatDoorLemQ
import Derived.WalkKit
import Derived.ProofKit
import Derived.OpenShut
import Derived.ShutString
import Derived.Below
import Derived.Test.YtkgcpndnlefkoaaGreatDoorLFLemQ
import Derived.Test.YtkgcpndnlefkoaaGreatDoorIterQ
import Derived.Test.YtkgcpndnlefkoaaGreatDoorDTabQ
import Derived.Test.YtkgcpndnlefkoaaGreatDoorInQ
import Derived.Laws.BytesArg
namespace Go.Proofs.YtkgcpndnlefkoaaGreatDoor
open Go.ChangeShapes Go.WideShapes Go.ChangeAt Go.RowKit
open Go.ChangeMaps (open_string shut_string)

set_option maxHeartbeats 400000 in
theorem specDigestOf (s : ByteArray) (w : World) (hs : s.size ≤ maxLen) :
    Calls Tryz.prog 62 #[.string s] w fun e w' => e = .returned (.int .i64 (dig s.data.toList)) ∧ w' = w := by
  unfold maxLen at hs
  go_enter Tryz.func62, Tryz.ntmps62
  go_wp2
  go_loop [3, 4] (fun n i => ∃ k : Nat, k ≤ s.size ∧ i = .int .i64 k ∧ n = .int .i64 (dig (s.data.toList.take k))) (fun _ i => s.size - (intOf i).toNat)
  case atStart => exact ⟨0, Nat.zero_le _, rfl, rfl⟩
  case round =>
    obtain ⟨k, hk, rfl, rfl⟩ := hrel
    obtain ⟨hd0, hd1⟩ := dig_bd (s.data.toList.take k)
    by_cases hlt : k < s.size
    · obtain ⟨hb0, hb1⟩ := byte_bd s[k]
      have HS : Hid (dig (s.data.toList.take (k + 1)) = (dig (s.data.toList.take k) * 131 + (s[k].toNat : Int)) % 65521) := by rw [take_snoc s k hlt]; exact dig_snoc _ _
      go_wp2
      all_goals
        go_round
        case rel => exact ⟨k + 1, by omega, by go_num, by rw [HS.out]⟩
        case measure => simp [intOf]; omega
    · go_wp2
      go_ret
      exact ⟨ret_int (by rw [List.take_of_length_le (by simp; omega)]), rfl⟩

end Go.Proofs.YtkgcpndnlefkoaaGreatDoor
/- The contracts of IdOf (the program's and the specification's). No statement is proved here. -/
namespace Go.Proofs.YtkgcpndnlefkoaaGreatDoor
open Go.ChangeShapes Go.WideShapes Go.ChangeAt Go.RowKit

def letN (k : Int) : UInt8 := if k = 1 then 98 else if k = 2 then 116 else 99
def hexN (n : Nat) : UInt8 := ([48, 49, 50, 51, 52, 53, 54, 55, 56, 57, 97, 98, 99, 100, 101, 102] : List UInt8).getD n 0
/-- The last k digits of a number. -/
def hexs (d : Nat) : Nat → List UInt8
  | 0 => []
  | k + 1 => hexN (d / 16 ^ k % 16) :: hexs d k
def idN (k : Int) (s : ByteArray) : ByteArray := ⟨(letN k :: hexs (dig s.data.toList).toNat 4).toArray⟩
/-- The code and the text of IdOf. -/
def idK (k : Int) (s : ByteArray) : Int := if inB k 1 3 = true then tf s else 3
def idT (k : Int) (s : ByteArray) : ByteArray := if inB k 1 3 = true then (if tf s = 0 then idN k s else ByteArray.empty) else ByteArray.empty

theorem three {k : Int} (h : inB k 1 3 = true) : k = 1 ∨ k = 2 ∨ k = 3 := by
  have := of_decide_eq_true h
  omega
theorem ret_string {a b : ByteArray} (h : a = b) : Ending.returned (.string a) = .returned (.string b) := by rw [h]
theorem l5Letter (k : Int) (w : World) (h : inB k 1 3 = true) : Calls Tryz.prog 63 #[.int .i64 k] w fun e w' => e = .returned (.string ⟨#[letN k]⟩) ∧ w' = w := by
  rcases three h with rfl | rfl | rfl
  all_goals
    go_enter Tryz.func63, Tryz.ntmps63
    go_wp2
    go_ret
    exact ⟨ret_string (by decide +kernel), rfl⟩
theorem hex_at (n : Nat) (h : n < 16) : (⟨#[48, 49, 50, 51, 52, 53, 54, 55, 56, 57, 97, 98, 99, 100, 101, 102]⟩ : ByteArray).extract n (n + 1) = ⟨#[hexN n]⟩ := by
  have : ∀ n : Fin 16, (⟨#[48, 49, 50, 51, 52, 53, 54, 55, 56, 57, 97, 98, 99, 100, 101, 102]⟩ : ByteArray).extract n.val (n.val + 1) = ⟨#[hexN n.val]⟩ := by decide +kernel
  exact this ⟨n, h⟩
set_option maxHeartbeats 1000000 in
theorem l5Id (k : Int) (s : ByteArray) (w : World) (h : inB k 1 3 = true) (hs : s.size ≤ 1048576) : Calls Tryz.prog 44 #[.int .i64 k, .string s] w fun e w' => e = .returned (.string (idN k s)) ∧ w' = w := by
  have hd := dig_bd s.data.toList
  obtain ⟨D, hD⟩ : ∃ D : Nat, dig s.data.toList = (D : Int) := ⟨(dig s.data.toList).toNat, by omega⟩
  have HN : Hid (idN k s = ⟨(letN k :: hexs D 4).toArray⟩) := by show _ = _; unfold idN; rw [hD]; rfl
  have H1 := specDigestOf s
  rw [hD] at H1 hd
  have hd1 : D < 65521 := by omega
  clear hD hd
  go_enter Tryz.func44, Tryz.ntmps44
  go_wp2_with fail
  refine (H1 _ (by unfold maxLen; omega)).mono ?_; rintro e w ⟨rfl, rfl⟩
  clear H1
  go_wp2
  go_loop [5, 6, 7, 8] (fun x t i _d => ∃ m : Nat, m ≤ 4 ∧ i = .int .i64 m ∧ x = .int .i64 ((D / 16 ^ m : Nat) : Int) ∧ t = .string ⟨(hexs D m).toArray⟩) (fun _ _ i _ => 4 - (intOf i).toNat)
  case atStart => exact ⟨0, by omega, rfl, by simp, rfl⟩
  case round =>
    obtain ⟨m, hm, rfl, rfl, rfl⟩ := hrel
    by_cases hlt : m < 4
    · have q : (m : Int) < 4 := by omega
      have hX : Hid (hexs D (m + 1) = hexN (D / 16 ^ m % 16) :: hexs D m) := rfl
      have hP : Hid (D / 16 ^ (m + 1) = D / 16 ^ m / 16) := by show _ = _; rw [Nat.pow_succ, Nat.div_div_eq_div_mul]
      have hle : D / 16 ^ m ≤ D := Nat.div_le_self _ _
      obtain ⟨X, hx⟩ : ∃ X, D / 16 ^ m = X := ⟨_, rfl⟩
      rw [hx] at hX hP hle ⊢
      clear hx
      have hXI : (0 : Int) ≤ (X : Int) := by omega
      have hT : (hexs D m).length ≤ 4 := by
        have : ∀ n, (hexs D n).length = n := fun n => by induction n with | zero => rfl | succ n ih => simp [hexs, ih]
        rw [this]; omega
      go_wp2
      go_round
      case rel =>
        exact ⟨m + 1, by omega, by go_num, by rw [hP.out]; congr 1, by
          rw [hX.out, hex_at _ (by omega)]
          congr 1⟩
      case measure => simp [intOf]; omega
    · have q : ¬ (m : Int) < 4 := by omega
      have em : m = 4 := by omega
      subst em
      have hT : (hexs D 4).length ≤ 4 := by simp [hexs]
      obtain ⟨T, hTe⟩ : ∃ T, hexs D 4 = T := ⟨_, rfl⟩
      rw [hTe] at HN hT ⊢
      clear hTe
      go_wp2_with (go_at_call 63; refine (l5Letter k _ h).mono ?_; rintro e w' ⟨rfl, rfl⟩)
      go_ret
      exact ⟨ret_string (by
        rw [HN.out]
        apply WideShapes.bytes_inj
        rw [ByteArray.data_append]
        simp), rfl⟩
theorem ret_text {c d : Int} {s t : ByteArray} (h : c = d) (k : s = t) : Ending.returned (.agg #[.int .i64 c, .string s]) = .returned (.agg #[.int .i64 d, .string t]) := by rw [h, k]
theorem emp : (⟨#[]⟩ : ByteArray) = ByteArray.empty := rfl
theorem hexGet (n : Nat) (h : n < 16) : (⟨#[48, 49, 50, 51, 52, 53, 54, 55, 56, 57, 97, 98, 99, 100, 101, 102]⟩ : ByteArray)[n]'(by simpa [ByteArray.size] using h) = hexN n := by
  have : n = 0 ∨ n = 1 ∨ n = 2 ∨ n = 3 ∨ n = 4 ∨ n = 5 ∨ n = 6 ∨ n = 7 ∨ n = 8 ∨ n = 9 ∨ n = 10 ∨ n = 11 ∨ n = 12 ∨ n = 13 ∨ n = 14 ∨ n = 15 := by omega
  rcases this with rfl | rfl | rfl | rfl | rfl | rfl | rfl | rfl | rfl | rfl | rfl | rfl | rfl | rfl | rfl | rfl <;> rfl
theorem Res2.belowAt {w w' : World} {p B : Nat} {u v : Value} (h : Res2 w p u v) (hp : p < B) (hb : Below B w w') : Res2 w' p u v :=
  ⟨(hb.cell (p := ⟨p, 0, none⟩) hp).trans h.c0, (hb.cell (p := ⟨p, 1, none⟩) hp).trans h.c1, (hb.frozen (p := ⟨p, 0, none⟩) hp).trans h.f0, (hb.frozen (p := ⟨p, 1, none⟩) hp).trans h.f1⟩
def idDig (D m j : Nat) : Value := if j ≤ m then .int .u8 0 else .int .u8 ((hexN (D / 16 ^ (4 - j) % 16)).toNat : Int)
/-- The key while its digits are written from the last one on. -/
def idCells (L : UInt8) (D m : Nat) : List Value := [.int .u8 (L.toNat : Int), idDig D m 1, idDig D m 2, idDig D m 3, idDig D m 4]
theorem idCells_at {L : UInt8} {D : Nat} (m : Nat) (h : 0 < m) (h4 : m ≤ 4) : (idCells L D m)[m]? = some (idDig D m m) := by
  have : m = 1 ∨ m = 2 ∨ m = 3 ∨ m = 4 := by omega
  rcases this with rfl | rfl | rfl | rfl <;> rfl
theorem idCells_set {L : UInt8} {D : Nat} (m : Nat) (h : 0 < m) (h4 : m ≤ 4) : (idCells L D m).set m (.int .u8 ((hexN (D / 16 ^ (4 - m) % 16)).toNat : Int)) = idCells L D (m - 1) := by
  have : m = 1 ∨ m = 2 ∨ m = 3 ∨ m = 4 := by omega
  rcases this with rfl | rfl | rfl | rfl <;> rfl
theorem keyText (L : UInt8) (D q2 : Nat) (wr : World) (hA : Rf wr q2 (idCells L D 0)) : (convert 22 9 (.slice (some ⟨q2, 0, none⟩) 5 5)).run Tryz.prog wr = .ok (.string ⟨(L :: hexs D 4).toArray⟩) wr := by
  rw [run_convert_bytes_arg (P := Tryz.prog) wr 22 5 Tryz.underlying22 Tryz.underlying5 q2 0 5 5 ((L :: hexs D 4).map fun c => (c.toNat : Int)) (by simp [hexs]) (fun i hi => by
    rw [Nat.zero_add]
    have h5 : i = 0 ∨ i = 1 ∨ i = 2 ∨ i = 3 ∨ i = 4 := by omega
    rcases h5 with rfl | rfl | rfl | rfl | rfl <;> exact hA.at_ _ _ rfl) 9 Tryz.underlying9]
  congr 2
  apply ByteArray.ext
  apply Array.toList_inj.1
  rw [strOfNums_data, List.map_map]
  conv => rhs; rw [← List.map_id (L :: hexs D 4)]
  apply List.map_congr_left
  intro x _
  simp
end Go.Proofs.YtkgcpndnlefkoaaGreatDoor
