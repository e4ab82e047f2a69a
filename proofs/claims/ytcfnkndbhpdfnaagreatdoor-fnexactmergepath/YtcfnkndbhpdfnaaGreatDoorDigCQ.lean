/- The contracts of DigestOf (the program's and the specification's). No statement is proved here. -/
import Derived.Test.YtcfnkndbhpdfnaaGreatDoorIterQ
import Derived.Test.YtcfnkndbhpdfnaaGreatDoorObLQ
import Derived.OpenShut
import Derived.ShutString
import Derived.Laws.BytesArg
import Derived.Deep.RegionHeld
import Derived.Laws.Cover1
import Derived.Deep.CutRange
namespace Go.Proofs.YtcfnkndbhpdfnaaGreatDoor
open Go.ChangeShapes Go.WideShapes Go.ChangeAt Go.RowKit
open Go.ChangeMaps (open_string shut_string)
set_option maxHeartbeats 400000 in
theorem specDigestOf (s : ByteArray) (w : World) (hs : s.size <= maxLen) :
  Calls Tryz.prog 100 #[.string s] w fun e w' => e = .returned (.int .i64 (dig s.data.toList)) /\ w' = w := by
 unfold maxLen at hs
 go_enter Tryz.func100, Tryz.ntmps100
 go_wp2
 go_loop [3, 4] (fun n i => ∃ k : Nat, k <= s.size /\ i = .int .i64 k /\ n = .int .i64 (dig (s.data.toList.take k))) (fun _ i => s.size - (intOf i).toNat)
 case atStart => exact ⟨0, Nat.zero_le _, rfl, rfl⟩
 case round =>
  obtain ⟨k, hk, rfl, rfl⟩ := hrel
  obtain ⟨hd0, hd1⟩ := dig_bd (s.data.toList.take k)
  by_cases hlt : k < s.size
  ·obtain ⟨hb0, hb1⟩ := byte_bd s[k]
   have HS : Hid (dig (s.data.toList.take (k + 1)) = (dig (s.data.toList.take k) * 131 + (s[k].toNat : Int)) % 65521) := by rw [take_snoc s k hlt]; exact dig_snoc _ _
   go_wp2
   all_goals
    go_round
    case rel => exact ⟨k + 1, by omega, by go_num, by rw [HS.out]⟩
    case measure => simp [intOf]; omega
  ·go_wp2
   go_ret
   exact ⟨ret_int (by rw [List.take_of_length_le (by simp; omega)]), rfl⟩
set_option maxHeartbeats 400000 in
theorem implDigestOf (s : ByteArray) (w : World) (hs : s.size <= maxLen) :
  Calls Tryz.prog 77 #[.string s] w fun e w' => e = .returned (.int .i64 (dig s.data.toList)) /\ w' = w := by
 unfold maxLen at hs
 go_enter Tryz.func77, Tryz.ntmps77
 go_wp2
 go_loop [3, 7] (fun n i => ∃ k : Nat, k <= s.size /\ i = .int .i64 k /\ n = .int .u32 (dig (s.data.toList.take k))) (fun _ i => s.size - (intOf i).toNat)
 case atStart => exact ⟨0, Nat.zero_le _, rfl, rfl⟩
 case round =>
  obtain ⟨k, hk, rfl, rfl⟩ := hrel
  obtain ⟨hd0, hd1⟩ := dig_bd (s.data.toList.take k)
  by_cases hlt : k < s.size
  ·obtain ⟨hb0, hb1⟩ := byte_bd s[k]
   have HS : Hid (dig (s.data.toList.take (k + 1)) = (dig (s.data.toList.take k) * 131 + (s[k].toNat : Int)) % 65521) := by rw [take_snoc s k hlt]; exact dig_snoc _ _
   go_wp2
   all_goals
    go_round
    case rel => exact ⟨k + 1, by omega, by go_num, by rw [HS.out]⟩
    case measure => simp [intOf]; omega
  ·go_wp2
   go_ret
   exact ⟨ret_int (by rw [List.take_of_length_le (by simp; omega)]), rfl⟩
end Go.Proofs.YtcfnkndbhpdfnaaGreatDoor
namespace Go.Proofs.YtcfnkndbhpdfnaaGreatDoor
open Go.ChangeShapes Go.WideShapes Go.ChangeAt Go.RowKit
def letN (k : Int) : UInt8 := if k = 1 then 98 else if k = 2 then 116 else 99
def hexN (n : Nat) : UInt8 := ([48, 49, 50, 51, 52, 53, 54, 55, 56, 57, 97, 98, 99, 100, 101, 102] : List UInt8).getD n 0
def hexs (d : Nat) : Nat -> List UInt8
 | 0 => []
 | k + 1 => hexN (d / 16 ^ k % 16) :: hexs d k
def idN (k : Int) (s : ByteArray) : ByteArray := ⟨(letN k :: hexs (dig s.data.toList).toNat 4).toArray⟩
def idK (k : Int) (s : ByteArray) : Int := if inB k 1 3 = true then tf s else 3
def idT (k : Int) (s : ByteArray) : ByteArray := if inB k 1 3 = true then (if tf s = 0 then idN k s else ByteArray.empty) else ByteArray.empty
theorem l5Kind (k : Int) (w : World) : Calls Tryz.prog 62 #[.int .i64 k] w fun e w' => e = .returned (.bool (inB k 1 3)) /\ w' = w := by
 go_enter Tryz.func62, Tryz.ntmps62
 go_wp2_with fail
 refine (l1In k 1 3 _).mono ?_; rintro e w ⟨rfl, rfl⟩
 go_wp2
 go_ret
 exact ⟨rfl, rfl⟩
theorem isKind (k : Int) (w : World) : Calls Tryz.prog 75 #[.int .i64 k] w fun e w' => e = .returned (.bool (inB k 1 3)) /\ w' = w := by
 by_cases h1 : 1 <= k
 ·have hE : Hid (inB k 1 3 = decide (k <= 3)) := by show _ = _; simp [inB, h1]
  go_enter Tryz.func75, Tryz.ntmps75
  go_wp2
  go_ret
  exact ⟨ret_bool hE.out.symm, rfl⟩
 ·have hE : Hid (inB k 1 3 = false) := by show _ = _; simp [inB, h1]
  go_enter Tryz.func75, Tryz.ntmps75
  go_wp2
  go_ret
  exact ⟨ret_bool hE.out.symm, rfl⟩
theorem three {k : Int} (h : inB k 1 3 = true) : k = 1 \/ k = 2 \/ k = 3 := by
 have := of_decide_eq_true h
 omega
theorem l5Letter (k : Int) (w : World) (h : inB k 1 3 = true) : Calls Tryz.prog 68 #[.int .i64 k] w fun e w' => e = .returned (.string ⟨#[letN k]⟩) /\ w' = w := by
 rcases three h with rfl | rfl | rfl
 all_goals
  go_enter Tryz.func68, Tryz.ntmps68
  go_wp2
  go_ret
  exact ⟨ret_string (by decide +kernel), rfl⟩
theorem hex_at (n : Nat) (h : n < 16) : (⟨#[48, 49, 50, 51, 52, 53, 54, 55, 56, 57, 97, 98, 99, 100, 101, 102]⟩ : ByteArray).extract n (n + 1) = ⟨#[hexN n]⟩ := by
 have : ∀ n : Fin 16, (⟨#[48, 49, 50, 51, 52, 53, 54, 55, 56, 57, 97, 98, 99, 100, 101, 102]⟩ : ByteArray).extract n.val (n.val + 1) = ⟨#[hexN n.val]⟩ := by decide +kernel
 exact this ⟨n, h⟩
set_option maxHeartbeats 1000000 in
theorem l5Id (k : Int) (s : ByteArray) (w : World) (h : inB k 1 3 = true) (hs : s.size <= 1048576) : Calls Tryz.prog 64 #[.int .i64 k, .string s] w fun e w' => e = .returned (.string (idN k s)) /\ w' = w := by
 have hd := dig_bd s.data.toList
 obtain ⟨D, hD⟩ : ∃ D : Nat, dig s.data.toList = (D : Int) := ⟨(dig s.data.toList).toNat, by omega⟩
 have HN : Hid (idN k s = ⟨(letN k :: hexs D 4).toArray⟩) := by show _ = _; unfold idN; rw [hD]; rfl
 have H1 := specDigestOf s
 rw [hD] at H1 hd
 have hd1 : D < 65521 := by omega
 clear hD hd
 go_enter Tryz.func64, Tryz.ntmps64
 go_wp2_with fail
 refine (H1 _ (by unfold maxLen; omega)).mono ?_; rintro e w ⟨rfl, rfl⟩
 clear H1
 go_wp2
 go_loop [5, 6, 7, 8] (fun x t i _d => ∃ m : Nat, m <= 4 /\ i = .int .i64 m /\ x = .int .i64 ((D / 16 ^ m : Nat) : Int) /\ t = .string ⟨(hexs D m).toArray⟩) (fun _ _ i _ => 4 - (intOf i).toNat)
 case atStart => exact ⟨0, by omega, rfl, by simp, rfl⟩
 case round =>
  obtain ⟨m, hm, rfl, rfl, rfl⟩ := hrel
  by_cases hlt : m < 4
  ·have q : (m : Int) < 4 := by omega
   have hX : Hid (hexs D (m + 1) = hexN (D / 16 ^ m % 16) :: hexs D m) := rfl
   have hP : Hid (D / 16 ^ (m + 1) = D / 16 ^ m / 16) := by show _ = _; rw [Nat.pow_succ, Nat.div_div_eq_div_mul]
   have hle : D / 16 ^ m <= D := Nat.div_le_self _ _
   obtain ⟨X, hx⟩ : ∃ X, D / 16 ^ m = X := ⟨_, rfl⟩
   rw [hx] at hX hP hle ⊢
   clear hx
   have hXI : (0 : Int) <= (X : Int) := by omega
   have hT : (hexs D m).length <= 4 := by
    have : ∀ n, (hexs D n).length = n := fun n => by induction n with | zero => rfl | succ n ih => simp [hexs, ih]
    rw [this]; omega
   go_wp2
   go_round
   case rel =>
    exact ⟨m + 1, by omega, by go_num, by rw [hP.out]; congr 1, by
     rw [hX.out, hex_at _ (by omega)]
     congr 1⟩
   case measure => simp [intOf]; omega
  ·have q : ¬ (m : Int) < 4 := by omega
   have em : m = 4 := by omega
   subst em
   have hT : (hexs D 4).length <= 4 := by simp [hexs]
   obtain ⟨T, hTe⟩ : ∃ T, hexs D 4 = T := ⟨_, rfl⟩
   rw [hTe] at HN hT ⊢
   clear hTe
   go_wp2_with (go_at_call 68; refine (l5Letter k _ h).mono ?_; rintro e w' ⟨rfl, rfl⟩)
   go_ret
   exact ⟨ret_string (by
    rw [HN.out]
    apply WideShapes.bytes_inj
    rw [ByteArray.data_append]
    simp), rfl⟩
theorem ret_text {c d : Int} {s t : ByteArray} (h : c = d) (k : s = t) : Ending.returned (.agg #[.int .i64 c, .string s]) = .returned (.agg #[.int .i64 d, .string t]) := by rw [h, k]
theorem hexGet (n : Nat) (h : n < 16) : (⟨#[48, 49, 50, 51, 52, 53, 54, 55, 56, 57, 97, 98, 99, 100, 101, 102]⟩ : ByteArray)[n]'(by simpa [ByteArray.size] using h) = hexN n := by
 have : n = 0 \/ n = 1 \/ n = 2 \/ n = 3 \/ n = 4 \/ n = 5 \/ n = 6 \/ n = 7 \/ n = 8 \/ n = 9 \/ n = 10 \/ n = 11 \/ n = 12 \/ n = 13 \/ n = 14 \/ n = 15 := by omega
 rcases this with rfl | rfl | rfl | rfl | rfl | rfl | rfl | rfl | rfl | rfl | rfl | rfl | rfl | rfl | rfl | rfl <;> rfl
theorem Res2.belowAt {w w' : World} {p B : Nat} {u v : Value} (h : Res2 w p u v) (hp : p < B) (hb : Below B w w') : Res2 w' p u v :=
 ⟨(hb.cell (p := ⟨p, 0, none⟩) hp).trans h.c0, (hb.cell (p := ⟨p, 1, none⟩) hp).trans h.c1, (hb.frozen (p := ⟨p, 0, none⟩) hp).trans h.f0, (hb.frozen (p := ⟨p, 1, none⟩) hp).trans h.f1⟩
def idDig (D m j : Nat) : Value := if j <= m then .int .u8 0 else .int .u8 ((hexN (D / 16 ^ (4 - j) % 16)).toNat : Int)
def idCells (L : UInt8) (D m : Nat) : List Value := [.int .u8 (L.toNat : Int), idDig D m 1, idDig D m 2, idDig D m 3, idDig D m 4]
theorem idCells_at {L : UInt8} {D : Nat} (m : Nat) (h : 0 < m) (h4 : m <= 4) : (idCells L D m)[m]? = some (idDig D m m) := by
 have : m = 1 \/ m = 2 \/ m = 3 \/ m = 4 := by omega
 rcases this with rfl | rfl | rfl | rfl <;> rfl
theorem idCells_set {L : UInt8} {D : Nat} (m : Nat) (h : 0 < m) (h4 : m <= 4) : (idCells L D m).set m (.int .u8 ((hexN (D / 16 ^ (4 - m) % 16)).toNat : Int)) = idCells L D (m - 1) := by
 have : m = 1 \/ m = 2 \/ m = 3 \/ m = 4 := by omega
 rcases this with rfl | rfl | rfl | rfl <;> rfl
theorem keyText (L : UInt8) (D q2 : Nat) (wr : World) (hA : Rf wr q2 (idCells L D 0)) : (convert 102 9 (.slice (some ⟨q2, 0, none⟩) 5 5)).run Tryz.prog wr = .ok (.string ⟨(L :: hexs D 4).toArray⟩) wr := by
 rw [run_convert_bytes_arg (P := Tryz.prog) wr 102 5 Tryz.underlying102 Tryz.underlying5 q2 0 5 5 ((L :: hexs D 4).map fun c => (c.toNat : Int)) (by simp [hexs]) (fun i hi => by
  rw [Nat.zero_add]
  have h5 : i = 0 \/ i = 1 \/ i = 2 \/ i = 3 \/ i = 4 := by omega
  rcases h5 with rfl | rfl | rfl | rfl | rfl <;> exact hA.at_ _ _ rfl) 9 Tryz.underlying9]
 congr 2
 apply ByteArray.ext
 apply Array.toList_inj.1
 rw [strOfNums_data, List.map_map]
 conv => rhs; rw [<- List.map_id (L :: hexs D 4)]
 apply List.map_congr_left
 intro x _
 simp
set_option maxHeartbeats 1000000 in
theorem specIdOf (k : Int) (s : ByteArray) (w : World) (hs : s.size <= 1048576) : Calls Tryz.prog 40 #[.int .i64 k, .string s] w fun e w' => e = .returned (.agg #[.int .i64 (idK k s), .string (idT k s)]) /\ Below w.heap.size w w' := by
 obtain ⟨W1, hW1⟩ : ∃ W1, w.alloc (.cells #[.int .i64 0, .string ⟨#[]⟩] 73) = W1 := ⟨_, rfl⟩
 have b1 : Below w.heap.size w W1 := by rw [<- hW1]; exact allocBelow _ _
 have zW : w.heap.size < W1.heap.size := by rw [<- hW1]; simp
 have r1 : Res2 W1 w.heap.size (.int .i64 0) (.string ⟨#[]⟩) := by rw [<- hW1]; exact Res2.new _ _ _ _
 have hK := fun w => l5Kind k w
 have hT := fun w => specTextFault s w hs
 cases hk : inB k 1 3 with
 | false =>
  have H1 : Hid (idK k s = 3) := by show _ = _; unfold idK; rw [hk]; rfl
  have H2 : Hid (idT k s = ⟨#[]⟩) := by show _ = _; unfold idT; rw [hk]; rfl
  rw [hk] at hK
  clear hk hT hs
  go_enter Tryz.func40, Tryz.ntmps40
  go_wp2_with fail
  refine (hK _).mono ?_; rintro e W1 ⟨rfl, rfl⟩
  clear hK
  have d0 := r1.c0
  have d1 := r1.c1
  have f0 := r1.f0
  have f1 := r1.f1
  have HB : Hid (Below w.heap.size w ((W1.setCell ⟨w.heap.size, 0, none⟩ (.int .i64 3)).setCell ⟨w.heap.size, 1, none⟩ (.string ⟨#[]⟩))) := below_sets b1 (Nat.le_refl _) _ _
  clear r1 b1
  go_wp2
  refine bodyPost_ret (v := .agg #[.int .i64 3, .string ⟨#[]⟩]) (by simp [results, Tryz.results40, go_sem, d0, d1]) rfl ?_
  exact ⟨ret_text H1.out.symm H2.out.symm, HB.out⟩
 | true =>
  have hkk := hk
  rw [hk] at hK
  go_enter Tryz.func40, Tryz.ntmps40
  go_wp2_with fail
  refine (hK _).mono ?_; rintro e W1 ⟨rfl, rfl⟩
  go_wp2_with fail
  refine (hT _).mono ?_; rintro e w2 ⟨rfl, b2⟩
  have r2 := r1.below zW b2
  have B2 := b1.trans (b2.mono b1.size)
  have z2 : w.heap.size < w2.heap.size := Nat.lt_of_lt_of_le zW b2.size
  clear hK hT r1 b1 b2 hW1 zW
  by_cases h0 : tf s = 0
  ·have H1 : Hid (idK k s = 0) := by show _ = _; unfold idK; rw [hk, h0]; rfl
   have H2 : Hid (idT k s = idN k s) := by show _ = _; unfold idT; rw [hk, h0]; rfl
   rw [h0]
   clear hk h0
   have hI := fun w => l5Id k s w hkk hs
   obtain ⟨T, hTT⟩ : ∃ T, idN k s = T := ⟨_, rfl⟩
   rw [hTT] at hI H2
   clear hTT hkk
   go_wp2_with fail
   refine (hI _).mono ?_; rintro e w2 ⟨rfl, rfl⟩
   clear hI
   have d0 := r2.c0
   have d1 := r2.c1
   have f0 := r2.f0
   have f1 := r2.f1
   have HB : Hid (Below w.heap.size w ((w2.setCell ⟨w.heap.size, 0, none⟩ (.int .i64 0)).setCell ⟨w.heap.size, 1, none⟩ (.string T))) := below_sets B2 (Nat.le_refl _) _ _
   clear r2 B2
   go_wp2
   refine bodyPost_ret (v := .agg #[.int .i64 0, .string T]) (by simp [results, Tryz.results40, go_sem, d0, d1]) rfl ?_
   exact ⟨ret_text H1.out.symm H2.out.symm, HB.out⟩
  ·have H1 : Hid (idK k s = tf s) := by show _ = _; unfold idK; rw [hk]; rfl
   have H2 : Hid (idT k s = ⟨#[]⟩) := by show _ = _; unfold idT; rw [hk, if_neg h0]; rfl
   have q := ne_beq h0
   obtain ⟨R, hR⟩ : ∃ R, tf s = R := ⟨_, rfl⟩
   rw [hR] at H1 q ⊢
   clear hk hkk hR h0
   have d0 := r2.c0
   have d1 := r2.c1
   have f0 := r2.f0
   have f1 := r2.f1
   have HB : Hid (Below w.heap.size w ((w2.setCell ⟨w.heap.size, 0, none⟩ (.int .i64 R)).setCell ⟨w.heap.size, 1, none⟩ (.string ⟨#[]⟩))) := below_sets B2 (Nat.le_refl _) _ _
   clear r2 B2
   go_wp2
   refine bodyPost_ret (v := .agg #[.int .i64 R, .string ⟨#[]⟩]) (by simp [results, Tryz.results40, go_sem, d0, d1]) rfl ?_
   exact ⟨ret_text H1.out.symm H2.out.symm, HB.out⟩
set_option maxHeartbeats 1000000 in
theorem implIdOf (k : Int) (s : ByteArray) (w : World) (hs : s.size <= 1048576) : Calls Tryz.prog 49 #[.int .i64 k, .string s] w fun e w' => e = .returned (.agg #[.int .i64 (idK k s), .string (idT k s)]) /\ Below w.heap.size w w' := by
 obtain ⟨W1, hW1⟩ : ∃ W1, w.alloc (.cells #[.int .i64 0, .string ⟨#[]⟩] 73) = W1 := ⟨_, rfl⟩
 have b1 : Below w.heap.size w W1 := by rw [<- hW1]; exact allocBelow _ _
 have zW : w.heap.size < W1.heap.size := by rw [<- hW1]; simp
 have r1 : Res2 W1 w.heap.size (.int .i64 0) (.string ⟨#[]⟩) := by rw [<- hW1]; exact Res2.new _ _ _ _
 have hK := fun w => isKind k w
 have hT := fun w => implTextFault s w hs
 cases hk : inB k 1 3 with
 | false =>
  have H1 : Hid (idK k s = 3) := by show _ = _; unfold idK; rw [hk]; rfl
  have H2 : Hid (idT k s = ⟨#[]⟩) := by show _ = _; unfold idT; rw [hk]; rfl
  rw [hk] at hK
  clear hk hT hs
  go_enter Tryz.func49, Tryz.ntmps49
  go_wp2_with fail
  refine (hK _).mono ?_; rintro e W1 ⟨rfl, rfl⟩
  clear hK
  have d0 := r1.c0
  have d1 := r1.c1
  have f0 := r1.f0
  have f1 := r1.f1
  have HB : Hid (Below w.heap.size w ((W1.setCell ⟨w.heap.size, 0, none⟩ (.int .i64 3)).setCell ⟨w.heap.size, 1, none⟩ (.string ⟨#[]⟩))) := below_sets b1 (Nat.le_refl _) _ _
  clear r1 b1
  go_wp2
  refine bodyPost_ret (v := .agg #[.int .i64 3, .string ⟨#[]⟩]) (by simp [results, Tryz.results49, go_sem, d0, d1]) rfl ?_
  exact ⟨ret_text H1.out.symm H2.out.symm, HB.out⟩
 | true =>
  have hkk := hk
  rw [hk] at hK
  go_enter Tryz.func49, Tryz.ntmps49
  go_wp2_with fail
  refine (hK _).mono ?_; rintro e W1 ⟨rfl, rfl⟩
  go_wp2_with fail
  refine (hT _).mono ?_; rintro e w2 ⟨rfl, b2⟩
  have r2 := r1.below zW b2
  have B2 := b1.trans (b2.mono b1.size)
  have z2 : w.heap.size < w2.heap.size := Nat.lt_of_lt_of_le zW b2.size
  clear hK hT r1 b1 b2 hW1 zW
  by_cases h0 : tf s = 0
  ·have H1 : Hid (idK k s = 0) := by show _ = _; unfold idK; rw [hk, h0]; rfl
   have H2 : Hid (idT k s = idN k s) := by show _ = _; unfold idT; rw [hk, h0]; rfl
   rw [h0]
   clear hk h0
   have hk1 : 1 <= k := by have := of_decide_eq_true hkk; omega
   have hk3 : k <= 3 := by have := of_decide_eq_true hkk; omega
   have ix : ∀ w, (Instr.index 9 (.string ⟨#[98, 116, 99]⟩) (.int .i64 (k - 1))).run Tryz.prog w = .ok (.int .u8 ((letN k).toNat : Int)) w := by
    rcases three hkk with rfl | rfl | rfl <;> (intro w; kernel_rfl)
   have hd := dig_bd s.data.toList
   obtain ⟨D, hD⟩ : ∃ D : Nat, dig s.data.toList = (D : Int) := ⟨(dig s.data.toList).toNat, by omega⟩
   have HN : Hid (idN k s = ⟨(letN k :: hexs D 4).toArray⟩) := by show _ = _; unfold idN; rw [hD]; rfl
   have HD := fun w => implDigestOf s w (by unfold maxLen; omega)
   rw [hD] at HD hd
   have hd1 : D < 65521 := by omega
   obtain ⟨W3, hW3⟩ : ∃ W3, w2.alloc (.cells #[.int .u8 0, .int .u8 0, .int .u8 0, .int .u8 0, .int .u8 0] 119) = W3 := ⟨_, rfl⟩
   have b3 : Below w2.heap.size w2 W3 := by rw [<- hW3]; exact allocBelow _ _
   have z3 : w2.heap.size < W3.heap.size := by rw [<- hW3]; simp
   have A3 : Rf W3 w2.heap.size [.int .u8 0, .int .u8 0, .int .u8 0, .int .u8 0, .int .u8 0] := by rw [<- hW3]; exact Rf.new _ _ _
   have r3 := r2.below z2 b3
   have B3 := B2.trans (b3.mono B2.size)
   have g0 := A3.at_ 0 _ rfl
   have g1 := A3.fz 0
   have A4 : Hid (Rf (W3.setCell ⟨w2.heap.size, 0, none⟩ (.int .u8 ((letN k).toNat : Int))) w2.heap.size (idCells (letN k) D 4)) := A3.set (o := 0) (by simp) _
   have F4 : Hid (Below w2.heap.size W3 (W3.setCell ⟨w2.heap.size, 0, none⟩ (.int .u8 ((letN k).toNat : Int)))) := (Below.refl _ _).setCell (p := ⟨w2.heap.size, 0, none⟩) (Nat.le_refl _) _
   have Z4 : Hid (w2.heap.size < (W3.setCell ⟨w2.heap.size, 0, none⟩ (.int .u8 ((letN k).toNat : Int))).heap.size) := by show _ < _; rw [World.size_setCell]; exact z3
   clear hD hd hkk
   go_wp2_with fail
   refine (HD _).mono ?_; rintro e W4 ⟨rfl, rfl⟩
   obtain ⟨W4, hW4⟩ : ∃ W4, W3.setCell ⟨w2.heap.size, 0, none⟩ (.int .u8 ((letN k).toNat : Int)) = W4 := ⟨_, rfl⟩
   rw [hW4] at A4 F4 Z4 ⊢
   have r4 := r2.below z2 (b3.trans F4.out)
   have B4 := B2.trans ((b3.trans F4.out).mono B2.size)
   have a4 := A4.out
   have z4 := Z4.out
   have zz : w.heap.size < w2.heap.size := z2
   clear hW3 hW4 A4 F4 Z4 A3 z3 g0 g1 r3 B3 b3 HD ix r2 B2 z2
   obtain ⟨q2, hq2⟩ : ∃ q2, w2.heap.size = q2 := ⟨_, rfl⟩
   rw [hq2] at zz a4 z4 ⊢
   clear hq2
   go_wp2
   go_loopw [7, 8] (fun x i wr => ∃ m : Nat, m <= 4 /\ i = .int .i64 m /\ x = .int .i64 ((D / 16 ^ (4 - m) : Nat) : Int) /\ Rf wr q2 (idCells (letN k) D m) /\ Below q2 W4 wr) (fun _ i _ => (intOf i).toNat)
   case atStart => exact ⟨4, by omega, rfl, by simp, a4, Below.refl _ _⟩
   case round =>
    obtain ⟨m, hm, rfl, rfl, hA, hB⟩ := hrel
    by_cases hlt : 0 < m
    ·have q : (0 : Int) < (m : Int) := by omega
     have q5 : (m : Int) < 5 := by omega
     have c0 := hA.at_ m (idDig D m m) (idCells_at m hlt hm)
     have c1 := hA.fz m
     have hX : Hid ((idCells (letN k) D m).set m (.int .u8 ((hexN (D / 16 ^ (4 - m) % 16)).toNat : Int)) = idCells (letN k) D (m - 1)) := idCells_set m hlt hm
     have hP : Hid (D / 16 ^ (4 - (m - 1)) = D / 16 ^ (4 - m) / 16) := by show _ = _; rw [show 4 - (m - 1) = (4 - m) + 1 by omega, Nat.pow_succ, Nat.div_div_eq_div_mul]
     have hle : D / 16 ^ (4 - m) <= D := Nat.div_le_self _ _
     have hS := fun v => hA.set (o := m) (by simp [idCells]; omega) v
     have hU := fun v => hB.setCell (p := ⟨q2, m, none⟩) (Nat.le_refl _) v
     obtain ⟨X, hx⟩ : ∃ X, D / 16 ^ (4 - m) = X := ⟨_, rfl⟩
     rw [hx] at hX hP hle ⊢
     clear hx
     have HS : Hid (∀ v, Rf (wr.setCell ⟨q2, m, none⟩ v) q2 ((idCells (letN k) D m).set m v)) := hS
     have HU : Hid (∀ v, Below q2 W4 (wr.setCell ⟨q2, m, none⟩ v)) := hU
     clear hS hU hA hB
     go_wp2
     go_roundw
     case rel =>
      rw [hexGet (X % 16) (by omega)]
      exact ⟨m - 1, by omega, by go_num, by rw [hP.out]; congr 1, by rw [<- hX.out]; exact HS.out _, HU.out _⟩
     case measure => simp [intOf]; omega
    ·have q : ¬ (0 : Int) < (m : Int) := by omega
     have em : m = 0 := by omega
     subst em
     have r5 := r4.belowAt zz hB
     have B5 := B4.trans (hB.mono (by omega))
     have cv := keyText (letN k) D q2 wr hA
     rw [<- HN.out] at cv
     obtain ⟨T, hTT⟩ : ∃ T, idN k s = T := ⟨_, rfl⟩
     rw [hTT] at cv H2
     clear hTT HN hA hB r4 B4 a4 z4
     have d0 := r5.c0
     have d1 := r5.c1
     have f0 := r5.f0
     have f1 := r5.f1
     have HB : Hid (Below w.heap.size w ((wr.setCell ⟨w.heap.size, 0, none⟩ (.int .i64 0)).setCell ⟨w.heap.size, 1, none⟩ (.string T))) := below_sets B5 (Nat.le_refl _) _ _
     clear r5 B5
     go_wp2
     refine bodyPost_ret (v := .agg #[.int .i64 0, .string T]) (by simp [results, Tryz.results49, go_sem, d0, d1]) rfl ?_
     exact ⟨ret_text H1.out.symm H2.out.symm, HB.out⟩
  ·have H1 : Hid (idK k s = tf s) := by show _ = _; unfold idK; rw [hk]; rfl
   have H2 : Hid (idT k s = ⟨#[]⟩) := by show _ = _; unfold idT; rw [hk, if_neg h0]; rfl
   have q := ne_beq h0
   obtain ⟨R, hR⟩ : ∃ R, tf s = R := ⟨_, rfl⟩
   rw [hR] at H1 q ⊢
   clear hk hkk hR h0
   have d0 := r2.c0
   have d1 := r2.c1
   have f0 := r2.f0
   have f1 := r2.f1
   have HB : Hid (Below w.heap.size w ((w2.setCell ⟨w.heap.size, 0, none⟩ (.int .i64 R)).setCell ⟨w.heap.size, 1, none⟩ (.string ⟨#[]⟩))) := below_sets B2 (Nat.le_refl _) _ _
   clear r2 B2
   go_wp2
   refine bodyPost_ret (v := .agg #[.int .i64 R, .string ⟨#[]⟩]) (by simp [results, Tryz.results49, go_sem, d0, d1]) rfl ?_
   exact ⟨ret_text H1.out.symm H2.out.symm, HB.out⟩
end Go.Proofs.YtcfnkndbhpdfnaaGreatDoor
namespace Go.Proofs.YtcfnkndbhpdfnaaGreatDoor
open Go.ChangeShapes Go.WideShapes Go.ChangeAt Go.RowKit
def leS (a b : ByteArray) : Bool := Op.bytesLess a.toList b.toList || a.toList == b.toList
def obF (l : List Ob) (k : Nat) : Int :=
 if idK (l.getD k onil).2.1 (l.getD k onil).2.2 = 0 then
  (if idT (l.getD k onil).2.1 (l.getD k onil).2.2 = (l.getD k onil).1 then (if 0 < k /\ leS (l.getD k onil).1 (l.getD (k - 1) onil).1 = true then 1 else 0) else 1)
 else idK (l.getD k onil).2.1 (l.getD k onil).2.2
def sf (l : List Ob) : Int := if 200 < l.length then 2 else (((List.range l.length).map (obF l)).find? (fun x => decide (x ≠ 0))).getD 0
theorem sf_many {l : List Ob} (h : 200 < l.length) : sf l = 2 := if_pos h
theorem sf_bad {l : List Ob} {k : Nat} (h : ¬ 200 < l.length) (hk : k < l.length) (h0 : ∀ j, j < k -> obF l j = 0) (hb : ¬ obF l k = 0) : sf l = obF l k := by
 unfold sf
 rw [if_neg h]
 have : ((List.range l.length).map (obF l)).find? (fun x => decide (x ≠ 0)) = some (obF l k) := by
  rw [List.find?_eq_some_iff_getElem]
  refine ⟨by simp [hb], k, by simp [hk], by simp, fun j hj => ?_⟩
  simp [h0 j hj]
 rw [this]; rfl
theorem sf_ok {l : List Ob} (h : ¬ 200 < l.length) (h0 : ∀ j, j < l.length -> obF l j = 0) : sf l = 0 := by
 unfold sf
 rw [if_neg h]
 have : ((List.range l.length).map (obF l)).find? (fun x => decide (x ≠ 0)) = none := by
  rw [List.find?_eq_none]
  intro x hx
  obtain ⟨j, hj, rfl⟩ := List.mem_map.1 hx
  simp [h0 j (List.mem_range.1 hj)]
 rw [this]; rfl
theorem sf_zero {l : List Ob} (h : sf l = 0) : ¬ 200 < l.length /\ ∀ j, j < l.length -> obF l j = 0 := by
 have h1 : ¬ 200 < l.length := fun h' => by rw [sf_many h'] at h; omega
 refine ⟨h1, ?_⟩
 have key : ∀ n j, j < n -> j < l.length -> obF l j = 0 := by
  intro n
  induction n with
  | zero => intro j hj; omega
  | succ n ih =>
   intro j hj hl
   by_cases e : j < n
   ·exact ih j e hl
   ·by_cases hb : obF l j = 0
    ·exact hb
    ·rw [sf_bad h1 hl (fun i hi => ih i (by omega) (by omega)) hb] at h
     exact h
 exact fun j hj => key (j + 1) j (by omega) hj
def RV (W : World) (K : Int) (T : ByteArray) (s : Value) (wx : World) : Prop := ∃ p : Nat, s = .pointer (some ⟨p, 0, none⟩) /\ Res2 wx p (.int .i64 K) (.string T) /\ Below W.heap.size W wx /\ W.heap.size <= p /\ p < wx.heap.size
theorem zcell {w w' : World} {b o : Nat} {v : Value} (h : Below w.heap.size w w') (hc : w.cell? ⟨b, o, none⟩ = some v) : w'.cell? ⟨b, o, none⟩ = some v := (Fr.ofBelow (lo := 0) (hi := 0) h).cell hc (.inr (Nat.zero_le _))
theorem twoKeep {u : World} {p b o : Nat} {v0 v1 x : Value} (hc : u.cell? ⟨b, o, none⟩ = some x) (h : b < p) : ((u.setCell ⟨p, 0, none⟩ v0).setCell ⟨p, 1, none⟩ v1).cell? ⟨b, o, none⟩ = some x := by
 rw [World.cell?_setCell_other _ _ _ _ (by intro c; simp only [Addr.mk.injEq] at c; omega), World.cell?_setCell_other _ _ _ _ (by intro c; simp only [Addr.mk.injEq] at c; omega)]
 exact hc
theorem beqS (s : ByteArray) : (s.toList == s.toList) = true := beq_bytes_true rfl
theorem newRes {w w1 : World} {u v : Value} {t : TypeId} (b : Below ((w.alloc (.cells #[u, v] t)).drew).heap.size ((w.alloc (.cells #[u, v] t)).drew) w1) : w1.cell? ⟨w.heap.size, 0, none⟩ = some u /\ w1.cell? ⟨w.heap.size, 1, none⟩ = some v /\ w1.frozen? ⟨w.heap.size, 0, none⟩ = false /\ w1.frozen? ⟨w.heap.size, 1, none⟩ = false := by
 have h : Res2 ((w.alloc (.cells #[u, v] t)).drew) w.heap.size u v := by
  have := Res2.new w u v t
  exact ⟨this.c0, this.c1, this.f0, this.f1⟩
 have := h.below (by show w.heap.size < (w.alloc (.cells #[u, v] t)).heap.size; simp) b
 exact ⟨this.c0, this.c1, this.f0, this.f1⟩
theorem belNew {w w1 : World} {u v : Value} {t : TypeId} (b : Below ((w.alloc (.cells #[u, v] t)).drew).heap.size ((w.alloc (.cells #[u, v] t)).drew) w1) : Below w.heap.size w w1 /\ w.heap.size < w1.heap.size :=
 ⟨(below_drew (allocBelow w _)).trans (b.mono (by show w.heap.size <= (w.alloc (.cells #[u, v] t)).heap.size; simp)), Nat.lt_of_lt_of_le (by show w.heap.size < (w.alloc (.cells #[u, v] t)).heap.size; simp) b.size⟩
theorem RV.new {W w2 : World} {K : Int} {T : ByteArray} {t : TypeId} (b : Below W.heap.size W w2) : RV W K T (.pointer (some ⟨w2.heap.size, 0, none⟩)) (w2.alloc (.cells #[.int .i64 K, .string T] t)) :=
 ⟨w2.heap.size, rfl, Res2.new _ _ _ _, b.alloc b.size _, b.size, by simp⟩
theorem RV.sets {W w2 : World} {K : Int} {T : ByteArray} {u v : Value} (b : Below W.heap.size W w2) (hp : W.heap.size < w2.heap.size) (c0 : w2.cell? ⟨W.heap.size, 0, none⟩ = some u) (c1 : w2.cell? ⟨W.heap.size, 1, none⟩ = some v) (f0 : w2.frozen? ⟨W.heap.size, 0, none⟩ = false) (f1 : w2.frozen? ⟨W.heap.size, 1, none⟩ = false) :
  RV W K T (.pointer (some ⟨W.heap.size, 0, none⟩)) ((w2.setCell ⟨W.heap.size, 0, none⟩ (.int .i64 K)).setCell ⟨W.heap.size, 1, none⟩ (.string T)) := by
 refine ⟨W.heap.size, rfl, ⟨?_, ?_, ?_, ?_⟩, below_sets b (Nat.le_refl _) _ _, Nat.le_refl _, by simp [World.size_setCell, hp]⟩
 ·rw [World.cell?_setCell_other _ _ _ _ (by intro c; simp only [Addr.mk.injEq] at c; omega), World.cell?_setCell_same _ _ _ c0]
 ·exact World.cell?_setCell_same _ _ _ (u := v) (by rw [World.cell?_setCell_other _ _ _ _ (by intro c; simp only [Addr.mk.injEq] at c; omega)]; exact c1)
 ·rw [World.frozen?_setCell, World.frozen?_setCell]; exact f0
 ·rw [World.frozen?_setCell, World.frozen?_setCell]; exact f1
set_option maxRecDepth 20000 in
set_option maxHeartbeats 2000000 in
theorem specStoreFault (a : Option Addr) (c : Nat) (l : List Ob) (w : World) (h : OB w.heap.size w a l) (hs : SmallO l) (hn : l.length <= 1048576) :
  Calls Tryz.prog 16 #[.slice a l.length c] w fun e w' => e = .returned (.int .i64 (sf l)) /\ Below w.heap.size w w' := by
 by_cases hm : 200 < l.length
 ·have hC : Hid (sf l = 2) := sf_many hm
  have q : (200 : Int) < (l.length : Int) := by omega
  go_enter Tryz.func16, Tryz.ntmps16
  go_wp2
  go_ret
  exact ⟨ret_int hC.out.symm, Below.refl _ _⟩
 have q : ¬ (200 : Int) < (l.length : Int) := by omega
 go_enter Tryz.func16, Tryz.ntmps16
 go_wp2
 go_loopw [3, 4] (fun i _r wr => ∃ k : Nat, k <= l.length /\ i = .int .i64 k /\ Hid (∀ j, j < k -> obF l j = 0) /\ Below w.heap.size w wr) (fun i _ _ => l.length - (intOf i).toNat)
 case atStart => exact ⟨0, Nat.zero_le _, rfl, fun j hj => absurd hj (Nat.not_lt_zero _), Below.refl _ _⟩
 case round =>
  obtain ⟨k, hk, rfl, hA, hbel⟩ := hrel
  have hsz := hbel.size
  by_cases hlt : k < l.length
  ·have qk : (k : Int) < (l.length : Int) := by omega
   have h3 := h.below hbel
   obtain ⟨g, off, e, hg, d0, d1, d2⟩ := h3 k hlt
   subst e
   have hsl := (hs _ (ob_mem l k hlt)).2
   have hbad : ¬ obF l k = 0 -> Hid (sf l = obF l k) := fun hb => sf_bad hm hlt hA.out hb
   have hgo : obF l k = 0 -> Hid (∀ j, j < k + 1 -> obF l j = 0) := fun h0 => by
    show ∀ j, _
    intro j hj
    by_cases e : j = k
    ·rw [e]; exact h0
    ·exact hA.out j (by omega)
   have hF : obF l k = obF l k := rfl
   conv at hF => rhs; unfold obF
   have hp : 0 < k -> wr.cell? ⟨g, off + (k - 1) * 3, none⟩ = some (.string (l.getD (k - 1) onil).1) := fun hk0 => by
    obtain ⟨g', off', e', _, f0, _, _⟩ := h3 (k - 1) (by omega)
    simp only [Option.some.injEq, Addr.mk.injEq, and_true] at e'
    obtain ⟨rfl, rfl⟩ := e'
    exact f0
   obtain ⟨C, hCe⟩ : ∃ C, l.getD k onil = C := ⟨_, rfl⟩
   obtain ⟨P, hPe⟩ : ∃ P, (l.getD (k - 1) onil).1 = P := ⟨_, rfl⟩
   obtain ⟨x0, x1, x2⟩ := C
   rw [hCe] at d0 d1 d2 hsl hF
   rw [hPe] at hF hp
   simp only [] at d0 d1 d2 hsl hF
   have hI := fun w => specIdOf x1 x2 w hsl
   obtain ⟨K, hK⟩ : ∃ K, idK x1 x2 = K := ⟨_, rfl⟩
   obtain ⟨T, hT⟩ : ∃ T, idT x1 x2 = T := ⟨_, rfl⟩
   rw [hK, hT] at hI hF
   clear hK hT hCe hPe hA h3
   -- CASES
   go_wp2
   go_cut [4] from 14 to 25 (fun s wx => RV wr K T s wx)
   case first =>
    have hgr : g < wr.heap.size := by omega
    go_region_held (fun w' => w'.cell? ⟨g, off + k * 3 + 1, none⟩ = some (.int .i64 x1) /\ w'.cell? ⟨g, off + k * 3 + 2, none⟩ = some (.string x2)) (first | with_reducible exact ⟨k1, k2⟩ | exact ⟨d1, d2⟩ | exact ⟨zcell (allocBelow _ _) d1, zcell (allocBelow _ _) d2⟩ | exact ⟨zcell (allocBelow _ _) k1, zcell (allocBelow _ _) k2⟩ | (have q3 := b3.size; with_reducible refine ⟨twoKeep k1 ?_, twoKeep k2 ?_⟩ <;> omega) | (have q3 := b3.size; with_reducible refine ⟨twoKeep (zcell (allocBelow _ _) k1) ?_, twoKeep (zcell (allocBelow _ _) k2) ?_⟩ <;> omega) | (go_keep; done))
     ((go_at_call 40; refine (hI _).mono ?_; rintro e w2 ⟨rfl, b2⟩; (first | (obtain ⟨c0, c1, f0, f1⟩ := newRes b2; have b3 := (belNew b2).1; have b4 := (belNew b2).2) | (have b3 : Below wr.heap.size wr w2 := (below_drew (Below.refl _ _)).trans b2)); have k1 := zcell b3 d1; have k2 := zcell b3 d2))
    ·clear d0 d1 d2 k1 k2 hF hp hbad hgo
     go_wp2_with fail
     go_meet
     exact RV.new b3
    ·clear d0 d1 d2 k1 k2 hF hp hbad hgo
     go_wp2_with fail
     go_meet
     exact RV.sets b3 b4 c0 c1 f0 f1
   case rest =>
   obtain ⟨p, rfl, hR, hB, hp1, hp2⟩ := hcut
   have B1 : Below w.heap.size w wc := below_step hbel hsz hB
   have e0 := zcell hB d0
   have c0 := hR.c0
   have c1 := hR.c1
   clear d0 d1 d2 hR hI hbel
   by_cases hK0 : K = 0
   ·rw [if_pos hK0] at hF
    subst hK0
    by_cases hTx : T = x0
    ·rw [if_pos hTx] at hF
     subst hTx
     have hbt := beqS T
     by_cases hk0 : 0 < k
     ·have hI0 : (0 : Int) < (k : Int) := by omega
      have e1 := zcell hB (hp hk0)
      obtain ⟨m, hmk⟩ : ∃ m, k - 1 = m := ⟨_, rfl⟩
      have hw : IntKind.i64.wrap ((k : Int) - 1) = (m : Int) := by rw [IntKind.wrap_i64]; omega
      have hI2 : (m : Int) < (l.length : Int) := by omega
      rw [hmk] at e1
      clear hp hB hmk
      cases hle : leS T P with
      | true =>
       have HC := hbad (by rw [hF, hle, if_pos ⟨hk0, rfl⟩]; decide)
       rw [hF, hle, if_pos ⟨hk0, rfl⟩] at HC
       unfold leS at hle
       clear hbad hgo hF
       cases hlb : Op.bytesLess T.toList P.toList with
       | true =>
        go_wp2
        go_quiet (fail)
        go_wp2
        go_ret
        exact ⟨ret_int HC.out.symm, below_drewN' B1 _⟩
       | false =>
        rw [hlb, Bool.false_or] at hle
        go_wp2
        go_quiet (fail)
        go_wp2
        go_ret
        exact ⟨ret_int HC.out.symm, below_drewN' B1 _⟩
      | false =>
       have HG := hgo (by rw [hF, hle, if_neg (fun c => Bool.noConfusion c.2)])
       unfold leS at hle
       obtain ⟨hl1, hl2⟩ := Bool.or_eq_false_iff.1 hle
       clear hbad hgo hF hle
       go_wp2
       go_quiet (fail)
       go_wp2
       go_roundw
       case rel => exact ⟨k + 1, by omega, by go_num, HG, below_drewN' B1 _⟩
       case measure => first | (simp [intOf]; omega) | simp [intOf]
     ·have hI0 : ¬ (0 : Int) < (k : Int) := by omega
      have HG := hgo (by rw [hF, if_neg (fun c => hk0 c.1)])
      clear hbad hgo hF hp hB
      go_wp2
      go_quiet (fail)
      go_wp2
      go_roundw
      case rel => exact ⟨k + 1, by omega, by go_num, HG, below_drewN' B1 _⟩
      case measure => first | (simp [intOf]; omega) | simp [intOf]
    ·rw [if_neg hTx] at hF
     have hb := beq_bytes_false hTx
     have HC := hbad (by rw [hF]; decide)
     rw [hF] at HC
     clear hbad hgo hF hp hTx hB
     go_wp2
     go_quiet (fail)
     go_wp2
     go_ret
     exact ⟨ret_int HC.out.symm, below_drewN' B1 _⟩
   ·rw [if_neg hK0] at hF
    have qK : (K != 0) = true := ne_beq hK0
    have HC := hbad (by rw [hF]; exact hK0)
    rw [hF] at HC
    clear hbad hgo hF hp hK0 hB
    go_wp2
    go_ret
    exact ⟨ret_int HC.out.symm, B1⟩
  ·have qk : ¬ (k : Int) < (l.length : Int) := by omega
   have HC : Hid (sf l = 0) := sf_ok hm (fun j hj => hA.out j (by omega))
   clear hA
   go_wp2
   go_ret
   exact ⟨ret_int HC.out.symm, hbel⟩
-- IMPL
set_option maxRecDepth 20000 in
set_option maxHeartbeats 2000000 in
theorem implStoreFault (a : Option Addr) (c : Nat) (l : List Ob) (w : World) (h : OB w.heap.size w a l) (hs : SmallO l) (hn : l.length <= 1048576) :
  Calls Tryz.prog 23 #[.slice a l.length c] w fun e w' => e = .returned (.int .i64 (sf l)) /\ Below w.heap.size w w' := by
 by_cases hm : 200 < l.length
 ·have hC : Hid (sf l = 2) := sf_many hm
  have q : (200 : Int) < (l.length : Int) := by omega
  go_enter Tryz.func23, Tryz.ntmps23
  go_wp2
  go_ret
  exact ⟨ret_int hC.out.symm, Below.refl _ _⟩
 have q : ¬ (200 : Int) < (l.length : Int) := by omega
 go_enter Tryz.func23, Tryz.ntmps23
 go_wp2
 go_loopw [3, 4, 5, 11] (fun _j _o _r i wr => ∃ k : Nat, k <= l.length /\ i = .int .i64 k /\ Hid (∀ j, j < k -> obF l j = 0) /\ Below w.heap.size w wr) (fun _ _ _ i _ => l.length - (intOf i).toNat)
 case atStart => exact ⟨0, Nat.zero_le _, rfl, fun j hj => absurd hj (Nat.not_lt_zero _), Below.refl _ _⟩
 case round =>
  obtain ⟨k, hk, rfl, hA, hbel⟩ := hrel
  have hsz := hbel.size
  by_cases hlt : k < l.length
  ·have qk : (k : Int) < (l.length : Int) := by omega
   have h3 := h.below hbel
   obtain ⟨g, off, e, hg, d0, d1, d2⟩ := h3 k hlt
   subst e
   have hsl := (hs _ (ob_mem l k hlt)).2
   have hbad : ¬ obF l k = 0 -> Hid (sf l = obF l k) := fun hb => sf_bad hm hlt hA.out hb
   have hgo : obF l k = 0 -> Hid (∀ j, j < k + 1 -> obF l j = 0) := fun h0 => by
    show ∀ j, _
    intro j hj
    by_cases e : j = k
    ·rw [e]; exact h0
    ·exact hA.out j (by omega)
   have hF : obF l k = obF l k := rfl
   conv at hF => rhs; unfold obF
   have hp : 0 < k -> wr.cell? ⟨g, off + (k - 1) * 3, none⟩ = some (.string (l.getD (k - 1) onil).1) := fun hk0 => by
    obtain ⟨g', off', e', _, f0, _, _⟩ := h3 (k - 1) (by omega)
    simp only [Option.some.injEq, Addr.mk.injEq, and_true] at e'
    obtain ⟨rfl, rfl⟩ := e'
    exact f0
   obtain ⟨C, hCe⟩ : ∃ C, l.getD k onil = C := ⟨_, rfl⟩
   obtain ⟨P, hPe⟩ : ∃ P, (l.getD (k - 1) onil).1 = P := ⟨_, rfl⟩
   obtain ⟨x0, x1, x2⟩ := C
   rw [hCe] at d0 d1 d2 hsl hF
   rw [hPe] at hF hp
   simp only [] at d0 d1 d2 hsl hF
   have hI := fun w => implIdOf x1 x2 w hsl
   obtain ⟨K, hK⟩ : ∃ K, idK x1 x2 = K := ⟨_, rfl⟩
   obtain ⟨T, hT⟩ : ∃ T, idT x1 x2 = T := ⟨_, rfl⟩
   rw [hK, hT] at hI hF
   obtain ⟨W, hW⟩ : ∃ W, wr.alloc (.cells #[.string x0, .int .i64 x1, .string x2] 50) = W := ⟨_, rfl⟩
   have bW : Below wr.heap.size wr W := by rw [<- hW]; exact allocBelow _ _
   have oW : Rs W wr.heap.size [.string x0, .int .i64 x1, .string x2] := by rw [<- hW]; exact Rs.new _ _ _
   have zW : wr.heap.size < W.heap.size := by rw [<- hW]; simp
   have m0 := oW 0 _ rfl
   have m1 := oW 1 _ rfl
   have m2 := oW 2 _ rfl
   clear hK hT hCe hPe hA h3 oW
   go_wp2_with fail
   refine (hI W).mono ?_; rintro e w2 ⟨rfl, b2⟩
   obtain ⟨wc, hwc⟩ : ∃ wc, w2.alloc (.cells #[.int .i64 K, .string T] 73) = wc := ⟨_, rfl⟩
   have hR : Res2 wc w2.heap.size (.int .i64 K) (.string T) := by rw [<- hwc]; exact Res2.new _ _ _ _
   have b3 : Below W.heap.size W wc := by rw [<- hwc]; exact b2.alloc b2.size _
   have hB : Below wr.heap.size wr wc := bW.trans (b3.mono (Nat.le_of_lt zW))
   have B1 : Below w.heap.size w wc := below_step hbel hsz hB
   have e0 := zcell b3 m0
   have c0 := hR.c0
   have c1 := hR.c1
   clear d0 d1 d2 hR hI hbel m0 m1 m2 hW bW b2 b3
   by_cases hK0 : K = 0
   ·rw [if_pos hK0] at hF
    subst hK0
    by_cases hTx : T = x0
    ·rw [if_pos hTx] at hF
     subst hTx
     have hbt := beqS T
     by_cases hk0 : 0 < k
     ·have hI0 : (0 : Int) < (k : Int) := by omega
      have e1 := zcell hB (hp hk0)
      obtain ⟨m, hmk⟩ : ∃ m, k - 1 = m := ⟨_, rfl⟩
      have hw : IntKind.i64.wrap ((k : Int) - 1) = (m : Int) := by rw [IntKind.wrap_i64]; omega
      have hI2 : (m : Int) < (l.length : Int) := by omega
      rw [hmk] at e1
      clear hp hB hmk
      cases hle : leS T P with
      | true =>
       have HC := hbad (by rw [hF, hle, if_pos ⟨hk0, rfl⟩]; decide)
       rw [hF, hle, if_pos ⟨hk0, rfl⟩] at HC
       unfold leS at hle
       clear hbad hgo hF
       cases hlb : Op.bytesLess T.toList P.toList with
       | true =>
        go_wp2
        go_quiet (fail)
        go_wp2
        go_ret
        exact ⟨ret_int HC.out.symm, below_drewN' B1 _⟩
       | false =>
        rw [hlb, Bool.false_or] at hle
        go_wp2
        go_quiet (fail)
        go_wp2
        go_ret
        exact ⟨ret_int HC.out.symm, below_drewN' B1 _⟩
      | false =>
       have HG := hgo (by rw [hF, hle, if_neg (fun c => Bool.noConfusion c.2)])
       unfold leS at hle
       obtain ⟨hl1, hl2⟩ := Bool.or_eq_false_iff.1 hle
       clear hbad hgo hF hle
       go_wp2
       go_quiet (fail)
       go_wp2
       go_roundw
       case rel => exact ⟨k + 1, by omega, by go_num, HG, below_drewN' B1 _⟩
       case measure => first | (simp [intOf]; omega) | simp [intOf]
     ·have hI0 : ¬ (0 : Int) < (k : Int) := by omega
      have HG := hgo (by rw [hF, if_neg (fun c => hk0 c.1)])
      clear hbad hgo hF hp hB
      go_wp2
      go_quiet (fail)
      go_wp2
      go_roundw
      case rel => exact ⟨k + 1, by omega, by go_num, HG, below_drewN' B1 _⟩
      case measure => first | (simp [intOf]; omega) | simp [intOf]
    ·rw [if_neg hTx] at hF
     have hb := beq_bytes_false (fun e => hTx e.symm)
     have HC := hbad (by rw [hF]; decide)
     rw [hF] at HC
     clear hbad hgo hF hp hTx hB
     go_wp2
     go_ret
     exact ⟨ret_int HC.out.symm, B1⟩
   ·rw [if_neg hK0] at hF
    have qK : (K != 0) = true := ne_beq hK0
    have HC := hbad (by rw [hF]; exact hK0)
    rw [hF] at HC
    clear hbad hgo hF hp hK0 hB
    go_wp2
    go_ret
    exact ⟨ret_int HC.out.symm, B1⟩
  ·have qk : ¬ (k : Int) < (l.length : Int) := by omega
   have HC : Hid (sf l = 0) := sf_ok hm (fun j hj => hA.out j (by omega))
   clear hA
   go_wp2
   go_ret
   exact ⟨ret_int HC.out.symm, hbel⟩
end Go.Proofs.YtcfnkndbhpdfnaaGreatDoor
namespace Go.Proofs.YtcfnkndbhpdfnaaGreatDoor
open Go.ChangeShapes Go.WideShapes Go.ChangeAt Go.RowKit
def fnd (l : List Ob) (id : ByteArray) : Nat := l.findIdx fun o => decide (o.1 = id)
def fz (l : List Ob) (id : ByteArray) : Int := if fnd l id < l.length then (fnd l id : Int) else -1
theorem fz_at {l : List Ob} {id : ByteArray} {k : Nat} (hk : k < l.length) (h0 : ∀ j, j < k -> ¬ (l.getD j onil).1 = id) (h : (l.getD k onil).1 = id) : fz l id = k := by
 have e : fnd l id = k := by
  unfold fnd
  rw [List.findIdx_eq hk]
  refine ⟨?_, fun j hj => ?_⟩
  ·rw [List.getD, List.getElem?_eq_getElem hk] at h
   simpa using h
  ·have := h0 j hj
   rw [List.getD, List.getElem?_eq_getElem (by omega)] at this
   simpa using this
 unfold fz
 rw [e, if_pos hk]
theorem fz_none {l : List Ob} {id : ByteArray} (h0 : ∀ j, j < l.length -> ¬ (l.getD j onil).1 = id) : fz l id = -1 := by
 unfold fz
 rw [if_neg]
 intro h
 have := List.findIdx_getElem (w := h)
 refine h0 _ h ?_
 rw [List.getD, List.getElem?_eq_getElem h]
 exact of_decide_eq_true this
theorem fz_cases (l : List Ob) (id : ByteArray) : fz l id = -1 \/ ∃ k : Nat, fz l id = k /\ k < l.length /\ (l.getD k onil).1 = id := by
 unfold fz
 by_cases h : fnd l id < l.length
 ·rw [if_pos h]
  refine .inr ⟨_, rfl, h, ?_⟩
  have := List.findIdx_getElem (w := h)
  rw [List.getD, List.getElem?_eq_getElem h]
  exact of_decide_eq_true this
 ·rw [if_neg h]
  exact .inl rfl
set_option maxRecDepth 20000 in
set_option maxHeartbeats 1000000 in
theorem l5Find (a : Option Addr) (c : Nat) (l : List Ob) (id : ByteArray) (w : World) (h : OB w.heap.size w a l) (hn : l.length <= 1048576) :
  Calls Tryz.prog 69 #[.slice a l.length c, .string id] w fun e w' => e = .returned (.int .i64 (fz l id)) /\ w' = w := by
 go_enter Tryz.func69, Tryz.ntmps69
 go_wp2
 go_loopw [5] (fun i wr => ∃ k : Nat, k <= l.length /\ i = .int .i64 k /\ wr = w /\ ∀ j, j < k -> ¬ (l.getD j onil).1 = id) (fun i _ => l.length - (intOf i).toNat)
 case atStart => exact ⟨0, Nat.zero_le _, rfl, rfl, fun j hj => by omega⟩
 case round =>
  obtain ⟨k, hk, rfl, rfl, h0⟩ := hrel
  by_cases hlt : k < l.length
  ·have q : (k : Int) < (l.length : Int) := by omega
   obtain ⟨g, off, e, hg, d0, d1, d2⟩ := h k hlt
   subst e
   obtain ⟨x, hx⟩ : ∃ x, (l.getD k onil).1 = x := ⟨_, rfl⟩
   rw [hx] at d0
   by_cases e : x = id
   ·have HE : Hid (fz l id = k) := fz_at hlt h0 (hx.trans e)
    subst e
    have hb := beqS x
    clear d1 d2 h0 hx
    go_wp2
    go_ret
    exact ⟨ret_int HE.out.symm, rfl⟩
   ·have hb : (x.toList == id.toList) = false := beq_bytes_false e
    have HN : Hid (∀ j, j < k + 1 -> ¬ (l.getD j onil).1 = id) := fun j hj => by
     by_cases hjk : j < k
     ·exact h0 j hjk
     ·rw [show j = k by omega, hx]; exact e
    clear d1 d2 h0 hx
    go_wp2
    go_roundw
    case rel => exact ⟨k + 1, by omega, by go_num, by trivial, HN.out⟩
    case measure => first | (simp [intOf]; omega) | simp [intOf]
  ·have q : ¬ (k : Int) < (l.length : Int) := by omega
   have HE : Hid (fz l id = -1) := fz_none (fun j hj => h0 j (by omega))
   clear h0
   go_wp2
   go_ret
   exact ⟨ret_int HE.out.symm, rfl⟩
def gt (l : List Ob) (k : Int) (id : ByteArray) : Option ByteArray :=
 if fz l id < 0 then none else if (l.getD (fz l id).toNat onil).2.1 = k then some (l.getD (fz l id).toNat onil).2.2 else none
theorem gt_less {l : List Ob} {k : Int} {id : ByteArray} (h : fz l id = -1) : gt l k id = none := if_pos (by omega)
theorem gt_no {l : List Ob} {k : Int} {id : ByteArray} {n : Nat} (h : fz l id = n) (e : ¬ (l.getD n onil).2.1 = k) : gt l k id = none := by
 unfold gt; rw [h, if_neg (by omega), if_neg (by simpa using e)]
theorem gt_yes {l : List Ob} {k : Int} {id : ByteArray} {n : Nat} (h : fz l id = n) (e : (l.getD n onil).2.1 = k) : gt l k id = some (l.getD n onil).2.2 := by
 unfold gt; rw [h, if_neg (by omega), if_pos (by simpa using e)]; simp
theorem beqNI {a b : Int} (h : ¬ a = b) : (a == b) = false := by simp [h]
theorem ret_get {s t : ByteArray} {b d : Bool} (h : s = t) (k : b = d) : Ending.returned (.tuple #[.string s, .bool b]) = .returned (.tuple #[.string t, .bool d]) := by rw [h, k]
set_option maxRecDepth 20000 in
set_option maxHeartbeats 1000000 in
theorem l5Get (a : Option Addr) (c : Nat) (l : List Ob) (kd : Int) (id : ByteArray) (w : World) (h : OB w.heap.size w a l) (hn : l.length <= 1048576) :
  Calls Tryz.prog 44 #[.slice a l.length c, .int .i64 kd, .string id] w fun e w' => e = .returned (.tuple #[.string ((gt l kd id).getD ByteArray.empty), .bool (gt l kd id).isSome]) /\ w' = w := by
 have hF := l5Find a c l id w h hn
 rcases fz_cases l id with e | ⟨k, e, hlt, _⟩
 ·have HG : Hid (gt l kd id = none) := gt_less e
  rw [e] at hF
  go_enter Tryz.func44, Tryz.ntmps44
  go_wp2_with fail
  refine hF.mono ?_; rintro e w ⟨rfl, rfl⟩
  go_wp2
  refine bodyPost_ret (v := .tuple #[.string ⟨#[]⟩, .bool false]) (by simp [results, Tryz.results44, go_sem]) rfl ?_
  exact ⟨ret_get (by rw [HG.out]; rfl) (by rw [HG.out]; rfl), rfl⟩
 ·have q : (k : Int) < (l.length : Int) := by omega
  have q0 : ¬ (k : Int) < 0 := by omega
  obtain ⟨g, off, ea, hg, d0, d1, d2⟩ := h k hlt
  subst ea
  by_cases hk : (l.getD k onil).2.1 = kd
  ·have HG : Hid (gt l kd id = some (l.getD k onil).2.2) := gt_yes e hk
   rw [e] at hF
   rw [hk] at d1
   obtain ⟨D, hD⟩ : ∃ D, (l.getD k onil).2.2 = D := ⟨_, rfl⟩
   rw [hD] at HG d2
   clear h hD hk
   go_enter Tryz.func44, Tryz.ntmps44
   go_wp2_with fail
   refine hF.mono ?_; rintro e w ⟨rfl, rfl⟩
   go_wp2
   refine bodyPost_ret (v := .tuple #[.string D, .bool true]) (by simp [results, Tryz.results44, go_sem]) rfl ?_
   exact ⟨ret_get (by rw [HG.out]; rfl) (by rw [HG.out]; rfl), rfl⟩
  ·have HG : Hid (gt l kd id = none) := gt_no e hk
   rw [e] at hF
   obtain ⟨D, hD⟩ : ∃ D, (l.getD k onil).2.1 = D := ⟨_, rfl⟩
   rw [hD] at hk d1
   have qk : (D == kd) = false := beqNI hk
   have qk2 : (D != kd) = true := by simp [bne, qk]
   clear h hD hk
   go_enter Tryz.func44, Tryz.ntmps44
   go_wp2_with fail
   refine hF.mono ?_; rintro e w ⟨rfl, rfl⟩
   go_wp2
   refine bodyPost_ret (v := .tuple #[.string ⟨#[]⟩, .bool false]) (by simp [results, Tryz.results44, go_sem]) rfl ?_
   exact ⟨ret_get (by rw [HG.out]; rfl) (by rw [HG.out]; rfl), rfl⟩
end Go.Proofs.YtcfnkndbhpdfnaaGreatDoor
