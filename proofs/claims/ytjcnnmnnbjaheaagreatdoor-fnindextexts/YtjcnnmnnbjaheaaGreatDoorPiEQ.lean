/- The contract of impl.readEntry. No statement is proved here. -/
import Derived.Test.YtjcnnmnnbjaheaaGreatDoorRows
import Derived.Test.YtjcnnmnnbjaheaaGreatDoorLemQ
import Derived.Test.YtjcnnmnnbjaheaaGreatDoorDTabQ
import Derived.Test.YtjcnnmnnbjaheaaGreatDoorHkTQ
import Derived.Test.YtjcnnmnnbjaheaaGreatDoorLFLemQ
import Derived.Test.YtjcnnmnnbjaheaaGreatDoorCutLQ
import Derived.Test.YtjcnnmnnbjaheaaGreatDoorIxBQ
import Derived.Test.YtjcnnmnnbjaheaaGreatDoorFmCQ
import Derived.Test.YtjcnnmnnbjaheaaGreatDoorTrWQ
import Derived.Test.YtjcnnmnnbjaheaaGreatDoorDtLQ
import Derived.Test.YtjcnnmnnbjaheaaGreatDoorDtMQ
import Derived.Test.YtjcnnmnnbjaheaaGreatDoorTrEQ
import Derived.Test.YtjcnnmnnbjaheaaGreatDoorFlLQ
import Derived.Test.YtjcnnmnnbjaheaaGreatDoorFfIQ
import Derived.Test.YtjcnnmnnbjaheaaGreatDoorIxNQ
import Derived.Test.YtjcnnmnnbjaheaaGreatDoorShelfSQ
import Derived.Test.YtjcnnmnnbjaheaaGreatDoorPiQQ
import Derived.Test.YtjcnnmnnbjaheaaGreatDoorPiMQ
import Derived.Test.YtjcnnmnnbjaheaaGreatDoorPiTQ
import Derived.WalkKit
import Derived.ProofKit
import Derived.Below
import Derived.WalkSpells
import Derived.Maps.AppendAt
import Derived.Deep.QuietTactic
import Derived.BigQuiet
import Derived.Deep.RegionWith
import Derived.Deep.RegionHeld
namespace Go.Proofs.YtjcnnmnnbjaheaaGreatDoor.En
open Go.ChangeShapes Go.WideShapes Go.ChangeAt Go.RowKit

theorem hs_end (x : ByteArray) : Lib.hasSuffix x.data.toList [10] = Te.endB x := by
  unfold Te.endB
  by_cases h : x.data.toList.getLast? = some 10
  · rw [hs_last h, decide_eq_true h]
  · rw [decide_eq_false h]
    cases c : Lib.hasSuffix x.data.toList [10] with
    | false => rfl
    | true =>
      exfalso
      have e := hs_split c
      apply h
      rw [e, List.getLast?_append]
      rfl
theorem ts_end {x : ByteArray} (h : Te.endB x = true) : mkB (Lib.trimSuffix x.data.toList [10]) = Te.unT x := by
  have e := hs_split ((hs_end x).trans h)
  apply bytes_inj2
  rw [ByteArray.toList_eq, ByteArray.toList_eq, mkB_data, un_data h]
  have k := congrArg List.dropLast e
  rw [List.dropLast_concat] at k
  exact k.symm
theorem cut_smallM (c : UInt8) (s : ByteArray) (hs : s.size ≤ 1048576) : ∀ p ∈ cutOf c s, p.size ≤ 1048576 := by
  intro p hp
  have e : cutOf c s = (cutL c s.data.toList).map mkB := by unfold cutOf cutFrom; rw [List.drop_zero]
  rw [e] at hp
  obtain ⟨y, hy, rfl⟩ := List.mem_map.1 hp
  have h := cut_size c _ _ hy
  rw [size_mk]
  rw [size_eq] at h
  omega
theorem wz (y : UInt8) : IntKind.i64.wrap (IntKind.i64.wrap (y.toNat : Int) - 48) = (y.toNat : Int) - 48 := by
  have h : y.toNat < 256 := y.toNat_lt
  generalize y.toNat = n at h
  have e1 : IntKind.i64.wrap (n : Int) = n := by rw [IntKind.wrap_i64]; omega
  rw [e1, IntKind.wrap_i64]; omega
theorem four_none {a b c d : ByteArray} (h : (⟨#[]⟩ : ByteArray) ∈ [a, b, c, d]) : eFour a.data.toList b.data.toList c.data.toList d.data.toList = none := by
  simp only [List.mem_cons, List.not_mem_nil, or_false] at h
  rcases h with rfl | rfl | rfl | rfl
  · exact f_len (by decide)
  · generalize a.data.toList = l
    match l with
    | [] => rfl
    | [_] => exact f_mode (by decide) (by decide)
    | _ :: _ :: _ => rfl
  · exact f_id
  · exact f_path
/-- What is answered at a line. -/
def RE (s : ByteArray) (e : Ending) : Prop :=
  (∃ o : Ob, entL s.data.toList = some o ∧ e = .returned (.tuple #[.agg #[.string o.1, .int .i64 o.2.1, .int .i64 o.2.2.1, .string o.2.2.2], .bool true])) ∨
  (entL s.data.toList = none ∧ ∃ (a b : ByteArray) (m n : Int), e = .returned (.tuple #[.agg #[.string a, .int .i64 m, .int .i64 n, .string b], .bool false]))
set_option maxRecDepth 20000 in
set_option maxHeartbeats 8000000 in
theorem readEntryC (s : ByteArray) (w : World) (hs : s.size ≤ 1048576) (hM : Te.MwG w) (hMB : 0 < w.heap.size) :
    Calls Tryz.prog 43 #[.string s] w fun e w' => RE s e ∧ Below w.heap.size w w' := by
  have hQ : ∀ w, Calls Tryz.prog 45 #[.string s, .string ⟨#[10]⟩] w fun e w' => e = .returned (.tuple #[.string (mkB (Lib.trimSuffix s.data.toList [10])), .bool (Lib.hasSuffix s.data.toList [10])]) ∧ w' = w := fun w => Tryz.strings_CutSuffix s _ w (by omega)
  rw [hs_end] at hQ
  have hEo := ent_open (x := s)
  have hEe := ent_end (x := s)
  have hY := ts_end (x := s)
  have hD1 : (Lib.trimSuffix s.data.toList [10]).length ≤ 1048576 := by
    rw [← size_eq] at hs
    unfold Lib.trimSuffix
    split
    · rw [List.length_take]; omega
    · exact hs
  obtain ⟨Y, hYe⟩ : ∃ x, mkB (Lib.trimSuffix s.data.toList [10]) = x := ⟨_, rfl⟩
  have hYs : Y.size ≤ 1048576 := by rw [← hYe, size_mk]; exact hD1
  have hSp := fun w => splitBlank Y w hYs
  have hPs := cut_smallM 32 Y hYs
  obtain ⟨E, hE⟩ : ∃ E, Te.endB s = E := ⟨_, rfl⟩
  simp only [hYe, hE] at hQ hEo hEe hY
  have hNo : E = false → Hid (entL s.data.toList = none) := fun h => hEo h
  have hCount : E = true → ¬ (cutOf 32 Y).length = 4 → Hid (entL s.data.toList = none) := fun h n => by
    show _ = _
    rw [hEe h, ← hY h]
    exact e_count n
  have hFour : E = true → (cutOf 32 Y).length = 4 → ∃ a b c d : ByteArray, cutOf 32 Y = [a, b, c, d] ∧ entL s.data.toList = eFour a.data.toList b.data.toList c.data.toList d.data.toList := fun h n => by
    obtain ⟨a, b, c, d, h1, h2⟩ := e_four n
    exact ⟨a, b, c, d, h1, by rw [hEe h, ← hY h]; exact h2⟩
  clear hEo hEe hY hD1 hYe hE
  obtain ⟨P, hP⟩ : ∃ P, cutOf 32 Y = P := ⟨_, rfl⟩
  simp only [hP] at hSp hCount hFour hPs
  clear hP
  have hRE : ∀ e, RE s e ↔ RE s e := fun _ => Iff.rfl
  unfold RE at hRE ⊢
  obtain ⟨EL, hEL⟩ : ∃ y, entL s.data.toList = y := ⟨_, rfl⟩
  simp only [hEL] at hNo hCount hFour ⊢
  clear hEL hRE
  obtain ⟨W1, hW1⟩ : ∃ W, w.alloc (.cells #[.string ⟨#[]⟩, .int .i64 0, .int .i64 0, .string ⟨#[]⟩] 51) = W := ⟨_, rfl⟩
  have b1 : Below w.heap.size w W1 := by rw [← hW1]; exact allocBelow _ _
  have z1 : W1.heap.size = w.heap.size + 1 := by rw [← hW1]; simp
  have r1 : Rf W1 w.heap.size [.string ⟨#[]⟩, .int .i64 0, .int .i64 0, .string ⟨#[]⟩] := by rw [← hW1]; exact Rf.new _ _ _
  obtain ⟨W2, hW2⟩ : ∃ W, W1.alloc (.cells (P.map Value.string).toArray 9) = W := ⟨_, rfl⟩
  have b2 : Below W1.heap.size W1 W2 := by rw [← hW2]; exact allocBelow _ _
  have z2 : W2.heap.size = W1.heap.size + 1 := by rw [← hW2]; simp
  have p2 : ∀ j x, P[j]? = some x → W2.cell? ⟨w.heap.size + 1, j, none⟩ = some (.string x) := fun j x hj => by
    rw [← hW2, ← z1]
    simp [hj]
  have r2 := r1.below (by omega) b2
  have B2 := b1.trans (b2.mono (by omega))
  go_enter Tryz.func43, Tryz.ntmps43
  go_wp2_with fail
  refine (hQ _).mono ?_; rintro e w1 ⟨rfl, rfl⟩
  clear hQ
  go_wp2_with fail
  refine (hSp _).mono ?_; rintro e w2 ⟨rfl, rfl⟩
  clear hSp
  cases E
  · have H := hNo rfl
    clear hNo hCount hFour p2 hPs
    have RV := ((((r2.set (o := 0) (by simp) (.string ⟨#[]⟩)).set (o := 1) (by simp) (.int .i64 0)).set (o := 2) (by simp) (.int .i64 0)).set (o := 3) (by simp) (.string ⟨#[]⟩))
    have BV := ((((B2.setCell (p := ⟨w.heap.size, 0, none⟩) (Nat.le_refl _) (.string ⟨#[]⟩)).setCell (p := ⟨w.heap.size, 1, none⟩) (Nat.le_refl _) (.int .i64 0)).setCell (p := ⟨w.heap.size, 2, none⟩) (Nat.le_refl _) (.int .i64 0)).setCell (p := ⟨w.heap.size, 3, none⟩) (Nat.le_refl _) (.string ⟨#[]⟩))
    have c0 := r2.at_ 0 _ rfl
    have f0 := r2.fz 0
    have c1 := r2.at_ 1 _ rfl
    have f1 := r2.fz 1
    have c2 := r2.at_ 2 _ rfl
    have f2 := r2.fz 2
    have c3 := r2.at_ 3 _ rfl
    have f3 := r2.fz 3
    obtain ⟨V, hV⟩ : ∃ V, ((((W2.setCell ⟨w.heap.size, 0, none⟩ (.string ⟨#[]⟩)).setCell ⟨w.heap.size, 1, none⟩ (.int .i64 0)).setCell ⟨w.heap.size, 2, none⟩ (.int .i64 0)).setCell ⟨w.heap.size, 3, none⟩ (.string ⟨#[]⟩)) = V := ⟨_, rfl⟩
    rw [hV] at RV BV
    have HV : Hid (_ = V) := hV
    have v0 := RV.at_ 0 _ rfl
    have v1 := RV.at_ 1 _ rfl
    have v2 := RV.at_ 2 _ rfl
    have v3 := RV.at_ 3 _ rfl
    clear hV RV r2 B2
    go_wp2
    rw [HV.out]
    refine bodyPost_ret (v := .tuple #[.agg #[.string ⟨#[]⟩, .int .i64 0, .int .i64 0, .string ⟨#[]⟩], .bool false]) (by simp [results, Tryz.results43, go_sem, v0, v1, v2, v3]) rfl ?_
    exact ⟨.inr ⟨H.out, _, _, _, _, rfl⟩, BV⟩
  clear hNo
  by_cases n4 : P.length = 4
  rotate_left
  · have H := hCount rfl n4
    have qn : ((P.length : Int) != 4) = true := by simp; omega
    clear hCount hFour p2 hPs
    have RV := ((((r2.set (o := 0) (by simp) (.string ⟨#[]⟩)).set (o := 1) (by simp) (.int .i64 0)).set (o := 2) (by simp) (.int .i64 0)).set (o := 3) (by simp) (.string ⟨#[]⟩))
    have BV := ((((B2.setCell (p := ⟨w.heap.size, 0, none⟩) (Nat.le_refl _) (.string ⟨#[]⟩)).setCell (p := ⟨w.heap.size, 1, none⟩) (Nat.le_refl _) (.int .i64 0)).setCell (p := ⟨w.heap.size, 2, none⟩) (Nat.le_refl _) (.int .i64 0)).setCell (p := ⟨w.heap.size, 3, none⟩) (Nat.le_refl _) (.string ⟨#[]⟩))
    have c0 := r2.at_ 0 _ rfl
    have f0 := r2.fz 0
    have c1 := r2.at_ 1 _ rfl
    have f1 := r2.fz 1
    have c2 := r2.at_ 2 _ rfl
    have f2 := r2.fz 2
    have c3 := r2.at_ 3 _ rfl
    have f3 := r2.fz 3
    obtain ⟨V, hV⟩ : ∃ V, ((((W2.setCell ⟨w.heap.size, 0, none⟩ (.string ⟨#[]⟩)).setCell ⟨w.heap.size, 1, none⟩ (.int .i64 0)).setCell ⟨w.heap.size, 2, none⟩ (.int .i64 0)).setCell ⟨w.heap.size, 3, none⟩ (.string ⟨#[]⟩)) = V := ⟨_, rfl⟩
    rw [hV] at RV BV
    have HV : Hid (_ = V) := hV
    have v0 := RV.at_ 0 _ rfl
    have v1 := RV.at_ 1 _ rfl
    have v2 := RV.at_ 2 _ rfl
    have v3 := RV.at_ 3 _ rfl
    clear hV RV r2 B2
    go_wp2
    rw [HV.out]
    refine bodyPost_ret (v := .tuple #[.agg #[.string ⟨#[]⟩, .int .i64 0, .int .i64 0, .string ⟨#[]⟩], .bool false]) (by simp [results, Tryz.results43, go_sem, v0, v1, v2, v3]) rfl ?_
    exact ⟨.inr ⟨H.out, _, _, _, _, rfl⟩, BV⟩
  obtain ⟨a, b, c, d, rfl, hF⟩ := hFour rfl n4
  have k0 := p2 0 a rfl
  have k1 := p2 1 b rfl
  have k2 := p2 2 c rfl
  have k3 := p2 3 d rfl
  have hCo := Tryz.slices_Contains_string (w.heap.size + 1) 0 4 4 [a, b, c, d] ⟨#[]⟩ W2 (by simp) (by omega) (fun j hj => by
    have : j = 0 ∨ j = 1 ∨ j = 2 ∨ j = 3 := by simp at hj; omega
    rcases this with rfl | rfl | rfl | rfl
    · exact k0
    · exact k1
    · exact k2
    · exact k3)
  have hCi := Lib.containsS_iff [a, b, c, d] ⟨#[]⟩
  have ha := hPs a (by simp)
  have hc := hPs c (by simp)
  have hd := hPs d (by simp)
  have e4 : ([a, b, c, d] : List ByteArray).take 4 = [a, b, c, d] := rfl
  rw [e4] at hCo
  clear hCount hFour p2 hPs e4 n4
  obtain ⟨Cn, hCn⟩ : ∃ x, Lib.containsS [a, b, c, d] ⟨#[]⟩ = x := ⟨_, rfl⟩
  rw [hCn] at hCo hCi
  clear hCn
  have hW2 : w1.alloc (.cells #[.string a, .string b, .string c, .string d] 9) = W2 := hW2
  go_wp2_with fail
  refine hCo.mono ?_; rintro e w4 ⟨rfl, rfl⟩
  clear hCo
  cases Cn
  rotate_left
  · have H : Hid (EL = none) := hF.trans (four_none (hCi.1 rfl))
    clear hF hCi
    have RV := ((((r2.set (o := 0) (by simp) (.string ⟨#[]⟩)).set (o := 1) (by simp) (.int .i64 0)).set (o := 2) (by simp) (.int .i64 0)).set (o := 3) (by simp) (.string ⟨#[]⟩))
    have BV := ((((B2.setCell (p := ⟨w.heap.size, 0, none⟩) (Nat.le_refl _) (.string ⟨#[]⟩)).setCell (p := ⟨w.heap.size, 1, none⟩) (Nat.le_refl _) (.int .i64 0)).setCell (p := ⟨w.heap.size, 2, none⟩) (Nat.le_refl _) (.int .i64 0)).setCell (p := ⟨w.heap.size, 3, none⟩) (Nat.le_refl _) (.string ⟨#[]⟩))
    have c0 := r2.at_ 0 _ rfl
    have f0 := r2.fz 0
    have c1 := r2.at_ 1 _ rfl
    have f1 := r2.fz 1
    have c2 := r2.at_ 2 _ rfl
    have f2 := r2.fz 2
    have c3 := r2.at_ 3 _ rfl
    have f3 := r2.fz 3
    obtain ⟨V, hV⟩ : ∃ V, ((((w4.setCell ⟨w.heap.size, 0, none⟩ (.string ⟨#[]⟩)).setCell ⟨w.heap.size, 1, none⟩ (.int .i64 0)).setCell ⟨w.heap.size, 2, none⟩ (.int .i64 0)).setCell ⟨w.heap.size, 3, none⟩ (.string ⟨#[]⟩)) = V := ⟨_, rfl⟩
    rw [hV] at RV BV
    have HV : Hid (_ = V) := hV
    have v0 := RV.at_ 0 _ rfl
    have v1 := RV.at_ 1 _ rfl
    have v2 := RV.at_ 2 _ rfl
    have v3 := RV.at_ 3 _ rfl
    clear hV RV r2 B2
    go_wp2
    rw [HV.out]
    refine bodyPost_ret (v := .tuple #[.agg #[.string ⟨#[]⟩, .int .i64 0, .int .i64 0, .string ⟨#[]⟩], .bool false]) (by simp [results, Tryz.results43, go_sem, v0, v1, v2, v3]) rfl ?_
    exact ⟨.inr ⟨H.out, _, _, _, _, rfl⟩, BV⟩
  have hni : ¬ (⟨#[]⟩ : ByteArray) ∈ [a, b, c, d] := fun q => by have := hCi.2 q; cases this
  have hne : ∀ x ∈ [a, b, c, d], ¬ x.data.toList = [] := fun x hx q => hni (by
    have e : x = ⟨#[]⟩ := bytes_inj2 (by rw [ByteArray.toList_eq, ByteArray.toList_eq, q])
    rw [← e]; exact hx)
  have na := hne a (by simp)
  have nc := hne c (by simp)
  have nd := hne d (by simp)
  have sa : 0 < a.size := by
    rw [← size_eq]
    exact List.length_pos_iff.2 na
  clear hni hne hCi
  obtain ⟨y, hy⟩ : ∃ y, a[0]'sa = y := ⟨_, rfl⟩
  have hMd := fun w h => Te.modeOfC b w h
  have M4 : Te.MwG w4.drew := by
    have g := Te.MwG.below hM B2 hMB
    exact g
  have hwz : IntKind.i64.wrap (IntKind.i64.wrap (y.toNat : Int) - 48) = (y.toNat : Int) - 48 := wz y
  obtain ⟨Z, hZ⟩ : ∃ Z, (y.toNat : Int) - 48 = Z := ⟨_, rfl⟩
  rw [hZ] at hwz
  obtain ⟨M, hM'⟩ : ∃ M, Te.md b.data.toList = M := ⟨_, rfl⟩
  rw [hM'] at hMd
  go_wp2_with fail
  go_cut [7, 8] from 28 to 38 (fun s t wx => s = .int .i64 Z ∧ t = .int .i64 M ∧ wx = w4.drew)
  case first =>
    clear r2 B2 hF hM' hZ
    go_region_held (fun w' => w'.cell? ⟨w.heap.size + 1, 0, none⟩ = some (.string a) ∧ w'.cell? ⟨w.heap.size + 1, 1, none⟩ = some (.string b)) (exact ⟨k0, k1⟩)
      ((go_at_call 71; refine (hMd _ M4).mono ?_; rintro e wb ⟨rfl, rfl⟩))
    all_goals (go_wp2_with fail; go_meet; exact ⟨rfl, rfl, rfl⟩)
  case rest =>
  obtain ⟨rfl, rfl, rfl⟩ := hcut
  clear hMd M4 hwz hM hMB
  have k0 : w4.drew.cell? ⟨w.heap.size + 1, 0, none⟩ = some (.string a) := k0
  have k2 : w4.drew.cell? ⟨w.heap.size + 1, 2, none⟩ = some (.string c) := k2
  have k3 : w4.drew.cell? ⟨w.heap.size + 1, 3, none⟩ = some (.string d) := k3
  have r4 : Rf w4.drew w.heap.size [.string ⟨#[]⟩, .int .i64 0, .int .i64 0, .string ⟨#[]⟩] := ⟨r2.at_, r2.fz⟩
  have B4 := below_drew B2
  obtain ⟨W4, hW4⟩ : ∃ W, w4.drew = W := ⟨_, rfl⟩
  have z4 : w.heap.size + 1 < W4.heap.size := by rw [← hW4]; show _ < w4.heap.size; omega
  rw [hW4] at k0 k2 k3 r4 B4 ⊢
  clear r2 B2 k1 hW4 hW2
  by_cases q1 : 1 < a.size
  · have q1' : (1 : Int) < (a.size : Int) := by omega
    have H : Hid (EL = none) := hF.trans (f_len (by rw [size_eq]; omega))
    clear hF hZ hM'
    have RV := ((((r4.set (o := 0) (by simp) (.string ⟨#[]⟩)).set (o := 1) (by simp) (.int .i64 0)).set (o := 2) (by simp) (.int .i64 0)).set (o := 3) (by simp) (.string ⟨#[]⟩))
    have BV := ((((B4.setCell (p := ⟨w.heap.size, 0, none⟩) (Nat.le_refl _) (.string ⟨#[]⟩)).setCell (p := ⟨w.heap.size, 1, none⟩) (Nat.le_refl _) (.int .i64 0)).setCell (p := ⟨w.heap.size, 2, none⟩) (Nat.le_refl _) (.int .i64 0)).setCell (p := ⟨w.heap.size, 3, none⟩) (Nat.le_refl _) (.string ⟨#[]⟩))
    have c0 := r4.at_ 0 _ rfl
    have f0 := r4.fz 0
    have c1 := r4.at_ 1 _ rfl
    have f1 := r4.fz 1
    have c2 := r4.at_ 2 _ rfl
    have f2 := r4.fz 2
    have c3 := r4.at_ 3 _ rfl
    have f3 := r4.fz 3
    obtain ⟨V, hV⟩ : ∃ V, ((((W4.setCell ⟨w.heap.size, 0, none⟩ (.string ⟨#[]⟩)).setCell ⟨w.heap.size, 1, none⟩ (.int .i64 0)).setCell ⟨w.heap.size, 2, none⟩ (.int .i64 0)).setCell ⟨w.heap.size, 3, none⟩ (.string ⟨#[]⟩)) = V := ⟨_, rfl⟩
    rw [hV] at RV BV
    have HV : Hid (_ = V) := hV
    have v0 := RV.at_ 0 _ rfl
    have v1 := RV.at_ 1 _ rfl
    have v2 := RV.at_ 2 _ rfl
    have v3 := RV.at_ 3 _ rfl
    clear hV RV r4 B4
    go_wp2
    rw [HV.out]
    refine bodyPost_ret (v := .tuple #[.agg #[.string ⟨#[]⟩, .int .i64 0, .int .i64 0, .string ⟨#[]⟩], .bool false]) (by simp [results, Tryz.results43, go_sem, v0, v1, v2, v3]) rfl ?_
    exact ⟨.inr ⟨H.out, _, _, _, _, rfl⟩, BV⟩
  have q1' : ¬ (1 : Int) < (a.size : Int) := by omega
  obtain ⟨x, rfl⟩ := one_b a (by rw [size_eq]; omega)
  obtain rfl : x = y := hy
  have hSt := fun w => isStageC Z w
  have hFm := fun w => isFileModeC M w
  have hLo := fun h => hF.trans (f_low (x := x) (b := b.data.toList) (c := c.data.toList) (d := d.data.toList) h)
  have hHi := fun h => hF.trans (f_high (x := x) (b := b.data.toList) (c := c.data.toList) (d := d.data.toList) h)
  have hMn := fun h1 h2 => hF.trans (f_mode (x := x) (b := b.data.toList) (c := c.data.toList) (d := d.data.toList) h1 h2)
  have hYes := fun h1 h2 h3 => hF.trans (f_ok (x := x) (b := b.data.toList) (c := c.data.toList) (d := d.data.toList) h1 h2 h3 nc nd)
  rw [hM'] at hMn hYes
  rw [hZ] at hYes
  have hZn : (x.toNat : Int) = Z + 48 := by omega
  rw [hZn] at hLo hHi hYes
  clear hF hM' hZ hZn q1 q1'
  by_cases q3 : inB Z 0 3 = true
  rotate_left
  · have q3' : inB Z 0 3 = false := by simpa using q3
    have H : Hid (EL = none) := by
      show _ = _
      have q : ¬ (0 ≤ Z ∧ Z ≤ 3) := of_decide_eq_false q3'
      by_cases k : Z + 48 < 48
      · exact hLo k
      · exact hHi (by omega)
    rw [q3'] at hSt
    clear hLo hHi hMn hYes hFm q3 q3'
    go_wp2_with fail
    refine (hSt _).mono ?_; rintro e w5 ⟨rfl, rfl⟩
    have RV := ((((r4.set (o := 0) (by simp) (.string ⟨#[]⟩)).set (o := 1) (by simp) (.int .i64 0)).set (o := 2) (by simp) (.int .i64 0)).set (o := 3) (by simp) (.string ⟨#[]⟩))
    have BV := ((((B4.setCell (p := ⟨w.heap.size, 0, none⟩) (Nat.le_refl _) (.string ⟨#[]⟩)).setCell (p := ⟨w.heap.size, 1, none⟩) (Nat.le_refl _) (.int .i64 0)).setCell (p := ⟨w.heap.size, 2, none⟩) (Nat.le_refl _) (.int .i64 0)).setCell (p := ⟨w.heap.size, 3, none⟩) (Nat.le_refl _) (.string ⟨#[]⟩))
    have c0 := r4.at_ 0 _ rfl
    have f0 := r4.fz 0
    have c1 := r4.at_ 1 _ rfl
    have f1 := r4.fz 1
    have c2 := r4.at_ 2 _ rfl
    have f2 := r4.fz 2
    have c3 := r4.at_ 3 _ rfl
    have f3 := r4.fz 3
    obtain ⟨V, hV⟩ : ∃ V, ((((w5.setCell ⟨w.heap.size, 0, none⟩ (.string ⟨#[]⟩)).setCell ⟨w.heap.size, 1, none⟩ (.int .i64 0)).setCell ⟨w.heap.size, 2, none⟩ (.int .i64 0)).setCell ⟨w.heap.size, 3, none⟩ (.string ⟨#[]⟩)) = V := ⟨_, rfl⟩
    rw [hV] at RV BV
    have HV : Hid (_ = V) := hV
    have v0 := RV.at_ 0 _ rfl
    have v1 := RV.at_ 1 _ rfl
    have v2 := RV.at_ 2 _ rfl
    have v3 := RV.at_ 3 _ rfl
    clear hV RV r4 B4
    go_wp2
    rw [HV.out]
    refine bodyPost_ret (v := .tuple #[.agg #[.string ⟨#[]⟩, .int .i64 0, .int .i64 0, .string ⟨#[]⟩], .bool false]) (by simp [results, Tryz.results43, go_sem, v0, v1, v2, v3]) rfl ?_
    exact ⟨.inr ⟨H.out, _, _, _, _, rfl⟩, BV⟩
  have q3p : 0 ≤ Z ∧ Z ≤ 3 := of_decide_eq_true q3
  rw [q3] at hSt
  go_wp2_with fail
  refine (hSt _).mono ?_; rintro e w5 ⟨rfl, rfl⟩
  clear hSt hLo hHi
  by_cases q5 : inB M 1 2 = true
  rotate_left
  · have q5' : inB M 1 2 = false := by simpa using q5
    have H : Hid (EL = none) := by
      have q : ¬ (1 ≤ M ∧ M ≤ 2) := of_decide_eq_false q5'
      exact hMn (by omega) (by omega)
    rw [q5'] at hFm
    clear hMn hYes q5 q5'
    go_wp2_with fail
    refine (hFm _).mono ?_; rintro e w6 ⟨rfl, rfl⟩
    have RV := ((((r4.set (o := 0) (by simp) (.string ⟨#[]⟩)).set (o := 1) (by simp) (.int .i64 0)).set (o := 2) (by simp) (.int .i64 0)).set (o := 3) (by simp) (.string ⟨#[]⟩))
    have BV := ((((B4.setCell (p := ⟨w.heap.size, 0, none⟩) (Nat.le_refl _) (.string ⟨#[]⟩)).setCell (p := ⟨w.heap.size, 1, none⟩) (Nat.le_refl _) (.int .i64 0)).setCell (p := ⟨w.heap.size, 2, none⟩) (Nat.le_refl _) (.int .i64 0)).setCell (p := ⟨w.heap.size, 3, none⟩) (Nat.le_refl _) (.string ⟨#[]⟩))
    have c0 := r4.at_ 0 _ rfl
    have f0 := r4.fz 0
    have c1 := r4.at_ 1 _ rfl
    have f1 := r4.fz 1
    have c2 := r4.at_ 2 _ rfl
    have f2 := r4.fz 2
    have c3 := r4.at_ 3 _ rfl
    have f3 := r4.fz 3
    obtain ⟨V, hV⟩ : ∃ V, ((((w6.setCell ⟨w.heap.size, 0, none⟩ (.string ⟨#[]⟩)).setCell ⟨w.heap.size, 1, none⟩ (.int .i64 0)).setCell ⟨w.heap.size, 2, none⟩ (.int .i64 0)).setCell ⟨w.heap.size, 3, none⟩ (.string ⟨#[]⟩)) = V := ⟨_, rfl⟩
    rw [hV] at RV BV
    have HV : Hid (_ = V) := hV
    have v0 := RV.at_ 0 _ rfl
    have v1 := RV.at_ 1 _ rfl
    have v2 := RV.at_ 2 _ rfl
    have v3 := RV.at_ 3 _ rfl
    clear hV RV r4 B4
    go_wp2
    rw [HV.out]
    refine bodyPost_ret (v := .tuple #[.agg #[.string ⟨#[]⟩, .int .i64 0, .int .i64 0, .string ⟨#[]⟩], .bool false]) (by simp [results, Tryz.results43, go_sem, v0, v1, v2, v3]) rfl ?_
    exact ⟨.inr ⟨H.out, _, _, _, _, rfl⟩, BV⟩
  have q5p : 1 ≤ M ∧ M ≤ 2 := of_decide_eq_true q5
  rw [q5] at hFm
  go_wp2_with fail
  refine (hFm _).mono ?_; rintro e w6 ⟨rfl, rfl⟩
  have H : Hid (EL = some (d, Z, M, c)) := hYes (by omega) (by omega) (by omega)
  clear hFm hMn hYes q3 q5
  have hEn := fun w => entryAtC (d, M, c) Z w hd hc
  simp only [] at hEn
  have r6 : Rf w6.drew w.heap.size [.string ⟨#[]⟩, .int .i64 0, .int .i64 0, .string ⟨#[]⟩] := ⟨r4.at_, r4.fz⟩
  have B6 := below_drew B4
  have z6 : w.heap.size < w6.drew.heap.size := by show _ < w6.heap.size; omega
  have m2 : w6.drew.cell? ⟨w.heap.size + 1, 2, none⟩ = some (.string c) := k2
  have m3 : w6.drew.cell? ⟨w.heap.size + 1, 3, none⟩ = some (.string d) := k3
  have z7 : w.heap.size + 1 < w6.drew.heap.size := z4
  clear r4 B4 k0 hW2
  go_wp2_with fail
  go_region_held (fun w' => w'.cell? ⟨w.heap.size + 1, 2, none⟩ = some (.string c) ∧ w'.cell? ⟨w.heap.size + 1, 3, none⟩ = some (.string d)) (first | with_reducible exact ⟨m2, m3⟩ | with_reducible exact ⟨e2, e3⟩ | exact ⟨m2, m3⟩ | with_reducible exact ⟨g2, g3⟩ | exact ⟨g2, g3⟩)
    ((go_at_call 72; refine (hEn _).mono ?_; rintro e wb ⟨rfl, bb⟩
      have rb := r6.below z6 bb
      have BB := B6.trans (bb.mono (Nat.le_of_lt z6))
      have e2 := (bb.cell (p := ⟨w.heap.size + 1, 2, none⟩) z7).trans m2
      have e3 := (bb.cell (p := ⟨w.heap.size + 1, 3, none⟩) z7).trans m3
      have RV := (((rb.set (o := 0) (by simp) (.string d)).set (o := 1) (by simp) (.int .i64 Z)).set (o := 2) (by simp) (.int .i64 M)).set (o := 3) (by simp) (.string c)
      have BV := (((BB.setCell (p := ⟨w.heap.size, 0, none⟩) (Nat.le_refl _) (.string d)).setCell (p := ⟨w.heap.size, 1, none⟩) (Nat.le_refl _) (.int .i64 Z)).setCell (p := ⟨w.heap.size, 2, none⟩) (Nat.le_refl _) (.int .i64 M)).setCell (p := ⟨w.heap.size, 3, none⟩) (Nat.le_refl _) (.string c)
      have g2 : ((((wb.setCell ⟨w.heap.size, 0, none⟩ (.string d)).setCell ⟨w.heap.size, 1, none⟩ (.int .i64 Z)).setCell ⟨w.heap.size, 2, none⟩ (.int .i64 M)).setCell ⟨w.heap.size, 3, none⟩ (.string c)).cell? ⟨w.heap.size + 1, 2, none⟩ = some (.string c) := by simp [World.cell?_setCell_far, e2]
      have g3 : ((((wb.setCell ⟨w.heap.size, 0, none⟩ (.string d)).setCell ⟨w.heap.size, 1, none⟩ (.int .i64 Z)).setCell ⟨w.heap.size, 2, none⟩ (.int .i64 M)).setCell ⟨w.heap.size, 3, none⟩ (.string c)).cell? ⟨w.heap.size + 1, 3, none⟩ = some (.string d) := by simp [World.cell?_setCell_far, e3]
      have c0 := rb.at_ 0 _ rfl
      have c1 := rb.at_ 1 _ rfl
      have c2 := rb.at_ 2 _ rfl
      have c3 := rb.at_ 3 _ rfl
      have f0 := rb.fz 0
      have f1 := rb.fz 1
      have f2 := rb.fz 2
      have f3 := rb.fz 3
      have v0 := RV.at_ 0 _ rfl
      have v1 := RV.at_ 1 _ rfl
      have v2 := RV.at_ 2 _ rfl
      have v3 := RV.at_ 3 _ rfl
      clear rb BB RV))
  all_goals
    go_wp2
    refine bodyPost_ret (v := .tuple #[.agg #[.string d, .int .i64 Z, .int .i64 M, .string c], .bool true]) (by simp [results, Tryz.results43, go_sem, v0, v1, v2, v3]) rfl ?_
    exact ⟨.inl ⟨(d, Z, M, c), H.out, rfl⟩, BV⟩
end Go.Proofs.YtjcnnmnnbjaheaaGreatDoor.En
