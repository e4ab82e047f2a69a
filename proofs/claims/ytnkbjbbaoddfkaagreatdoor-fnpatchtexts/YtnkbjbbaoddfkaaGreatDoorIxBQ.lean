/- The contract of strings.Index at a blank. No statement is proved here. -/
import Derived.Test.YtnkbjbbaoddfkaaGreatDoorRows
import Derived.Test.YtnkbjbbaoddfkaaGreatDoorLemQ
import Derived.Test.YtnkbjbbaoddfkaaGreatDoorLFLemQ
import Derived.WalkKit
import Derived.ProofKit
import Derived.Test.YtnkbjbbaoddfkaaGreatDoorHkLQ
import Derived.Test.YtnkbjbbaoddfkaaGreatDoorHkCQ
import Derived.Test.YtnkbjbbaoddfkaaGreatDoorHkTQ
import Derived.Test.YtnkbjbbaoddfkaaGreatDoorWvCQ
import Derived.Test.YtnkbjbbaoddfkaaGreatDoorDiCQ
import Derived.Test.YtnkbjbbaoddfkaaGreatDoorPpMQ
import Derived.Test.YtnkbjbbaoddfkaaGreatDoorPpRQ
import Derived.Test.YtnkbjbbaoddfkaaGreatDoorPqTQ
import Derived.Below
import Derived.WalkSpells
import Derived.WalkLawsBesides
import Derived.OwnWalk
import Derived.Deep.QuietTactic
import Derived.BigQuiet
import Derived.Laws.Concat
namespace Go.Proofs.YtnkbjbbaoddfkaaGreatDoor
open Go.ChangeShapes Go.WideShapes Go.ChangeAt Go.RowKit

theorem sliteIdxB (s : ByteArray) (c : Int) (w : World) :
    Calls Tryz.prog 87 #[.string s, .int .u8 c] w fun e w' => e = .returned (.int .i64 (Lib.indexByte s.data.toList c.toNat.toUInt8)) ∧ w' = w := by
  have h := idxEntry s c
  go_enter Tryz.func87, Tryz.ntmps87
  go_wp2
  go_ret
  exact ⟨rfl, rfl⟩
set_option maxRecDepth 20000 in
set_option maxHeartbeats 1000000 in
theorem sliteIndex32 (s : ByteArray) (w : World) :
    Calls Tryz.prog 98 #[.string s, .string ⟨#[32]⟩] w fun e w' => e = .returned (.int .i64 (Lib.indexByte s.data.toList 32)) ∧ w' = w := by
  have h := fun w => sliteIdxB s  32 w
  have e32 : (32 : Int).toNat.toUInt8 =  32 := rfl
  rw [e32] at h
  by_cases hq : (⟨#[32]⟩ : ByteArray) = s
  · subst hq
    have hR : Hid (Lib.indexByte (⟨#[32]⟩ : ByteArray).data.toList  32 = 0) := by show _ = _; rfl
    have hb : (([32] : List UInt8) == [32]) = true := rfl
    go_enter Tryz.func98, Tryz.ntmps98
    go_wp2
    go_ret
    exact ⟨ret_int hR.out.symm, rfl⟩
  · have hb : (([32] : List UInt8) == s.toList) = false := by
      have := beq_bytes_false hq
      rwa [ByteArray.toList_eq] at this
    obtain ⟨i, hi⟩ : ∃ i, Lib.indexByte s.data.toList  32 = i := ⟨_, rfl⟩
    rw [hi] at h ⊢
    clear hi
    go_enter Tryz.func98, Tryz.ntmps98
    go_wp2_with (go_at_call 87; refine (h _).mono ?_; rintro e w' ⟨rfl, rfl⟩)
    go_ret
    exact ⟨rfl, rfl⟩
end Go.Proofs.YtnkbjbbaoddfkaaGreatDoor
/- The program's reader of a patch: takeMarkedLine. No statement is proved here. -/
set_option linter.unusedVariables false
namespace Go.Proofs.YtnkbjbbaoddfkaaGreatDoor.Pp
open Go.ChangeShapes Go.WideShapes Go.ChangeAt Go.RowKit

set_option maxRecDepth 20000 in
set_option maxHeartbeats 1000000 in
theorem sliteIndex10 (s : ByteArray) (w : World) :
    Calls Tryz.prog 98 #[.string s, .string ⟨#[10]⟩] w fun e w' => e = .returned (.int .i64 (Lib.indexByte s.data.toList 10)) ∧ w' = w := by
  have h := fun w => sliteIdxB s  10 w
  have e10 : (10 : Int).toNat.toUInt8 =  10 := rfl
  rw [e10] at h
  by_cases hq : (⟨#[10]⟩ : ByteArray) = s
  · subst hq
    have hR : Hid (Lib.indexByte (⟨#[10]⟩ : ByteArray).data.toList  10 = 0) := by show _ = _; rfl
    have hb : (([10] : List UInt8) == [10]) = true := rfl
    go_enter Tryz.func98, Tryz.ntmps98
    go_wp2
    go_ret
    exact ⟨ret_int hR.out.symm, rfl⟩
  · have hb : (([10] : List UInt8) == s.toList) = false := by
      have := beq_bytes_false hq
      rwa [ByteArray.toList_eq] at this
    obtain ⟨i, hi⟩ : ∃ i, Lib.indexByte s.data.toList  10 = i := ⟨_, rfl⟩
    rw [hi] at h ⊢
    clear hi
    go_enter Tryz.func98, Tryz.ntmps98
    go_wp2_with (go_at_call 87; refine (h _).mono ?_; rintro e w' ⟨rfl, rfl⟩)
    go_ret
    exact ⟨rfl, rfl⟩
/-- What Cut at a line feed answers. -/
def Cut10 (s : ByteArray) (e : Ending) : Prop :=
  (Lib.indexByte s.data.toList 10 < 0 ∧ e = .returned (.tuple #[.string s, .string ⟨#[]⟩, .bool false])) ∨ (∃ m : Nat, Lib.indexByte s.data.toList 10 = m ∧ m < s.size ∧ e = .returned (.tuple #[.string (s.extract 0 m), .string (s.extract (m + 1) s.size), .bool true]))
set_option maxHeartbeats 1000000 in
theorem sliteCut10 (s : ByteArray) (w : World) (hs : s.size ≤ 1048576) :
    Calls Tryz.prog 80 #[.string s, .string ⟨#[10]⟩] w fun e w' => Cut10 s e ∧ Below w.heap.size w w' := by
  have hI := fun w => sliteIndex10 s w
  have hA : ∀ m : Nat, Lib.indexByte s.data.toList 10 = m → m < s.size := fun m h => by
    have := (indexByte_split s.data.toList 10 (by rw [h]; omega)).2.2
    rw [h, size_eq] at this
    simpa using this
  obtain ⟨i, hi⟩ : ∃ i, Lib.indexByte s.data.toList 10 = i := ⟨_, rfl⟩
  rw [hi] at hI
  unfold Cut10
  simp only [hi] at hA ⊢
  clear hi
  by_cases hneg : i < 0
  · have q : ¬ 0 ≤ i := by omega
    have HN : Hid (i < 0) := hneg
    clear hA
    go_enter Tryz.func80, Tryz.ntmps80
    go_wp2_with (go_at_call 98; refine (hI _).mono ?_; rintro e w' ⟨rfl, rfl⟩)
    go_ret3
    exact ⟨.inl ⟨HN.out, rfl⟩, Below.refl _ _⟩
  · obtain ⟨m, rfl⟩ := Int.eq_ofNat_of_zero_le (show 0 ≤ i by omega)
    have hm := hA m rfl
    have HM : Hid (m < s.size) := hm
    have q : (0 : Int) ≤ (m : Int) := by omega
    clear hA
    go_enter Tryz.func80, Tryz.ntmps80
    go_wp2_with (go_at_call 98; refine (hI _).mono ?_; rintro e w' ⟨rfl, rfl⟩)
    go_quiet (fail)
    go_wp2
    go_ret3
    exact ⟨.inr ⟨m, rfl, HM.out, rfl⟩, below_drewN' (Below.refl _ _) _⟩
set_option maxHeartbeats 1000000 in
theorem cut10 (s : ByteArray) (w : World) (hs : s.size ≤ 1048576) :
    Calls Tryz.prog 58 #[.string s, .string ⟨#[10]⟩] w fun e w' => Cut10 s e ∧ Below w.heap.size w w' := by
  have hC := fun w => sliteCut10 s w hs
  have H0 : Hid (∀ x y z, Cut10 s (.returned (.tuple #[x, y, z])) → Cut10 s (.returned (.tuple #[x, y, z]))) := fun _ _ _ h => h
  have hC' : ∀ w, Calls Tryz.prog 80 #[.string s, .string ⟨#[10]⟩] w fun e w' => (∃ x y z, e = .returned (.tuple #[.string x, .string y, .bool z]) ∧ Hid (Cut10 s e)) ∧ Below w.heap.size w w' := fun w => (hC w).mono fun e w' h => by
    refine ⟨?_, h.2⟩
    rcases h.1 with ⟨_, e1⟩ | ⟨m, _, _, e1⟩
    · exact ⟨_, _, _, e1, h.1⟩
    · exact ⟨_, _, _, e1, h.1⟩
  clear hC H0
  go_enter Tryz.func58, Tryz.ntmps58
  go_wp2_with (go_at_call 80; refine (hC' _).mono ?_; rintro e w' ⟨⟨x, y, z, rfl, HX⟩, hb'⟩)
  go_ret3
  exact ⟨HX.out, hb'⟩
theorem end_none (t : ByteArray) (p : Nat) (hp : p ≤ t.size) (h : Lib.indexByte (rst t p).data.toList 10 < 0) : lnP t p = none := by
  have e : lnM t p = t.size - p := by
    unfold lnM ended
    have : (t.extract p t.size) = rst t p := rfl
    rw [this, if_pos h, size_eq, rst_size]
    simp
  unfold lnP
  rw [if_pos (by omega)]
theorem end_some (t : ByteArray) (p m : Nat) (h : Lib.indexByte (rst t p).data.toList 10 = m) (hm : m < (rst t p).size) : lnM t p = m ∧ p + m < t.size := by
  constructor
  · unfold lnM ended
    have : (t.extract p t.size) = rst t p := rfl
    rw [this, if_neg (by omega), h]
    simp
  · rw [rst_size] at hm; omega
theorem rst_pre (t : ByteArray) (p m : Nat) (h : p + m < t.size) : (rst t p).extract 0 m = (t.extract p (p + m + 1)).extract 0 m := by
  apply bytes_inj2
  rw [ByteArray.toList_eq, ByteArray.toList_eq, extract_data, extract_data, extract_data, rst_data, List.drop_zero, List.drop_zero, List.take_take]
  congr 1
  omega
theorem rst_feed (t : ByteArray) (p m : Nat) (h : p + m < t.size) (hi : Lib.indexByte (rst t p).data.toList 10 = m) : (rst t p).extract 0 m ++ ⟨#[10]⟩ = t.extract p (p + m + 1) := by
  apply bytes_inj2
  rw [ByteArray.toList_eq, ByteArray.toList_eq]
  obtain ⟨_, y2, _⟩ := indexByte_split (rst t p).data.toList 10 (by rw [hi]; omega)
  rw [hi] at y2
  simp only [Int.toNat_natCast] at y2
  have e : (t.extract p (p + m + 1)).data.toList = (rst t p).data.toList.take (m + 1) := by rw [extract_data, rst_data]; congr 1; omega
  rw [e]
  have hl : ((rst t p).data.toList.take m).length = m := by rw [List.length_take, size_eq, rst_size]; omega
  rw [ByteArray.data_append, Array.toList_append, extract_data, List.drop_zero, Nat.sub_zero]
  have h10 : (rst t p).data.toList[m]? = some 10 := by
    rw [y2, List.getElem?_append_right (by omega), hl]
    simp
  rw [List.take_add_one, h10]
  rfl
def LkP (t : ByteArray) (p R : Nat) (w : World) (e : Ending) (w' : World) : Prop :=
  (lnP t p = none ∧ Pan e ∧ Below w.heap.size w w') ∨ (∃ (s : ByteArray) (q : Nat) (w1 : World), lnP t p = some (s, q) ∧ e = .returned (.string s) ∧ Below w.heap.size w w1 ∧ w' = w1.setCell ⟨R, 0, none⟩ (.string (rst t q)))
set_option maxRecDepth 20000 in
set_option maxHeartbeats 4000000 in
theorem takeLineC (t : ByteArray) (p R : Nat) (hv : Value) (w : World) (hr : Rf w R [.string (rst t p), hv]) (hRs : R < w.heap.size) (hg : UnG w) (hgs : 0 < w.heap.size) (ht : t.size ≤ 1048576) (hp : p ≤ t.size) :
    Calls Tryz.prog 36 #[.pointer (some ⟨R, 0, none⟩)] w fun e w' => LkP t p R w e w' := by
  have hC := cut10 (rst t p) w (by rw [rst_size]; omega)
  have c0 := hr.at_ 0 _ rfl
  go_enter Tryz.func36, Tryz.ntmps36
  go_wp2_with fail
  refine hC.mono ?_
  clear hC
  rintro e w1 ⟨⟨hi, rfl⟩ | ⟨m, hi, hm, rfl⟩, b1⟩
  · have HR : Hid (lnP t p = none) := end_none t p hp hi
    have hP := fun w => cutPrefix ⟨#[]⟩ ⟨#[92, 10]⟩ w
    have e0 : hpx ⟨#[]⟩ ⟨#[92, 10]⟩ = false := by decide
    rw [e0, if_neg (by decide)] at hP
    obtain ⟨T, u, g0⟩ := hg.below b1 hgs
    obtain ⟨Y, hY⟩ : ∃ Y, rst t p = Y := ⟨_, rfl⟩
    have hYs : Y.size ≤ 1048576 := by rw [← hY, rst_size]; omega
    rw [hY]
    clear hi e0 hr c0 hY
    go_wp2_with fail
    refine (hP _).mono ?_
    rintro e w' ⟨rfl, rfl⟩
    go_wp2
    exact ⟨rfl, .inl ⟨HR.out, ⟨T, u, rfl⟩, b1⟩⟩
  · obtain ⟨hM, hpm⟩ := end_some t p m hi hm
    have hFd := rst_feed t p m hpm hi
    have hPre := rst_pre t p m hpm
    rw [rst_rst, hPre]
    rw [hPre] at hFd
    have e3 : p + (m + 1) = p + m + 1 := rfl
    rw [e3]
    have hP := fun w => cutPrefix (rst t (p + m + 1)) ⟨#[92, 10]⟩ w
    rw [rst_rst] at hP
    have e2 : (⟨#[92, 10]⟩ : ByteArray).size = 2 := rfl
    rw [e2] at hP
    cases hb : hpx (rst t (p + m + 1)) ⟨#[92, 10]⟩ with
    | true =>
      have HW : wd t ⟨#[92, 10]⟩ (p + m + 1) = ((p + m + 1 + 2 : Nat) : Int) := wd_yes ((hpx_wd t _ _).1 hb)
      have hQ : lnQ t p = ((t.extract p (p + m + 1)).extract 0 m, p + m + 3) := by unfold lnQ; rw [hM, if_pos (by rw [HW]; omega)]
      rw [hb, if_pos rfl] at hP
      have hK := fun w => cloneS ((t.extract p (p + m + 1)).extract 0 m) w (by rw [ext_size, ext_size]; omega)
      have hL := fun w => isMarkedLine ((t.extract p (p + m + 1)).extract 0 m) w (by rw [ext_size, ext_size]; omega)
      have HP : Hid (lnP t p = if okH ((t.extract p (p + m + 1)).extract 0 m) = true then some ((t.extract p (p + m + 1)).extract 0 m, p + m + 3) else none) := by show _ = _; unfold lnP; rw [hM, if_neg (by omega), hQ]
      obtain ⟨S, hS⟩ : ∃ S, (t.extract p (p + m + 1)).extract 0 m = S := ⟨_, rfl⟩
      have hSs : S.size ≤ 1048576 := by rw [← hS, ext_size, ext_size]; omega
      rw [hS] at hK hL HP hFd ⊢
      obtain ⟨X, hX⟩ : ∃ X, rst t (p + m + 1) = X := ⟨_, rfl⟩
      rw [hX] at hP ⊢
      obtain ⟨Z, hZ⟩ : ∃ Z, rst t (p + m + 1 + 2) = Z := ⟨_, rfl⟩
      have HZ : Hid (rst t (p + m + 3) = Z) := hZ
      rw [hZ] at hP
      clear hb HW hQ hS hX hZ hi hm hM hPre hFd e2 e3
      go_wp2_with fail
      refine (hP _).mono ?_
      rintro e w' ⟨rfl, rfl⟩
      obtain ⟨T, u, g0⟩ := hg.below b1 hgs
      go_wp2_with fail
      refine (hK _).mono ?_
      rintro e w2 ⟨rfl, b2⟩
      have B2 : Below w.heap.size w w2 := b1.trans (b2.mono b1.size)
      obtain ⟨T, u, g2⟩ := hg.below B2 hgs
      have R2 := hr.below hRs B2
      have f0 := R2.fz 0
      have d0 := R2.at_ 0 _ rfl
      cases ho : okH S with
      | true =>
        rw [ho] at hL
        have HQ : Hid (lnP t p = some (S, p + m + 3)) := by show _ = _; rw [HP.out, ho, if_pos rfl]
        clear HP ho hP hK hr c0 R2
        go_wp2_with fail
        refine (hL _).mono ?_
        rintro e w3 ⟨rfl, rfl⟩
        go_wp2
        go_ret
        exact .inr ⟨_, _, _, HQ.out, rfl, B2, by rw [HZ.out]⟩
      | false =>
        rw [ho] at hL
        have HQ : Hid (lnP t p = none) := by show _ = _; rw [HP.out, ho]; rfl
        clear HP ho hP hK hr c0 R2
        go_wp2_with fail
        refine (hL _).mono ?_
        rintro e w3 ⟨rfl, rfl⟩
        go_wp2
        exact ⟨rfl, .inl ⟨HQ.out, ⟨T, u, rfl⟩, B2⟩⟩
    | false =>
      have HW : wd t ⟨#[92, 10]⟩ (p + m + 1) = -1 := wd_no (fun k => by have := (hpx_wd t ⟨#[92, 10]⟩ (p + m + 1)).2 k; rw [this] at hb; cases hb)
      have hQ : lnQ t p = (t.extract p (p + m + 1), p + m + 1) := by unfold lnQ; rw [hM, if_neg (by rw [HW]; omega)]
      rw [hb, if_neg (by decide)] at hP
      have hL := fun w => isMarkedLine (t.extract p (p + m + 1)) w (by rw [ext_size]; omega)
      have HP : Hid (lnP t p = if okH (t.extract p (p + m + 1)) = true then some (t.extract p (p + m + 1), p + m + 1) else none) := by show _ = _; unfold lnP; rw [hM, if_neg (by omega), hQ]
      obtain ⟨S, hS⟩ : ∃ S, (t.extract p (p + m + 1)).extract 0 m = S := ⟨_, rfl⟩
      have hSs : S.size ≤ 1048576 := by rw [← hS, ext_size, ext_size]; omega
      rw [hS] at hFd ⊢
      rw [← hFd] at hL HP
      obtain ⟨X, hX⟩ : ∃ X, rst t (p + m + 1) = X := ⟨_, rfl⟩
      have HX : Hid (rst t (p + m + 1) = X) := hX
      rw [hX] at hP ⊢
      have R1 := hr.below hRs b1
      have f0 := R1.fz 0
      have d0 := R1.at_ 0 _ rfl
      obtain ⟨T, u, g0⟩ := hg.below b1 hgs
      clear hb HW hQ hS hX hi hm hM hPre hFd e2 e3 hr c0 R1
      cases ho : okH (S ++ ⟨#[10]⟩) with
      | true =>
        have HQ : Hid (lnP t p = some (S ++ ⟨#[10]⟩, p + m + 1)) := by show _ = _; rw [HP.out, ho, if_pos rfl]
        rw [ho] at hL
        clear HP ho
        go_wp2_with fail
        refine (hP _).mono ?_
        rintro e w' ⟨rfl, rfl⟩
        go_wp2_with fail
        refine (hL _).mono ?_
        rintro e w3 ⟨rfl, rfl⟩
        go_wp2
        go_ret
        exact .inr ⟨_, _, _, HQ.out, rfl, b1, by rw [HX.out]⟩
      | false =>
        have HQ : Hid (lnP t p = none) := by show _ = _; rw [HP.out, ho]; rfl
        rw [ho] at hL
        clear HP ho
        go_wp2_with fail
        refine (hP _).mono ?_
        rintro e w' ⟨rfl, rfl⟩
        go_wp2_with fail
        refine (hL _).mono ?_
        rintro e w3 ⟨rfl, rfl⟩
        go_wp2
        exact ⟨rfl, .inl ⟨HQ.out, ⟨T, u, rfl⟩, b1⟩⟩
end Go.Proofs.YtnkbjbbaoddfkaaGreatDoor.Pp
