/- A commit, as the specification draws them. No statement is proved here. -/
import Derived.Test.YtijphomojljckaaGreatDoorRows
import Derived.Test.YtijphomojljckaaGreatDoorLemQ
import Derived.Test.YtijphomojljckaaGreatDoorLFLemQ
import Derived.Test.YtijphomojljckaaGreatDoorComQ
import Derived.Test.YtijphomojljckaaGreatDoorInQ
import Derived.Test.YtijphomojljckaaGreatDoorHkTQ
import Derived.Test.YtijphomojljckaaGreatDoorDigCQ
import Derived.Test.YtijphomojljckaaGreatDoorDrawQ
import Derived.Test.YtijphomojljckaaGreatDoorTeAQ
import Derived.Test.YtijphomojljckaaGreatDoorCutDQ
import Derived.Test.YtijphomojljckaaGreatDoorDraw21Q
import Derived.Test.YtijphomojljckaaGreatDoorDraw25Q
import Derived.WalkKit
import Derived.ProofKit
import Derived.Below
import Derived.WalkSpells
import Derived.Maps.AppendAt
import Derived.Deep.QuietTactic
import Derived.BigQuiet
import Derived.Deep.RegionWith
import Derived.Deep.RegionHeld
import Derived.Deep.RegionLaw
import Derived.Deep.CutBlock
import Derived.Deep.Cut
import Derived.Deep.CutRange
import Derived.Deep.Onto
set_option linter.unusedVariables false
namespace Go.Proofs.YtijphomojljckaaGreatDoor.Cd
open Go.ChangeShapes Go.WideShapes Go.ChangeAt Go.RowKit
set_option maxRecDepth 20000 in
set_option maxHeartbeats 4000000 in
theorem l6DrawCommit (N b : Nat) (a : Option Addr) (n cap : Nat) (k : Int) (w : World) (h : Src N w b a n cap k) (hk : k ≤ 4294900000) :
    Calls Tryz.prog 26 #[.pointer (some ⟨b, 0, none⟩)] w fun e w' => CmPost N b a n cap k w e w' := by
  obtain ⟨i0, hi, hz0, hz1, hz2⟩ := info_parts infoString
  have hlt := h.lt
  have hge := h.ge
  obtain ⟨Z, hZ⟩ : ∃ Z, Obj.cells #[.string ⟨#[]⟩, .slice none 0 0, .int .i64 0, .string ⟨#[]⟩] 34 = Z := ⟨_, rfl⟩
  have hRZ : ∀ u : World, Rf (u.alloc Z) u.heap.size [.string ⟨#[]⟩, .slice none 0 0, .int .i64 0, .string ⟨#[]⟩] := fun u => by rw [← hZ]; exact Rf.new u #[.string ⟨#[]⟩, .slice none 0 0, .int .i64 0, .string ⟨#[]⟩] _
  go_enter Tryz.func26, Tryz.ntmps26
  go_wp2_with fail
  refine (l1Word N b a n cap k (w.alloc Z) (h.below (allocBelow _ _)) (by omega)).mono ?_; rintro e w1 ⟨z1, rfl, hz1', s1, g1⟩
  have R1 := rfRow (hRZ w) g1 (by simp; omega) (by simp)
  have G1 := grown_trans (World.grownBy_alloc w Z (some b)) g1
  have S1 : w.heap.size + 1 ≤ w1.heap.size := by have := g1.size; simpa using this
  clear g1
  go_wp2_with fail
  refine (l5Id 2 z1 _ rfl (by omega)).mono ?_; rintro e w1' ⟨rfl, hw1⟩
  rw [hw1]; clear hw1 w1'
  go_wp2_with fail
  refine (l1Next N b a n cap (k + 1) 90 _ s1 (by omega)).mono ?_; rintro e w2 ⟨r2, rfl, hd2, s2, g2⟩
  have R2 := rfRow R1 g2 (by simp; omega) (by omega)
  have G2 := grown_trans G1 g2
  have S2 := Nat.le_trans S1 g2.size
  clear R1 G1 S1 g2 s1 hd2
  go_wp2_with fail
  refine (l1Word N b a n cap (k + 1 + 1) _ s2 (by omega)).mono ?_; rintro e w3 ⟨z3, rfl, hz3, s3, g3⟩
  have R3 := rfRow R2 g3 (by simp; omega) (by omega)
  have G3 := grown_trans G2 g3
  have S3 := Nat.le_trans S2 g3.size
  clear R2 G2 S2 g3 s2
  obtain ⟨W4, hW4⟩ : ∃ W, ((((w3.alloc Z).setCell ⟨w3.heap.size, 0, none⟩ (.string (idN 2 z1))).setCell ⟨w3.heap.size, 1, none⟩ (.slice none 0 0)).setCell ⟨w3.heap.size, 2, none⟩ (.int .i64 r2)).setCell ⟨w3.heap.size, 3, none⟩ (.string z3) = W := ⟨_, rfl⟩
  have hg4 : (w3.alloc Z).grownBy W4 (some w3.heap.size) := by rw [← hW4]; exact grown_trans (grown_trans (grown_trans (grownSet _ _ _ _) (grownSet _ _ _ _)) (grownSet _ _ _ _)) (grownSet _ _ _ _)
  have R4 : Rf W4 w3.heap.size [.string (idN 2 z1), .slice none 0 0, .int .i64 r2, .string z3] := by
    rw [← hW4]
    exact ((((hRZ w3).set (o := 0) (by simp) (.string (idN 2 z1))).set (o := 1) (by simp) (.slice none 0 0)).set (o := 2) (by simp) (.int .i64 r2)).set (o := 3) (by simp) (.string z3)
  have hC4 : CW N b a n cap (k + 3) w W4 w3.heap.size (idN 2 z1) (.slice none 0 0) [] r2 z3 (k + 1 + 1 + 1) :=
    ⟨R4, rfRow (rfRow R3 (World.grownBy_alloc w3 Z none) (by simp) (by omega)) hg4 (by simp; omega) (by simp; omega), World.ownsRow_nil _ _ _ _, by simp [Value.ownBlock], by omega, by have := hg4.size; simp at this; omega, (s3.below (allocBelow _ _)).kept hg4 (by simp; omega) (fun j hj => by cases hj; omega), by omega, grown_new (grown_trans G3 (World.grownBy_alloc w3 Z (some b))) hg4 (fun j hj => by cases hj; omega)⟩
  have q30 := (hRZ w3).at_ 0 _ rfl
  have q31 := (hRZ w3).at_ 1 _ rfl
  have q32 := (hRZ w3).at_ 2 _ rfl
  have q33 := (hRZ w3).at_ 3 _ rfl
  have y30 := (hRZ w3).fz 0
  have y31 := (hRZ w3).fz 1
  have y32 := (hRZ w3).fz 2
  have y33 := (hRZ w3).fz 3
  clear R3 G3 hg4 R4 s3
  go_wp2_with fail

  obtain ⟨p, hp⟩ : ∃ p, w3.heap.size = p := ⟨_, rfl⟩
  rw [hp] at hC4 ⊢
  clear hW4 q30 q31 q32 q33 y30 y31 y32 y33 S3 hp hRZ hZ
  refine (l1Next N b a n cap (k + 1 + 1 + 1) 3 _ hC4.src (by omega)).mono ?_; rintro e w5 ⟨r5, rfl, hd5, s5, g5⟩
  have hd50 := hd5.1
  have hd51 : r5 < 3 := hd5.2.1 (by omega)
  obtain ⟨m0, rfl⟩ := Int.eq_ofNat_of_zero_le hd50
  have hC5 := hC4.draw s5 g5 hlt (k + 6 - (m0 : Int)) (by omega)
  clear hC4 s5 g5 hd5 hd50
  go_wp2
  go_loopw [4] (fun i wr => ∃ (m : Nat) (v : Value) (ps : List ByteArray) (k' : Int), i = .int .i64 m ∧ m ≤ 2 ∧ ps.length + m ≤ 2 ∧ Small 100 ps ∧ CW N b a n cap (k + 6 - (m : Int)) w wr p (idN 2 z1) v ps r2 z3 k') (fun i _ => (intOf i).toNat)
  case atStart => exact ⟨m0, .slice none 0 0, [], _, rfl, by omega, by simp; omega, Small.nil _, hC5⟩
  case round =>
    clear hC5
    obtain ⟨m, v, ps, k', rfl, hm, hlen, hsm, hC⟩ := hrel
    have hk3 : k' ≤ 4294967296 := by have := hC.hi; omega
    have hkh := hC.hi
    by_cases hpos : 0 < m
    · have hq : (0 : Int) < (m : Int) := by omega
      have hD := hC.bel (w2 := wr.drew) ((Below.refl _ _).drew)
      have cP : wr.drew.cell? ⟨p, 1, none⟩ = some v := hD.rf.at_ 1 _ rfl
      clear hC
      go_wp2
      go_region_law (first
        | (refine step_call1 rfl 37 enterWord (.tmp 21) _ rfl _ rfl (l1Word N b a n cap k' _ hD.src hk3) ?_; rintro e w6 ⟨x, rfl, hx, hs6, g6⟩; refine ⟨_, rfl, ?_⟩; have C6 := hD.draw hs6 g6 hlt (k + 6 - ((m : Int) - 1)) (by omega); have c6 := C6.rf.at_ 1 _ rfl; have z6 := C6.p1; have y6 := C6.p0; have c7 := (C6.bel (allocBelow w6 (.cells #[.string (idN 3 x)] 9))).rf.at_ 1 _ rfl)
        | (refine step_call2 rfl 36 enterId (.const (.int .i64 3)) (.tmp 22) _ rfl _ _ rfl rfl (l5Id 3 x _ rfl (by omega)) ?_; rintro e w7 ⟨rfl, hw7⟩; refine ⟨_, rfl, ?_⟩; rw [hw7]; clear hw7 w7)
        | (refine step_appD rfl (.tmp 20) (.tmp 24) 32 rfl (w.heap.size + 1) 9 i0 (.string ByteArray.empty) 1 16 Tryz.underlying32 hi hz0 hz1 hz2 rfl (by decide) v _ _ rfl (C6.own.alloc _) ⟨w6.heap.size, 0, none⟩ 1 1 [.string (idN 3 x)] rfl rfl (cell_one_new _ _ _) (by simp [Value.oneCell']) (by unfold maxLen; omega) (by omega) (by simp; omega) ?_; intro v8 w8 o8 g8 k8; obtain ⟨gA, cA, rfl⟩ := own_succ o8; obtain ⟨C8, c8, f8⟩ := C6.app hlt o8 g8 k8))
      all_goals
        have H8 : Hid (CW N b a n cap (k + 6 - ((m : Int) - 1)) w (w8.setCell ⟨p, 1, none⟩ (.slice (some ⟨gA, 0, none⟩) (ps.length + 1) cA)) p (idN 2 z1) (.slice (some ⟨gA, 0, none⟩) (ps.length + 1) cA) (ps ++ [idN 3 x]) r2 z3 (k' + 1)) := C8
        clear hD C6 C8 o8 g8 k8 hs6 g6 c6 c7 cP
        go_wp2
        go_roundw
        case rel => exact ⟨m - 1, _, ps ++ [idN 3 x], k' + 1, by go_num, by omega, by simp; omega, hsm.snoc (by rw [Te.idN_sz]; omega), H8.out.up (by omega)⟩
        case measure => simp [intOf]; omega
    · have hq : ¬ (0 : Int) < (m : Int) := by omega
      have hm0 : m = 0 := by omega
      subst hm0
      go_wp2_with fail
      refine (l1Next N b a n cap k' 20 _ hC.src (by omega)).mono ?_; rintro e w5 ⟨r3, rfl, hd3, s5, g5⟩
      have hC5 := hC.draw s5 g5 hlt (k + 7) (by omega)
      have hp0 := hC5.p0
      have hp1 := hC5.p1
      have hk5 := hC5.hi
      have hd30 := hd3.1
      clear hC s5 g5 hd3 hq hpos hk3 hkh
      go_upto_block 2 with fail
      go_cut [] from 29 to 67 (fun wx => ∃ (t : ByteArray) (v : Value) (ps : List ByteArray) (tm : Int) (no : ByteArray) (k' : Int), ps.length ≤ 10 ∧ Small 100 ps ∧ CW N b a n cap (k + 10) w wx p t v ps tm no k')
      case first =>
        by_cases r0 : r3 = 0
        · subst r0
          have lL := lit_new w5 [⟨#[]⟩, ⟨#[98, 48, 48, 48, 48]⟩, ⟨#[116, 48, 48, 48, 103]⟩] 9 100 (by decide)
          simp only [List.map_cons, List.map_nil, List.length_cons, List.length_nil, Nat.zero_add, Nat.reduceAdd] at lL
          have hC6 := hC5.bel (allocBelow w5 (.cells #[.string ⟨#[]⟩, .string ⟨#[98, 48, 48, 48, 48]⟩, .string ⟨#[116, 48, 48, 48, 103]⟩] 9))
          clear hC5
          go_wp2_with fail
          refine (l1Next N b a n cap _ 3 _ hC6.src (by omega)).mono ?_; rintro e w6 ⟨r6, rfl, hd6, s6, g6⟩
          have hC7 := hC6.draw s6 g6 hlt (k + 8) (by omega)
          have hd60 := hd6.1
          have hd61 : r6 < 3 := hd6.2.1 (by omega)
          obtain ⟨j, rfl⟩ := Int.eq_ofNat_of_zero_le hd60
          obtain ⟨x, hx, hx1⟩ := (lL.kept g6 (by simp; omega)) j (by omega)
          have k0 := hC7.rf.at_ 0 _ rfl
          have f0 := hC7.rf.fz 0
          have HC := hC7.put hlt 0 (.string x) x v ps r2 z3 (by omega) rfl hC7.own hC7.ob
          have HX : Hid (∃ (t : ByteArray) (v : Value) (ps : List ByteArray) (tm : Int) (no : ByteArray) (k' : Int), ps.length ≤ 10 ∧ Small 100 ps ∧ CW N b a n cap (k + 10) w (w6.setCell ⟨p, 0, none⟩ (.string x)) p t v ps tm no k') := ⟨_, _, _, _, _, _, by omega, hsm, HC.up (by omega)⟩
          clear hC6 hC7 HC s6 g6 hd6 lL
          go_wp2_with fail
          go_meet
          exact HX.out
        by_cases r1 : r3 = 1
        · subst r1
          obtain ⟨CS, hCS⟩ : ∃ C, Obj.cells ([(⟨#[]⟩ : ByteArray), ⟨#[99, 48, 48, 48, 48]⟩, ⟨#[116, 48, 48, 48, 48]⟩].map Value.string).toArray 9 = C := ⟨_, rfl⟩
          have bL : Below w5.heap.size w5 (w5.alloc CS).drew := (allocBelow _ _).drew
          have bD : Below w5.heap.size w5 w5.drew := (Below.refl _ _).drew
          have lL : LitB (w5.alloc CS).drew w5.heap.size 3 100 := by rw [← hCS]; exact lit_new w5 [(⟨#[]⟩ : ByteArray), ⟨#[99, 48, 48, 48, 48]⟩, ⟨#[116, 48, 48, 48, 48]⟩] 9 100 (by decide)
          have lB : ∀ w9 : World, LitB (w9.alloc CS) w9.heap.size 3 100 := fun w9 => by rw [← hCS]; exact lit_new w9 [(⟨#[]⟩ : ByteArray), ⟨#[99, 48, 48, 48, 48]⟩, ⟨#[116, 48, 48, 48, 48]⟩] 9 100 (by decide)
          have hCa := hC5.bel bL
          have hCb := hC5.bel bD
          have hPa := l1Next N b a n cap _ 3 _ hCa.src (by omega)
          have hPb := l1Next N b a n cap _ 3 _ hCb.src (by omega)
          have hne : some w5.heap.size ≠ some b := by simp; omega
          have c5 : w5.drew.cell? ⟨p, 1, none⟩ = some v := hCb.rf.at_ 1 _ rfl
          have c5a : (w5.alloc CS).drew.cell? ⟨p, 1, none⟩ = some v := hCa.rf.at_ 1 _ rfl
          have c5b : (w5.alloc CS).cell? ⟨p, 1, none⟩ = some v := c5a
          have c5c : w5.cell? ⟨p, 1, none⟩ = some v := c5
          have hpw : w.heap.size + 1 ≤ w5.heap.size := by omega
          have hps : ps.length ≤ 2 := by omega
          simp only [List.map_cons, List.map_nil] at hCS
          clear hC5
          go_wp2
          go_region_law (first
            | (refine step_call2 rfl 35 enterNext (.tmp 42) (.const (.int .i64 3)) _ rfl _ _ rfl rfl hPa ?_; rintro e w9 ⟨r9, rfl, hd, s9, g9⟩; refine ⟨_, rfl, ?_⟩; have hd0 := hd.1; have hd1 : r9 < 3 := hd.2.1 (by omega); obtain ⟨j9, rfl⟩ := Int.eq_ofNat_of_zero_le hd0; obtain ⟨x9, hx9, hz9⟩ := (lL.kept g9 hne) j9 (by omega); have CX := hCa.draw s9 g9 hlt (k + 8) (by omega); have zX := CX.p1; have yX : w.heap.size + 1 ≤ (w9.alloc (.cells #[.string x9] 9)).heap.size := (by have := CX.p0; simp; omega); have c9 := CX.rf.at_ 1 _ rfl; have c9a := (CX.bel (allocBelow w9 (.cells #[.string x9] 9))).rf.at_ 1 _ rfl; have hone := cell_one_new w9 (.string x9) 9; clear hd s9 g9)
            | (refine step_call2 rfl 35 enterNext (.tmp 42) (.const (.int .i64 3)) _ rfl _ _ rfl rfl hPb ?_; rintro e w9 ⟨r9, rfl, hd, s9, g9⟩; refine ⟨_, rfl, ?_⟩; have hd0 := hd.1; have hd1 : r9 < 3 := hd.2.1 (by omega); obtain ⟨j9, rfl⟩ := Int.eq_ofNat_of_zero_le hd0; obtain ⟨x9, hx9, hz9⟩ := (lB w9) j9 (by omega); have CY := hCb.draw s9 g9 hlt (k + 8) (by omega); have c9 := CY.rf.at_ 1 _ rfl; have CX := CY.bel (allocBelow w9 CS); have zX := CX.p1; have yX : w.heap.size + 1 ≤ ((w9.alloc CS).alloc (.cells #[.string x9] 9)).heap.size := (by have := CX.p0; simp at zX ⊢; omega); have c9a := CX.rf.at_ 1 _ rfl; have c9b := (CX.bel (allocBelow (w9.alloc CS) (.cells #[.string x9] 9))).rf.at_ 1 _ rfl; have hone := cell_one_new (w9.alloc CS) (.string x9) 9; rw [World.size_alloc] at hone; clear hd s9 g9)
            | (refine step_appD rfl (.tmp 40) (.tmp 46) 32 rfl (w.heap.size + 1) 9 i0 (.string ByteArray.empty) 1 16 Tryz.underlying32 hi hz0 hz1 hz2 rfl (by decide) v _ _ rfl (CX.own.alloc _) _ 1 1 [.string x9] rfl rfl hone (by simp [Value.oneCell']) (by unfold maxLen; omega) (by omega) yX ?_; intro v8 w8 o8 g8 k8; obtain ⟨gA, cA, rfl⟩ := own_succ o8; obtain ⟨C8, c8, f8⟩ := CX.app hlt o8 g8 k8))
          all_goals
            have HX : Hid (∃ (t : ByteArray) (v : Value) (qs : List ByteArray) (tm : Int) (no : ByteArray) (k' : Int), qs.length ≤ 10 ∧ Small 100 qs ∧ CW N b a n cap (k + 10) w (w8.setCell ⟨p, 1, none⟩ (.slice (some ⟨gA, 0, none⟩) (ps.length + 1) cA)) p t v qs tm no k') := ⟨_, _, ps ++ [x9], _, _, _, by simp; omega, hsm.snoc hz9, C8.up (by omega)⟩
            go_wp2_with fail
            go_meet
            exact HX.out
        by_cases r2' : r3 = 2
        · subst r2'
          have hC6 := hC5.bel (allocBelow w5 (.cells #[.int .i64 (-1), .int .i64 0, .int .i64 1000000000, .int .i64 1000000001] 2))
          have hl : ∀ j, j < 4 → ∃ v : Int, (w5.alloc (.cells #[.int .i64 (-1), .int .i64 0, .int .i64 1000000000, .int .i64 1000000001] 2)).cell? ⟨w5.heap.size, j, none⟩ = some (.int .i64 v) ∧ True := by
            intro j hj
            have q := Rs.new w5 #[.int .i64 (-1), .int .i64 0, .int .i64 1000000000, .int .i64 1000000001] 2 j
            have hj4 : j = 0 ∨ j = 1 ∨ j = 2 ∨ j = 3 := by omega
            rcases hj4 with rfl | rfl | rfl | rfl
            · exact ⟨-1, q _ rfl, trivial⟩
            · exact ⟨0, q _ rfl, trivial⟩
            · exact ⟨1000000000, q _ rfl, trivial⟩
            · exact ⟨1000000001, q _ rfl, trivial⟩
          clear hC5
          go_wp2_with fail
          refine (l1Pick N b a n cap _ w5.heap.size 4 4 (fun _ => True) _ hC6.src (by omega) (by omega) (by omega) (by omega) (by simp) hl).mono ?_; rintro e w6 ⟨x, rfl, hx1, s6, g6⟩
          have hC7 := hC6.draw s6 g6 hlt (k + 8) (by omega)
          have k0 := hC7.rf.at_ 2 _ rfl
          have f0 := hC7.rf.fz 2
          have HC := hC7.put hlt 2 (.int .i64 x) (idN 2 z1) v ps x z3 (by omega) rfl hC7.own hC7.ob
          have HX : Hid (∃ (t : ByteArray) (v : Value) (ps : List ByteArray) (tm : Int) (no : ByteArray) (k' : Int), ps.length ≤ 10 ∧ Small 100 ps ∧ CW N b a n cap (k + 10) w (w6.setCell ⟨p, 2, none⟩ (.int .i64 x)) p t v ps tm no k') := ⟨_, _, _, _, _, _, by omega, hsm, HC.up (by omega)⟩
          clear hC6 hC7 HC s6 g6 hl
          go_wp2_with fail
          go_meet
          exact HX.out
        by_cases r4 : r3 = 3
        · subst r4
          have lL := lit_new w5 [⟨#[]⟩, ⟨#[97, 10, 98]⟩, ⟨#[32, 120]⟩, ⟨#[127]⟩, ⟨#[46, 46, 46, 46, 46, 46, 46, 46, 46, 46, 46, 46, 46, 46, 46, 46, 46, 46, 46, 46, 46, 46, 46, 46, 46, 46, 46, 46, 46, 46, 46, 46, 46, 46, 46, 46, 46, 46, 46, 46, 46, 46, 46, 46, 46, 46, 46, 46, 46, 46, 46, 46, 46, 46, 46, 46, 46, 46, 46, 46]⟩, ⟨#[46, 46, 46, 46, 46, 46, 46, 46, 46, 46, 46, 46, 46, 46, 46, 46, 46, 46, 46, 46, 46, 46, 46, 46, 46, 46, 46, 46, 46, 46, 46, 46, 46, 46, 46, 46, 46, 46, 46, 46, 46, 46, 46, 46, 46, 46, 46, 46, 46, 46, 46, 46, 46, 46, 46, 46, 46, 46, 46, 46, 46]⟩] 9 100 (by decide)
          simp only [List.map_cons, List.map_nil, List.length_cons, List.length_nil, Nat.zero_add, Nat.reduceAdd] at lL
          have hC6 := hC5.bel (allocBelow w5 (.cells #[.string ⟨#[]⟩, .string ⟨#[97, 10, 98]⟩, .string ⟨#[32, 120]⟩, .string ⟨#[127]⟩, .string ⟨#[46, 46, 46, 46, 46, 46, 46, 46, 46, 46, 46, 46, 46, 46, 46, 46, 46, 46, 46, 46, 46, 46, 46, 46, 46, 46, 46, 46, 46, 46, 46, 46, 46, 46, 46, 46, 46, 46, 46, 46, 46, 46, 46, 46, 46, 46, 46, 46, 46, 46, 46, 46, 46, 46, 46, 46, 46, 46, 46, 46]⟩, .string ⟨#[46, 46, 46, 46, 46, 46, 46, 46, 46, 46, 46, 46, 46, 46, 46, 46, 46, 46, 46, 46, 46, 46, 46, 46, 46, 46, 46, 46, 46, 46, 46, 46, 46, 46, 46, 46, 46, 46, 46, 46, 46, 46, 46, 46, 46, 46, 46, 46, 46, 46, 46, 46, 46, 46, 46, 46, 46, 46, 46, 46, 46]⟩] 9))
          clear hC5
          go_wp2_with fail
          refine (l1Next N b a n cap _ 6 _ hC6.src (by omega)).mono ?_; rintro e w6 ⟨r6, rfl, hd6, s6, g6⟩
          have hC7 := hC6.draw s6 g6 hlt (k + 8) (by omega)
          have hd60 := hd6.1
          have hd61 : r6 < 6 := hd6.2.1 (by omega)
          obtain ⟨j, rfl⟩ := Int.eq_ofNat_of_zero_le hd60
          obtain ⟨x, hx, hx1⟩ := (lL.kept g6 (by simp; omega)) j (by omega)
          have k0 := hC7.rf.at_ 3 _ rfl
          have f0 := hC7.rf.fz 3
          have HC := hC7.put hlt 3 (.string x) (idN 2 z1) v ps r2 x (by omega) rfl hC7.own hC7.ob
          have HX : Hid (∃ (t : ByteArray) (v : Value) (ps : List ByteArray) (tm : Int) (no : ByteArray) (k' : Int), ps.length ≤ 10 ∧ Small 100 ps ∧ CW N b a n cap (k + 10) w (w6.setCell ⟨p, 3, none⟩ (.string x)) p t v ps tm no k') := ⟨_, _, _, _, _, _, by omega, hsm, HC.up (by omega)⟩
          clear hC6 hC7 HC s6 g6 hd6 lL
          go_wp2_with fail
          go_meet
          exact HX.out
        by_cases r5 : r3 = 4
        · subst r5
          have hC6 := hC5.bel (allocBelow w5 (.cells #[.string ⟨#[99, 48, 48, 48, 48]⟩, .string ⟨#[99, 48, 48, 48, 49]⟩, .string ⟨#[99, 48, 48, 48, 50]⟩, .string ⟨#[99, 48, 48, 48, 51]⟩] 9))
          have o6 : (w5.alloc (.cells #[.string ⟨#[99, 48, 48, 48, 48]⟩, .string ⟨#[99, 48, 48, 48, 49]⟩, .string ⟨#[99, 48, 48, 48, 50]⟩, .string ⟨#[99, 48, 48, 48, 51]⟩] 9)).ownsRow (w.heap.size + 1) 9 1 (.slice (some ⟨w5.heap.size, 0, none⟩) 4 4) ([(⟨#[99, 48, 48, 48, 48]⟩ : ByteArray), ⟨#[99, 48, 48, 48, 49]⟩, ⟨#[99, 48, 48, 48, 50]⟩, ⟨#[99, 48, 48, 48, 51]⟩]).length (([(⟨#[99, 48, 48, 48, 48]⟩ : ByteArray), ⟨#[99, 48, 48, 48, 49]⟩, ⟨#[99, 48, 48, 48, 50]⟩, ⟨#[99, 48, 48, 48, 51]⟩]).map Value.string) := World.ownsRow_lit w5 #[.string ⟨#[99, 48, 48, 48, 48]⟩, .string ⟨#[99, 48, 48, 48, 49]⟩, .string ⟨#[99, 48, 48, 48, 50]⟩, .string ⟨#[99, 48, 48, 48, 51]⟩] 4 (by omega) (by unfold maxLen; omega) rfl
          obtain ⟨W6, hW6⟩ : ∃ W, w5.alloc (.cells #[.string ⟨#[99, 48, 48, 48, 48]⟩, .string ⟨#[99, 48, 48, 48, 49]⟩, .string ⟨#[99, 48, 48, 48, 50]⟩, .string ⟨#[99, 48, 48, 48, 51]⟩] 9) = W := ⟨_, rfl⟩
          rw [hW6] at hC6 o6
          have k0 := hC6.rf.at_ 1 _ rfl
          have f0 := hC6.rf.fz 1
          have HC := hC6.put hlt 1 (.slice (some ⟨w5.heap.size, 0, none⟩) 4 4) (idN 2 z1) _ _ r2 z3 (by omega) rfl o6 (by rw [ownBlock_slice]; simp; omega)
          have HX : Hid (∃ (t : ByteArray) (v : Value) (ps : List ByteArray) (tm : Int) (no : ByteArray) (k' : Int), ps.length ≤ 10 ∧ Small 100 ps ∧ CW N b a n cap (k + 10) w (W6.setCell ⟨p, 1, none⟩ (.slice (some ⟨w5.heap.size, 0, none⟩) 4 4)) p t v ps tm no k') := ⟨_, _, _, _, _, _, by decide, (by unfold Small; decide), HC.up (by omega)⟩
          clear hC6 HC hC5 o6
          go_wp2_with fail
          go_meet
          exact HX.out
        have q0 : (r3 == 0) = false := by simp [r0]
        have q1 : (r3 == 1) = false := by simp [r1]
        have q2 : (r3 == 2) = false := by simp [r2']
        have q3 : (r3 == 3) = false := by simp [r4]
        have q4 : (r3 == 4) = false := by simp [r5]
        have HX : Hid (∃ (t : ByteArray) (v : Value) (ps : List ByteArray) (tm : Int) (no : ByteArray) (k' : Int), ps.length ≤ 10 ∧ Small 100 ps ∧ CW N b a n cap (k + 10) w w5 p t v ps tm no k') := ⟨_, _, _, _, _, _, by omega, hsm, hC5.up (by omega)⟩
        clear hC5
        go_wp2_with fail
        go_meet
        exact HX.out
      case rest =>
        obtain ⟨t, v9, ps9, tm, no, k9, hl9, hs9, hC9⟩ := hcut
        obtain ⟨av, nv, cv, rfl⟩ : ∃ av nv cv, v9 = .slice av nv cv := by
          rcases hC9.own.2 with ⟨e, _⟩ | ⟨g, c, cur, e, _⟩
          · exact ⟨_, _, _, e⟩
          · exact ⟨_, _, _, e⟩
        have c0 := hC9.rf.at_ 0 _ rfl
        have c1 := hC9.rf.at_ 1 _ rfl
        have c2 := hC9.rf.at_ 2 _ rfl
        have c3 := hC9.rf.at_ 3 _ rfl
        have d0 := hC9.rs.at_ 0 _ rfl
        have d1 := hC9.rs.at_ 1 _ rfl
        have d2 := hC9.rs.at_ 2 _ rfl
        have d3 := hC9.rs.at_ 3 _ rfl
        have f0 := hC9.rs.fz 0
        have f1 := hC9.rs.fz 1
        have f2 := hC9.rs.fz 2
        have f3 := hC9.rs.fz 3
        have HF := hC9.fin (k := k) hlt (by omega) hl9 hs9
        have HG : Hid (_) := HF
        clear HF hC9 hC5
        go_wp2
        refine bodyPost_ret (v := .agg #[.string t, .slice av nv cv, .int .i64 tm, .string no]) (by simp [results, Tryz.results26, go_sem, d0, d1, d2, d3]) rfl ?_
        exact HG.out
end Go.Proofs.YtijphomojljckaaGreatDoor.Cd
