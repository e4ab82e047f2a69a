/- The draws of trees and commits that FnObjects takes. No statement is proved here. -/
import Derived.Test.YtijphomojljckaaGreatDoorRows
import Derived.Test.YtijphomojljckaaGreatDoorLemQ
import Derived.Test.YtijphomojljckaaGreatDoorMarksQ
import Derived.Test.YtijphomojljckaaGreatDoorLFLemQ
import Derived.Test.YtijphomojljckaaGreatDoorComQ
import Derived.Test.YtijphomojljckaaGreatDoorHkTQ
import Derived.Test.YtijphomojljckaaGreatDoorIterQ
import Derived.Test.YtijphomojljckaaGreatDoorTeLQ
import Derived.Test.YtijphomojljckaaGreatDoorTrEQ
import Derived.Test.YtijphomojljckaaGreatDoorCmJQ
import Derived.Test.YtijphomojljckaaGreatDoorFoMQ
import Derived.Test.YtijphomojljckaaGreatDoorDrawQ
import Derived.Test.YtijphomojljckaaGreatDoorCutDQ
import Derived.Test.YtijphomojljckaaGreatDoorDraw21Q
import Derived.Test.YtijphomojljckaaGreatDoorDraw23Q
import Derived.Test.YtijphomojljckaaGreatDoorDraw25Q
import Derived.Test.YtijphomojljckaaGreatDoorDraw26Q
import Derived.WalkKit
import Derived.ProofKit
import Derived.Below
import Derived.WalkSpells
import Derived.Deep.QuietTactic
import Derived.BigQuiet
set_option linter.unusedVariables false
namespace Go.Proofs.YtijphomojljckaaGreatDoor.Fo
open Go.ChangeShapes Go.WideShapes Go.ChangeAt Go.RowKit
def TxPost (w : World) (e : Ending) (w' : World) : Prop := ∃ t : ByteArray, e = .returned (.string t) ∧ t.size ≤ 10000 ∧ Below w.heap.size w w'
theorem txP {w w' : World} {t : ByteArray} {b : Nat} (hb : Hid (w.heap.size = b)) (ht : t.size ≤ 10000) (h : Below b w w') : TxPost w (.returned (.string t)) w' := ⟨t, rfl, ht, by rw [hb.out]; exact h⟩
theorem ssOf {w : World} {base : Nat} {v : Value} {ps : List ByteArray} (h : w.ownsRow base 9 1 v ps.length (ps.map Value.string)) (hs : Small 100 ps) : ∃ a c, v = .slice a ps.length c ∧ SS w a ps ∧ ps.length ≤ c := by
  obtain ⟨a, c, e, q, _⟩ := SS_of_row h rfl (fun k hk => by
    have := hs (ps.getD k ByteArray.empty) (by rw [List.getD, List.getElem?_eq_getElem hk]; exact List.getElem_mem hk)
    omega)
  refine ⟨a, c, e, q, ?_⟩
  rcases h.2 with ⟨h', h0⟩ | ⟨g, cap, cur, h', _, _, h4, _⟩
  · omega
  · rw [e] at h'
    simp only [Value.slice.injEq] at h'
    omega
set_option maxRecDepth 20000 in
set_option maxHeartbeats 2000000 in
theorem drawDecodeTree (a : Option Addr) (n cap : Nat) (w : World) (h : Bts w a n) (hn : n ≤ 1048576) :
    Calls Tryz.prog 5 #[.slice a n cap] w fun e w' => TxPost w e w' := by
  go_enter Tryz.func5, Tryz.ntmps5
  go_wp2_with fail
  refine (l1Source a n cap _ h (by omega)).mono ?_; rintro e w1 ⟨rfl, h1, b1⟩
  obtain ⟨b, hb⟩ : ∃ b, w.heap.size = b := ⟨_, rfl⟩
  have HB : Hid (w.heap.size = b) := hb
  rw [hb] at h1 b1 ⊢
  clear hb h
  have hl1 := h1.lt
  have hfl : ∀ (x : Int) (y : ByteArray) (W : World), (Instr.field 30 (.agg #[.int .i64 x, .string y]) 1).run Tryz.prog W = .ok (.string y) W := fun x y W => by kernel_rfl
  go_wp2_with fail
  refine (Te.l6Entries b b a n cap 0 _ h1 (by omega)).mono ?_; rintro e w2 ⟨L, g, c, k2, rfl, hL, hok, o2, s2, hk2, g2⟩
  have B2 : Below b w w2 := b1.grown g2 (Nat.le_of_lt hl1) (fun j hj => by cases hj; exact Nat.le_refl _)
  have z2 := g2.size
  clear h1 b1 g2
  have hO := Te.OB.of o2
  clear o2 hok
  go_wp2_with fail
  refine (Te.specEncodeTree _ c L _ hO (by omega)).mono ?_; rintro e w3 ⟨rfl, b3⟩
  obtain ⟨T, hT⟩ : ∃ T, Te.etT L = T := ⟨_, rfl⟩
  have hTs : T.size ≤ 2000 := by rw [← hT]; exact et_short L
  rw [hT]
  have B3 : Below b w w3 := B2.trans (b3.mono (by omega))
  have s3 := s2.below b3
  clear hT b3 B2 s2
  go_wp2_with fail
  refine (l1Chance b b a n cap k2 3 _ s3 (by omega)).mono ?_; rintro e w4 ⟨rc, rfl, s4, g4⟩
  have l3 := s3.lt
  have B4 : Below b w w4 := B3.grown g4 (by omega) (fun j hj => by cases hj; exact Nat.le_refl _)
  clear s3 B3 g4
  cases rc with
  | true =>
    go_wp2_with fail
    refine (l3Cut b b a n cap (k2 + 1) T _ s4 (by omega) (by omega)).mono ?_; rintro e w5 ⟨x, rfl, hx, g5⟩
    have l4 := s4.lt
    have B5 : Below b w w5 := B4.grown g5 (by omega) (fun j hj => by cases hj; exact Nat.le_refl _)
    have HF := txP HB (t := x) (by omega) B5
    clear s4 g5 B4 B5
    go_wp2
    go_ret
    exact HF
  | false =>
    have HF := txP HB (t := T) (by omega) B4
    clear s4 B4
    go_wp2
    go_ret
    exact HF
set_option maxRecDepth 20000 in
set_option maxHeartbeats 2000000 in
theorem drawDecodeCommit (a : Option Addr) (n cap : Nat) (w : World) (h : Bts w a n) (hn : n ≤ 1048576) :
    Calls Tryz.prog 9 #[.slice a n cap] w fun e w' => TxPost w e w' := by
  go_enter Tryz.func9, Tryz.ntmps9
  go_wp2_with fail
  refine (l1Source a n cap _ h (by omega)).mono ?_; rintro e w1 ⟨rfl, h1, b1⟩
  obtain ⟨b, hb⟩ : ∃ b, w.heap.size = b := ⟨_, rfl⟩
  have HB : Hid (w.heap.size = b) := hb
  rw [hb] at h1 b1 ⊢
  clear hb h
  have hl1 := h1.lt
  have hfl : ∀ (x : Int) (y : ByteArray) (W : World), (Instr.field 30 (.agg #[.int .i64 x, .string y]) 1).run Tryz.prog W = .ok (.string y) W := fun x y W => by kernel_rfl
  go_wp2_with fail
  refine (Cd.l6DrawCommit b b a n cap 0 _ h1 (by omega)).mono ?_; rintro e w2 ⟨t, v, ps, tm, no, k2, rfl, hL, hok, o2, s2, hk2, g2⟩
  have B2 : Below b w w2 := b1.grown g2 (Nat.le_of_lt hl1) (fun j hj => by cases hj; exact Nat.le_refl _)
  have z2 := g2.size
  clear h1 b1 g2
  obtain ⟨av, cv, rfl, hO, hcv⟩ := ssOf o2 hok
  clear o2 hok
  go_wp2_with fail
  refine (Cm.specEncodeCommit t av cv ps tm no _ hO (by omega)).mono ?_; rintro e w3 ⟨rfl, b3⟩
  obtain ⟨T, hT⟩ : ∃ T, Cm.ecT t ps tm no = T := ⟨_, rfl⟩
  have hTs : T.size ≤ 2000 := by rw [← hT]; exact ec_short t ps tm no
  rw [hT]
  have B3 : Below b w w3 := B2.trans (b3.mono (by omega))
  have s3 := s2.below b3
  clear hT b3 B2 s2
  go_wp2_with fail
  refine (l1Chance b b a n cap k2 3 _ s3 (by omega)).mono ?_; rintro e w4 ⟨rc, rfl, s4, g4⟩
  have l3 := s3.lt
  have B4 : Below b w w4 := B3.grown g4 (by omega) (fun j hj => by cases hj; exact Nat.le_refl _)
  clear s3 B3 g4
  cases rc with
  | true =>
    go_wp2_with fail
    refine (l3Cut b b a n cap (k2 + 1) T _ s4 (by omega) (by omega)).mono ?_; rintro e w5 ⟨x, rfl, hx, g5⟩
    have l4 := s4.lt
    have B5 : Below b w w5 := B4.grown g5 (by omega) (fun j hj => by cases hj; exact Nat.le_refl _)
    have HF := txP HB (t := x) (by omega) B5
    clear s4 g5 B4 B5
    go_wp2
    go_ret
    exact HF
  | false =>
    have HF := txP HB (t := T) (by omega) B4
    clear s4 B4
    go_wp2
    go_ret
    exact HF
/-- A commit that is drawn and handed back. -/
def CoPost (w : World) (e : Ending) (w' : World) : Prop := ∃ (t : ByteArray) (av : Option Addr) (cv : Nat) (ps : List ByteArray) (tm : Int) (no : ByteArray), e = .returned (.agg #[.string t, .slice av ps.length cv, .int .i64 tm, .string no]) ∧ ps.length ≤ 10 ∧ ps.length ≤ cv ∧ SS w' av ps ∧ Below w.heap.size w w'
set_option maxRecDepth 20000 in
set_option maxHeartbeats 2000000 in
theorem drawEncodeCommit (a : Option Addr) (n cap : Nat) (w : World) (h : Bts w a n) (hn : n ≤ 1048576) :
    Calls Tryz.prog 13 #[.slice a n cap] w fun e w' => CoPost w e w' := by
  obtain ⟨Z, hZ⟩ : ∃ Z, Obj.cells #[.string ⟨#[]⟩, .slice none 0 0, .int .i64 0, .string ⟨#[]⟩] 34 = Z := ⟨_, rfl⟩
  have hRZ : Rf (w.alloc Z) w.heap.size [.string ⟨#[]⟩, .slice none 0 0, .int .i64 0, .string ⟨#[]⟩] := by rw [← hZ]; exact Rf.new w #[.string ⟨#[]⟩, .slice none 0 0, .int .i64 0, .string ⟨#[]⟩] _
  have hB0 := allocBelow w Z
  have z0 : w.heap.size + 1 = (w.alloc Z).heap.size := by simp
  go_enter Tryz.func13, Tryz.ntmps13
  go_wp2_with fail
  refine (l1Source a n cap (w.alloc Z) (h.below hB0) (by omega)).mono ?_; rintro e w1 ⟨rfl, h1, b1⟩
  have R1 := hRZ.below (by omega) b1
  have B1 : Below w.heap.size w w1 := hB0.trans (b1.mono (by omega))
  obtain ⟨b, hb⟩ : ∃ b, (w.alloc Z).heap.size = b := ⟨_, rfl⟩
  rw [hb] at h1 ⊢
  have hbw : w.heap.size + 1 = b := by omega
  clear hb h hRZ hB0 b1 z0
  have hl1 := h1.lt
  go_wp2_with fail
  refine (Cd.l6DrawCommit b b a n cap 0 _ h1 (by omega)).mono ?_; rintro e w2 ⟨t, v, ps, tm, no, k2, rfl, hL, hok, o2, s2, hk2, g2⟩
  obtain ⟨av, cv, rfl, hO, hcv⟩ := ssOf o2 hok
  have R2 := Cd.rfRow R1 g2 (by simp; omega) (by omega)
  have B2 : Below w.heap.size w w2 := B1.grown g2 (by omega) (fun j hj => by cases hj; omega)
  have z2 := g2.size
  obtain ⟨W3, hW3⟩ : ∃ W, (((w2.setCell ⟨w.heap.size, 0, none⟩ (.string t)).setCell ⟨w.heap.size, 1, none⟩ (.slice av ps.length cv)).setCell ⟨w.heap.size, 2, none⟩ (.int .i64 tm)).setCell ⟨w.heap.size, 3, none⟩ (.string no) = W := ⟨_, rfl⟩
  have hg : w2.grownBy W3 (some w.heap.size) := by rw [← hW3]; exact grown_trans (grown_trans (grown_trans (grownSet _ _ _ _) (grownSet _ _ _ _)) (grownSet _ _ _ _)) (grownSet _ _ _ _)
  have B3 : Below w.heap.size w W3 := B2.grown hg (by omega) (fun j hj => by cases hj; exact Nat.le_refl _)
  have o3 := o2.kept hg (blockCases _ _ fun j q1 q2 => by have := (o2.lt j q1).1; cases q2; omega)
  have R3 : Rf W3 w.heap.size [.string t, .slice av ps.length cv, .int .i64 tm, .string no] := by
    rw [← hW3]
    exact (((R2.set (o := 0) (by simp) (.string t)).set (o := 1) (by simp) (.slice av ps.length cv)).set (o := 2) (by simp) (.int .i64 tm)).set (o := 3) (by simp) (.string no)
  obtain ⟨av', cv', e', hO3, _⟩ := ssOf o3 hok
  simp only [Value.slice.injEq] at e'
  obtain ⟨rfl, _, rfl⟩ := e'
  have HF : Hid (CoPost w (.returned (.agg #[.string t, .slice av ps.length cv, .int .i64 tm, .string no])) W3) := ⟨t, av, cv, ps, tm, no, rfl, hL, hcv, hO3, B3⟩
  have c0 := R2.at_ 0 _ rfl
  have c1 := R2.at_ 1 _ rfl
  have c2 := R2.at_ 2 _ rfl
  have c3 := R2.at_ 3 _ rfl
  have f0 := R2.fz 0
  have f1 := R2.fz 1
  have f2 := R2.fz 2
  have f3 := R2.fz 3
  have d0 := R3.at_ 0 _ rfl
  have d1 := R3.at_ 1 _ rfl
  have d2 := R3.at_ 2 _ rfl
  have d3 := R3.at_ 3 _ rfl
  clear R1 R2 R3 B1 B2 B3 o2 o3 hO hO3 s2 g2 hg hok h1
  go_wp2
  refine bodyPost_ret (v := .agg #[.string t, .slice av ps.length cv, .int .i64 tm, .string no]) (by simp [results, Tryz.results13, go_sem, d0, d1, d2, d3]) rfl ?_
  exact HF.out
end Go.Proofs.YtijphomojljckaaGreatDoor.Fo
