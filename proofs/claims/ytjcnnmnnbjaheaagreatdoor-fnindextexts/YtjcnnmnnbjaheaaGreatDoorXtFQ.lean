/- The contract of the program's FormatIndex. No statement is proved here. -/
import Derived.Test.YtjcnnmnnbjaheaaGreatDoorRows
import Derived.Test.YtjcnnmnnbjaheaaGreatDoorLemQ
import Derived.Test.YtjcnnmnnbjaheaaGreatDoorDTabQ
import Derived.Test.YtjcnnmnnbjaheaaGreatDoorHkTQ
import Derived.Test.YtjcnnmnnbjaheaaGreatDoorTrWQ
import Derived.Test.YtjcnnmnnbjaheaaGreatDoorIxMQ
import Derived.Test.YtjcnnmnnbjaheaaGreatDoorIxIQ
import Derived.Test.YtjcnnmnnbjaheaaGreatDoorXtCQ
import Derived.WalkKit
import Derived.ProofKit
import Derived.Below
import Derived.WalkSpells
import Derived.Test.YtjcnnmnnbjaheaaGreatDoorIxSQ
import Derived.Test.YtjcnnmnnbjaheaaGreatDoorXtSQ
import Derived.Test.YtjcnnmnnbjaheaaGreatDoorLFLemQ
import Derived.Test.YtjcnnmnnbjaheaaGreatDoorCutLQ
import Derived.Test.YtjcnnmnnbjaheaaGreatDoorIterQ
import Derived.Test.YtjcnnmnnbjaheaaGreatDoorIdLQ
import Derived.Test.YtjcnnmnnbjaheaaGreatDoorTeLQ
import Derived.Test.YtjcnnmnnbjaheaaGreatDoorWwCQ
import Derived.Test.YtjcnnmnnbjaheaaGreatDoorTrSQ
import Derived.Deep.QuietTactic
import Derived.BigQuiet
import Derived.Deep.RegionWith
import Derived.Deep.RegionHeld
import Derived.Laws.Cover1
import Derived.Deep.CutRange
namespace Go.Proofs.YtjcnnmnnbjaheaaGreatDoor.En
open Go.ChangeShapes Go.WideShapes Go.ChangeAt Go.RowKit

/-- The text that FormatIndex answers. -/
def xT (l : List Ob) : ByteArray := if ixf l = 0 then xB l else ⟨#[]⟩
theorem xT_ok {l : List Ob} (h : ixf l = 0) : xT l = xB l := if_pos h
theorem xT_no {l : List Ob} (h : ¬ ixf l = 0) : xT l = ⟨#[]⟩ := if_neg h
theorem x_ret {c d : Int} {s t : ByteArray} (h : c = d) (k : s = t) : Ending.returned (.agg #[.int .i64 c, .string s]) = .returned (.agg #[.int .i64 d, .string t]) := by rw [h, k]

set_option maxRecDepth 20000 in
set_option maxHeartbeats 2000000 in
theorem implFormatIndex (a : Option Addr) (c : Nat) (l : List Ob) (w : World) (h : OB w.heap.size w a l) (hs : SmallO l) (hn : l.length ≤ 1048576) (hM : Te.MwG w) (hMB : 0 < w.heap.size) (hTa : TaG w) (hTB : 1 < w.heap.size) :
    Calls Tryz.prog 8 #[.slice a l.length c] w fun e w' => e = .returned (.agg #[.int .i64 (ixf l), .string (xT l)]) ∧ Below w.heap.size w w' := by
  obtain ⟨W1, hW1⟩ : ∃ W, w.alloc (.cells #[.int .i64 0, .string ⟨#[]⟩] 30) = W := ⟨_, rfl⟩
  have b1 : Below w.heap.size w W1 := by rw [← hW1]; exact allocBelow _ _
  have r1 : Res2 W1 w.heap.size (.int .i64 0) (.string ⟨#[]⟩) := by rw [← hW1]; exact Res2.new _ _ _ _
  have zz : w.heap.size < W1.heap.size := by rw [← hW1]; simp
  have hI := implIndexFault a c l W1 (h.below b1 |>.mono (Nat.le_of_lt zz)) hs hn
  go_enter Tryz.func8, Tryz.ntmps8
  go_wp2_with fail
  refine hI.mono ?_
  rintro e w2 ⟨rfl, b2⟩
  have B2 : Below w.heap.size w w2 := b1.trans (b2.mono b1.size)
  have r2 := r1.below zz b2
  have z2 := b2.size
  clear hI hW1 r1
  by_cases h0 : ixf l = 0
  · have H0 : Hid (ixf l = 0) := h0
    have H1 : Hid (xT l = xB l) := xT_ok h0
    have hX := implIndexText a c l w2 (h.below B2 |>.mono B2.size) h0 (hM.below B2 hMB) (by omega) (hTa.below B2 hTB) (by omega)
    rw [h0]
    clear h0
    obtain ⟨T, hT⟩ : ∃ T, xB l = T := ⟨_, rfl⟩
    rw [hT] at H1 hX
    clear hT
    go_wp2_with fail
    refine hX.mono ?_
    rintro e w3 ⟨rfl, b3⟩
    have r3 := r2.below (by omega) b3
    have d0 := r3.c0
    have d1 := r3.c1
    have f0 := r3.f0
    have f1 := r3.f1
    have B3 := B2.trans (b3.mono B2.size)
    have HB : Hid (Below w.heap.size w ((w3.setCell ⟨w.heap.size, 0, none⟩ (.int .i64 0)).setCell ⟨w.heap.size, 1, none⟩ (.string T))) := below_sets B3 (by omega) _ _
    clear hX r2 r3 b3 b2 B2 B3
    go_wp2
    refine bodyPost_ret (v := .agg #[.int .i64 0, .string T]) (by simp [results, Tryz.results8, go_sem, d0, d1]) rfl ?_
    exact ⟨x_ret H0.out.symm H1.out.symm, HB.out⟩
  · have H1 : Hid (xT l = ⟨#[]⟩) := xT_no h0
    obtain ⟨X, hX⟩ : ∃ X, ixf l = X := ⟨_, rfl⟩
    have H0 : Hid (ixf l = X) := hX
    rw [hX] at h0 ⊢
    have qX : (X != 0) = true := by simp [h0]
    have d0 := r2.c0
    have d1 := r2.c1
    have f0 := r2.f0
    have f1 := r2.f1
    have HB : Hid (Below w.heap.size w ((w2.setCell ⟨w.heap.size, 0, none⟩ (.int .i64 X)).setCell ⟨w.heap.size, 1, none⟩ (.string ⟨#[]⟩))) := below_sets B2 (by omega) _ _
    clear h0 hX r2 b2 B2
    go_wp2
    refine bodyPost_ret (v := .agg #[.int .i64 X, .string ⟨#[]⟩]) (by simp [results, Tryz.results8, go_sem, d0, d1]) rfl ?_
    exact ⟨x_ret H0.out.symm H1.out.symm, HB.out⟩
end Go.Proofs.YtjcnnmnnbjaheaaGreatDoor.En
/- The contract of the specification's FormatIndex. No statement is proved here. -/
namespace Go.Proofs.YtjcnnmnnbjaheaaGreatDoor.En
open Go.ChangeShapes Go.WideShapes Go.ChangeAt Go.RowKit

set_option maxRecDepth 20000 in
set_option maxHeartbeats 2000000 in
theorem specFormatIndex (a : Option Addr) (c : Nat) (l : List Ob) (w : World) (h : OB w.heap.size w a l) (hs : SmallO l) (hn : l.length ≤ 1048576) :
    Calls Tryz.prog 17 #[.slice a l.length c] w fun e w' => e = .returned (.agg #[.int .i64 (ixf l), .string (xT l)]) ∧ Below w.heap.size w w' := by
  obtain ⟨W1, hW1⟩ : ∃ W, w.alloc (.cells #[.int .i64 0, .string ⟨#[]⟩] 30) = W := ⟨_, rfl⟩
  have b1 : Below w.heap.size w W1 := by rw [← hW1]; exact allocBelow _ _
  have r1 : Res2 W1 w.heap.size (.int .i64 0) (.string ⟨#[]⟩) := by rw [← hW1]; exact Res2.new _ _ _ _
  have zz : w.heap.size < W1.heap.size := by rw [← hW1]; simp
  have hI := specIndexFault a c l W1 (h.below b1 |>.mono (Nat.le_of_lt zz)) hs hn
  go_enter Tryz.func17, Tryz.ntmps17
  go_wp2_with fail
  refine hI.mono ?_
  rintro e w2 ⟨rfl, b2⟩
  have B2 : Below w.heap.size w w2 := b1.trans (b2.mono b1.size)
  have r2 := r1.below zz b2
  have z2 := b2.size
  clear hI hW1 r1
  by_cases h0 : ixf l = 0
  · have H0 : Hid (ixf l = 0) := h0
    have H1 : Hid (xT l = xB l) := xT_ok h0
    have hX := l10TextC a c l w2 (h.below B2 |>.mono B2.size) h0
    rw [h0]
    clear h0
    obtain ⟨T, hT⟩ : ∃ T, xB l = T := ⟨_, rfl⟩
    rw [hT] at H1 hX
    clear hT
    go_wp2_with fail
    refine hX.mono ?_
    rintro e w3 ⟨rfl, b3⟩
    have r3 := r2.below (by omega) b3
    have d0 := r3.c0
    have d1 := r3.c1
    have f0 := r3.f0
    have f1 := r3.f1
    have B3 := B2.trans (b3.mono B2.size)
    have HB : Hid (Below w.heap.size w ((w3.setCell ⟨w.heap.size, 0, none⟩ (.int .i64 0)).setCell ⟨w.heap.size, 1, none⟩ (.string T))) := below_sets B3 (by omega) _ _
    clear hX r2 r3 b3 b2 B2 B3
    go_wp2
    refine bodyPost_ret (v := .agg #[.int .i64 0, .string T]) (by simp [results, Tryz.results17, go_sem, d0, d1]) rfl ?_
    exact ⟨x_ret H0.out.symm H1.out.symm, HB.out⟩
  · have H1 : Hid (xT l = ⟨#[]⟩) := xT_no h0
    obtain ⟨X, hX⟩ : ∃ X, ixf l = X := ⟨_, rfl⟩
    have H0 : Hid (ixf l = X) := hX
    rw [hX] at h0 ⊢
    have qX : (X != 0) = true := by simp [h0]
    have d0 := r2.c0
    have d1 := r2.c1
    have f0 := r2.f0
    have f1 := r2.f1
    have HB : Hid (Below w.heap.size w ((w2.setCell ⟨w.heap.size, 0, none⟩ (.int .i64 X)).setCell ⟨w.heap.size, 1, none⟩ (.string ⟨#[]⟩))) := below_sets B2 (by omega) _ _
    clear h0 hX r2 b2 B2
    go_wp2
    refine bodyPost_ret (v := .agg #[.int .i64 X, .string ⟨#[]⟩]) (by simp [results, Tryz.results17, go_sem, d0, d1]) rfl ?_
    exact ⟨x_ret H0.out.symm H1.out.symm, HB.out⟩
end Go.Proofs.YtjcnnmnnbjaheaaGreatDoor.En
/- Fields of a line: what is ahead of the first blank and behind it; the lines of a text. No statement is proved here. -/
namespace Go.Proofs.YtjcnnmnnbjaheaaGreatDoor.Te

/-- What is ahead of the first blank, and what is behind it. -/
def bef (l : List UInt8) : List UInt8 := l.takeWhile (fun c => c != 32)
def aft (l : List UInt8) : List UInt8 := (l.dropWhile (fun c => c != 32)).drop 1
theorem bef_app (q : List UInt8) : ∀ {p : List UInt8}, ¬ (32 : UInt8) ∈ p → bef (p ++ 32 :: q) = p ∧ aft (p ++ 32 :: q) = q
  | [], _ => by simp [bef, aft]
  | x :: xs, h => by
    have h1 : ¬ x = 32 := fun e => h (by rw [e]; exact List.mem_cons_self)
    have ih := bef_app q (p := xs) (fun e => h (List.mem_cons_of_mem _ e))
    simp only [bef, aft] at ih ⊢
    simp only [List.cons_append, List.takeWhile_cons, List.dropWhile_cons, bne_iff_ne, ne_eq, h1, not_false_eq_true, if_true]
    exact ⟨by rw [ih.1], ih.2⟩
theorem bef_no : ∀ {p : List UInt8}, ¬ (32 : UInt8) ∈ p → bef p = p ∧ aft p = []
  | [], _ => by simp [bef, aft]
  | x :: xs, h => by
    have h1 : ¬ x = 32 := fun e => h (by rw [e]; exact List.mem_cons_self)
    have ih := bef_no (p := xs) (fun e => h (List.mem_cons_of_mem _ e))
    simp only [bef, aft] at ih ⊢
    simp only [List.takeWhile_cons, List.dropWhile_cons, bne_iff_ne, ne_eq, h1, not_false_eq_true, if_true]
    exact ⟨by rw [ih.1], ih.2⟩
/-- A line without the line feed that it may end with. -/
def trimL (l : List UInt8) : List UInt8 := if l.getLast? = some 10 then l.dropLast else l
theorem trim_snoc (l : List UInt8) : trimL (l ++ [10]) = l := by simp [trimL]
theorem cut_cons {c : UInt8} : ∀ {l p : List UInt8} {t : List (List UInt8)}, cutL c l = p :: t → ¬ c ∈ p ∧ ((t = [] ∧ l = p) ∨ ∃ q, l = p ++ c :: q ∧ cutL c q = t)
  | [], p, t, h => by
    simp only [cutL, List.cons.injEq] at h
    obtain ⟨rfl, rfl⟩ := h
    exact ⟨by simp, .inl ⟨rfl, rfl⟩⟩
  | x :: xs, p, t, h => by
    by_cases e : x = c
    · simp only [cutL, if_pos e, List.cons.injEq] at h
      obtain ⟨rfl, rfl⟩ := h
      exact ⟨by simp, .inr ⟨xs, by rw [e]; rfl, rfl⟩⟩
    · simp only [cutL, if_neg e] at h
      cases e2 : cutL c xs with
      | nil => have := (cut_len c xs).1; rw [e2] at this; simp at this
      | cons y ys =>
        rw [e2] at h
        simp only [List.cons.injEq] at h
        obtain ⟨rfl, rfl⟩ := h
        obtain ⟨h1, h2⟩ := cut_cons e2
        refine ⟨fun hm => ?_, ?_⟩
        · rcases List.mem_cons.1 hm with hm | hm
          · exact e hm.symm
          · exact h1 hm
        · rcases h2 with ⟨h3, h4⟩ | ⟨q, h3, h4⟩
          · exact .inl ⟨h3, by rw [h4]⟩
          · exact .inr ⟨q, by rw [h3]; rfl, h4⟩
theorem cut3 {c : UInt8} {l p q r : List UInt8} (h : cutL c l = [p, q, r]) : l = p ++ c :: (q ++ c :: r) ∧ ¬ c ∈ p ∧ ¬ c ∈ q ∧ ¬ c ∈ r := by
  obtain ⟨h1, h2⟩ := cut_cons h
  rcases h2 with ⟨h3, _⟩ | ⟨l1, rfl, h4⟩
  · cases h3
  obtain ⟨h5, h6⟩ := cut_cons h4
  rcases h6 with ⟨h7, _⟩ | ⟨l2, rfl, h8⟩
  · cases h7
  obtain ⟨h9, h10⟩ := cut_cons h8
  rcases h10 with ⟨_, rfl⟩ | ⟨l3, _, h11⟩
  · exact ⟨rfl, h1, h5, h9⟩
  · have := (cut_len c l3).1; rw [h11] at this; simp at this
theorem last_snoc {x : List UInt8} (h : x.getLast? = some 10) : x = x.dropLast ++ [10] := by
  cases x with
  | nil => simp at h
  | cons a l =>
    rw [List.getLast?_eq_some_getLast (by simp)] at h
    have e := Option.some.inj h
    have k := List.dropLast_concat_getLast (l := a :: l) (by simp)
    rw [e] at k
    exact k.symm
theorem spl_join : ∀ l : List UInt8, (spl l).flatten = l
  | [] => rfl
  | c :: l => by
    have ih := spl_join l
    by_cases e : c = 10
    · simp only [spl, if_pos e, List.flatten_cons, ih]; simp
    · simp only [spl, if_neg e]
      cases e2 : spl l with
      | nil => rw [e2] at ih; simp at ih; simp [← ih]
      | cons x xs => rw [e2] at ih; simp only [List.flatten_cons] at ih ⊢; rw [List.cons_append, ih]
end Go.Proofs.YtjcnnmnnbjaheaaGreatDoor.Te
/- The contract of the specification's TreeFault. No statement is proved here. -/
namespace Go.Proofs.YtjcnnmnnbjaheaaGreatDoor.Te
open Go.ChangeShapes Go.WideShapes Go.ChangeAt Go.RowKit

/-- The fault of a tree. -/
def tfl (l : List Ob) : Int := if trE l = 0 then tf (trB l) else trE l
theorem tfl_bad {l : List Ob} (h : ¬ trE l = 0) : tfl l = trE l := if_neg h
theorem tfl_ok {l : List Ob} (h : trE l = 0) : tfl l = tf (trB l) := if_pos h
/-- A variable that holds an entry. -/
def EV (W : World) (x0 : ByteArray) (x1 : Int) (x2 : ByteArray) (s : Value) (wx : World) : Prop := ∃ p : Nat, s = .pointer (some ⟨p, 0, none⟩) ∧ wx.cell? ⟨p, 0, none⟩ = some (.string x0) ∧ wx.cell? ⟨p, 1, none⟩ = some (.int .i64 x1) ∧ wx.cell? ⟨p, 2, none⟩ = some (.string x2) ∧ Below W.heap.size W wx

end Go.Proofs.YtjcnnmnnbjaheaaGreatDoor.Te
