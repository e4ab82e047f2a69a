/- The stages of an index, changed: the mathematics. No statement is proved here. -/
import Derived.Test.YtcfnkndbhpdfnaaGreatDoorSlBQ
import Derived.Test.YtcfnkndbhpdfnaaGreatDoorSsEQ
import Derived.Laws.IdiomCopy
import Derived.Laws.BitsLemmas
import Derived.Lib.AppendZerosOnto
import Derived.Lib.Overlaps
import Derived.Laws.NewBlocks
set_option linter.unusedVariables false
namespace Go.Proofs.YtcfnkndbhpdfnaaGreatDoor.En
open Go.RowKit
def peF (l : List Ob) (e : Ob) : Nat -> Nat -> Nat
 | 0, k => k
 | n + 1, k => if cmE (l.getD k onil) e < 0 then peF l e n (k + 1) else k
def pe (l : List Ob) (e : Ob) : Nat := peF l e l.length 0
end Go.Proofs.YtcfnkndbhpdfnaaGreatDoor.En
set_option linter.unusedVariables false
namespace Go.Proofs.YtcfnkndbhpdfnaaGreatDoor.En
open Go.ChangeShapes Go.WideShapes Go.ChangeAt Go.RowKit
theorem bS {wr w w' : World} (B : Below wr.heap.size wr w) (b : Below w.heap.size w w') : Below wr.heap.size wr w' := B.trans (b.mono B.size)
theorem zS {w w' : World} {g o : Nat} {v : Value} (b : Below w.heap.size w w') (h : w.cell? ⟨g, o, none⟩ = some v) : w'.cell? ⟨g, o, none⟩ = some v := (Fr.ofBelow (lo := 0) (hi := 0) b).cell h (.inr (Nat.zero_le _))
end Go.Proofs.YtcfnkndbhpdfnaaGreatDoor.En
set_option linter.unusedVariables false
namespace Go.Proofs.YtcfnkndbhpdfnaaGreatDoor.En
open Go.RowKit
theorem take_at (l : List Ob) (k j : Nat) (h : j < k) : (l.take k).getD j onil = l.getD j onil := by simp [List.getD, h]
theorem ix_last {l : List Ob} (h : ixf l = 0) {k : Nat} (hk : k < l.length) : Last (l.take k) (l.getD k onil) := by
 intro j hj
 rw [List.length_take] at hj
 rw [take_at l k j (by omega)]
 exact ix_rises h k j (by omega) hk
end Go.Proofs.YtcfnkndbhpdfnaaGreatDoor.En
set_option linter.unusedVariables false
namespace Go.Proofs.YtcfnkndbhpdfnaaGreatDoor.En
open Go.ChangeShapes Go.WideShapes Go.ChangeAt Go.RowKit
end Go.Proofs.YtcfnkndbhpdfnaaGreatDoor.En
set_option linter.unusedVariables false
namespace Go.Proofs.YtcfnkndbhpdfnaaGreatDoor.En
open Go.ChangeShapes Go.WideShapes Go.ChangeAt Go.RowKit
set_option maxRecDepth 20000 in
set_option maxHeartbeats 4000000 in
theorem indexOfC (a : Option Addr) (c : Nat) (l : List Ob) (w : World) (h : OB w.heap.size w a l) (hs : SmallO l) (hx : ixf l = 0) :
  Calls Tryz.prog 51 #[.slice a l.length c] w fun e w' => e = .returned (.pointer (some ⟨w.heap.size, 0, none⟩)) /\ (∃ v, SL w' w.heap.size l v) /\ Below w.heap.size w w' := by
 have hln := (ixf_zero hx).1
 have HX : Hid (∀ k, k < l.length -> Last (l.take k) (l.getD k onil)) := fun k hk => ix_last hx hk
 obtain ⟨b, hb⟩ : ∃ b, w.heap.size = b := ⟨_, rfl⟩
 obtain ⟨W1, hW1⟩ : ∃ W1, w.alloc (.cells #[.func (.func 81) #[] #[], .slice none 0 0] 99) = W1 := ⟨_, rfl⟩
 have b1 : Below b w W1 := by rw [<- hW1, <- hb]; exact allocBelow _ _
 have s1 : SL W1 b [] (.slice none 0 0) := by rw [<- hW1, <- hb]; exact ⟨Rf.new _ _ _, nilE _ _, by simp⟩
 have A1 : OB b W1 a l := by rw [<- hb] at b1 ⊢; exact h.below b1
 have HB : Hid (w.heap.size = b) := hb
 clear hx h
 go_enter Tryz.func51, Tryz.ntmps51
 go_wp2
 clear hb hW1
 go_loopw [5, 10] (fun _o i wr => ∃ k : Nat, k <= l.length /\ i = .int .i64 k /\ (∃ v, SL wr b (l.take k) v) /\ Below b W1 wr) (fun _ i _ => l.length - (intOf i).toNat)
 case atStart => exact ⟨0, Nat.zero_le _, rfl, ⟨_, s1⟩, Below.refl _ _⟩
 case round =>
  obtain ⟨k, hk, rfl, ⟨v, sv⟩, hbel⟩ := hrel
  by_cases hlt : k < l.length
  ·have qk : (k : Int) < (l.length : Int) := by omega
   obtain ⟨g, off, e, hg, d0, d1, d2, d3⟩ := (obBelowAt A1 hbel (Nat.le_refl _)) k hlt
   subst e
   have hsl := hs _ (ob_mem l k hlt)
   have hN := HX.out k hlt
   have hT := ob_take l k hlt
   have hcl : (l.take k).length <= 1048575 := by rw [List.length_take]; omega
   obtain ⟨C, hCe⟩ : ∃ C, l.getD k onil = C := ⟨_, rfl⟩
   obtain ⟨x0, x1, x2, x3⟩ := C
   rw [hCe] at d0 d1 d2 d3 hsl hN hT
   simp only [] at d0 d1 d2 d3 hsl
   obtain ⟨T, hTe⟩ : ∃ T, l.take k = T := ⟨_, rfl⟩
   rw [hTe] at sv hN hT hcl
   have HT : Hid (l.take (k + 1) = T ++ [(x0, x1, x2, x3)]) := hT
   obtain ⟨W, hW⟩ : ∃ W, wr.alloc (.cells #[.string x0, .int .i64 x1, .int .i64 x2, .string x3] 86) = W := ⟨_, rfl⟩
   have bW : Below wr.heap.size wr W := by rw [<- hW]; exact allocBelow _ _
   have oW : Rf W wr.heap.size [.string x0, .int .i64 x1, .int .i64 x2, .string x3] := by rw [<- hW]; exact Rf.new _ _ _
   have m0 := oW.at_ 0 _ rfl
   have m1 := oW.at_ 1 _ rfl
   have m2 := oW.at_ 2 _ rfl
   have m3 := oW.at_ 3 _ rfl
   have s4 := sv.below bW
   have zb : b <= wr.heap.size := Nat.le_of_lt sv.lt
   have B4 := hbel.trans (bW.mono zb)
   have hE := fun W => entryAtC (x0, x2, x3) x1 W hsl.1 hsl.2
   have hFi := fun W => fileInC (x0, x1, x2, x3) W
   have hD := fun W p => addEndC b T v (x0, x1, x2, x3) W p hcl hN
   simp only [] at hE hD hFi
   have BD : Below W.heap.size W W.drew := (Below.refl _ _).drew
   have BE := BD
   clear hCe hT hTe hN sv oW bW hbel
   go_wp2_with fail
   clear hW
   go_region_with (first
    | (go_at_call 84; refine (hFi _).mono ?_; rintro e w' ⟨rfl, b'⟩; have m1 := zS b' m1; have BE := bS BE b'; clear b')
    | (go_at_call 83; refine (hE _).mono ?_; rintro e w' ⟨rfl, b'⟩; have BE := bS BE b'; clear b')
    | (go_at_call 82; refine (hD _ (s4.below BE)).mono ?_; rintro e w6 ⟨rfl, ⟨v6, s6⟩, b6⟩))
   all_goals
    have B6 : Below b W1 w6 := (B4.trans (BE.mono (Nat.le_of_lt s4.lt))).trans b6
    clear hD hE hFi s4 B4 b6
    go_wp2
    go_roundw
    case rel => exact ⟨k + 1, by omega, by go_num, ⟨v6, by rw [HT.out]; exact s6⟩, B6⟩
    case measure => first | (simp [intOf]; omega) | simp [intOf]
  ·have qk : ¬ (k : Int) < (l.length : Int) := by omega
   have ek : l.take k = l := List.take_of_length_le (by omega)
   rw [ek] at sv
   have S6 : Hid (∃ v, SL wr b l v) := ⟨_, sv⟩
   have B6 := b1.trans hbel
   clear sv ek
   go_wp2
   go_ret
   rw [HB.out]
   exact ⟨rfl, S6.out, B6⟩
end Go.Proofs.YtcfnkndbhpdfnaaGreatDoor.En
