/- The contracts of the specification's l10Clashes and ClashesIn. No statement is proved here. -/
import Derived.Test.YtipdebodanhooaaDoorRows
import Derived.Test.YtipdebodanhooaaDoorLemQ
import Derived.Test.YtipdebodanhooaaDoorDTabQ
import Derived.Test.YtipdebodanhooaaDoorHkTQ
import Derived.Test.YtipdebodanhooaaDoorWvCQ
import Derived.Test.YtipdebodanhooaaDoorEnLQ
import Derived.Test.YtipdebodanhooaaDoorIxMQ
import Derived.Test.YtipdebodanhooaaDoorIxNQ
import Derived.Test.YtipdebodanhooaaDoorIxIQ
import Derived.Test.YtipdebodanhooaaDoorIxSQ
import Derived.Test.YtipdebodanhooaaDoorSgCQ
import Derived.Test.YtipdebodanhooaaDoorSsBQ
import Derived.Test.YtipdebodanhooaaDoorClIQ
import Derived.Test.YtipdebodanhooaaDoorClPQ
import Derived.WalkKit
import Derived.ProofKit
import Derived.Below
import Derived.WalkSpells
import Derived.Deep.QuietTactic
import Derived.BigQuiet
import Derived.Deep.RegionWith
import Derived.Deep.RegionHeld
import Derived.Deep.CutRange
import Derived.Maps.AppendAt
import Derived.Laws.Cover1
namespace Go.Proofs.YtipdebodanhooaaDoor.En
open Go.ChangeShapes Go.WideShapes Go.ChangeAt Go.RowKit

/-- Texts in memory of their own, not nil. -/
def SN (L : List ByteArray) (w : World) (e : Ending) (w' : World) : Prop := ∃ g c, e = .returned (.slice (some ⟨g, 0, none⟩) L.length c) ∧ w'.ownsRow w.heap.size 9 1 (.slice (some ⟨g, 0, none⟩) L.length c) L.length (L.map Value.string) ∧ Below w.heap.size w w'
set_option maxRecDepth 20000 in
set_option maxHeartbeats 4000000 in
theorem l10ClashesC (a : Option Addr) (c : Nat) (l : List Ob) (w : World) (h : OB w.heap.size w a l) (hx : ixf l = 0) :
    Calls Tryd.prog 19 #[.slice a l.length c] w fun e w' => SN (cl l) w e w' := by
  have hln := (ixf_zero hx).1
  have HX : Hid (∀ k, k < l.length → ¬ (l.getD k onil).2.1 = 0 → (∃ i, cl (l.take k) = i ++ [(l.getD k onil).1] ∧ LastS i (l.getD k onil).1 ∧ cl (l.take (k + 1)) = cl (l.take k)) ∨ (LastS (cl (l.take k)) (l.getD k onil).1 ∧ cl (l.take (k + 1)) = cl (l.take k) ++ [(l.getD k onil).1])) := fun k hk ho => cl_next hx hk ho
  have HS : Hid (∀ k, k < l.length → 0 ≤ (l.getD k onil).2.1) := fun k hk => (ix_stage ((ixf_zero hx).2 k hk)).1
  clear hx
  go_enter Tryd.func19, Tryd.ntmps19
  go_wp2
  go_loopw [3, 4] (fun v i wr => ∃ (k g0 c0 : Nat), k ≤ l.length ∧ i = .int .i64 k ∧ v = .slice (some ⟨g0, 0, none⟩) (cl (l.take k)).length c0 ∧ wr.ownsRow w.heap.size 9 1 (.slice (some ⟨g0, 0, none⟩) (cl (l.take k)).length c0) (cl (l.take k)).length ((cl (l.take k)).map Value.string) ∧ Below w.heap.size w wr) (fun _ i _ => l.length - (intOf i).toNat)
  case atStart => exact ⟨0, _, _, Nat.zero_le _, rfl, rfl, litT _, allocBelow _ _⟩
  case round =>
    obtain ⟨k, g0, c0, hk, rfl, rfl, hor, hbel⟩ := hrel
    have hsz := hbel.size
    by_cases hlt : k < l.length
    · have qk : (k : Int) < (l.length : Int) := by omega
      obtain ⟨g, off, e, hg, d0, d1, d2, d3⟩ := (h.below hbel) k hlt
      subst e
      have hN := HX.out k hlt
      have hst := HS.out k hlt
      have hz : (l.getD k onil).2.1 = 0 → cl (l.take (k + 1)) = cl (l.take k) := fun e => by rw [cl_take l k hlt, clS_zero e]
      have hcl := cl_len l k
      obtain ⟨C, hCe⟩ : ∃ C, l.getD k onil = C := ⟨_, rfl⟩
      obtain ⟨x0, x1, x2, x3⟩ := C
      rw [hCe] at d0 d1 d2 d3 hN hz hst
      simp only [] at d0 d1 d2 d3 hN hz hst
      obtain ⟨T, hTe⟩ : ∃ T, cl (l.take k) = T := ⟨_, rfl⟩
      rw [hTe] at hor hN hz hcl ⊢
      clear hCe hTe
      by_cases hx1 : x1 = 0
      · subst hx1
        have HZ : Hid (cl (l.take (k + 1)) = T) := hz rfl
        have O4 : Hid (World.ownsRow _ _ _ _ _ _ _) := hor
        clear hN hz hor
        go_wp2
        go_roundw
        case rel => exact ⟨k + 1, g0, c0, by omega, by go_num, by rw [HZ.out], by rw [HZ.out]; exact O4.out, hbel⟩
        case measure => first | (simp [intOf]; omega) | simp [intOf]
      · have q1 : 0 < x1 := by omega
        have hD : Calls Tryd.prog 47 #[.slice (some ⟨g0, 0, none⟩) T.length c0, .string x0] wr fun e w' => P9 w.heap.size (cl (l.take (k + 1))) wr e w' := by
          rcases hN hx1 with ⟨i, e1, e2, e3⟩ | ⟨e1, e2⟩
          · rw [e3]
            rw [e1] at hor hcl ⊢
            rw [List.length_append, List.length_singleton] at hcl
            exact l9PutSame w.heap.size g0 c0 i x0 wr hor (by omega) e2
          · rw [e2]
            exact l9PutEnd w.heap.size g0 c0 T x0 wr hor (by omega) e1 hsz
        clear hN hz hor
        go_wp2_with fail
        refine hD.mono ?_; rintro e w6 ⟨g6, c6, rfl, o6, b6⟩
        have B6 := below_step hbel hsz b6
        have O6 : Hid (World.ownsRow _ _ _ _ _ _ _) := o6
        obtain ⟨T2, hT2⟩ : ∃ T2, cl (l.take (k + 1)) = T2 := ⟨_, rfl⟩
        have HT2 : Hid (cl (l.take (k + 1)) = T2) := hT2
        rw [hT2] at O6 ⊢
        clear hD hbel b6 o6 hT2
        go_wp2
        go_roundw
        case rel => exact ⟨k + 1, g6, c6, by omega, by go_num, by rw [HT2.out], by rw [HT2.out]; exact O6.out, B6⟩
        case measure => first | (simp [intOf]; omega) | simp [intOf]
    · have qk : ¬ (k : Int) < (l.length : Int) := by omega
      have ek : l.take k = l := List.take_of_length_le (by omega)
      rw [ek] at hor ⊢
      have HO : Hid (World.ownsRow _ _ _ _ _ _ _) := hor
      clear hor ek
      go_wp2
      go_ret
      exact ⟨_, _, rfl, HO.out, hbel⟩
end Go.Proofs.YtipdebodanhooaaDoor.En
