/- The contracts of the specification's l10Clashes and ClashesIn. No statement is proved here. -/
import Derived.Test.YtnififnogdekiabDoorRows
import Derived.Test.YtnififnogdekiabDoorLemQ
import Derived.Test.YtnififnogdekiabDoorDTabQ
import Derived.Test.YtnififnogdekiabDoorInQ
import Derived.Test.YtnififnogdekiabDoorHkTQ
import Derived.Test.YtnififnogdekiabDoorWvCQ
import Derived.Test.YtnififnogdekiabDoorEnLQ
import Derived.Test.YtnififnogdekiabDoorIxMQ
import Derived.Test.YtnififnogdekiabDoorIxNQ
import Derived.Test.YtnififnogdekiabDoorIxIQ
import Derived.Test.YtnififnogdekiabDoorIxSQ
import Derived.Test.YtnififnogdekiabDoorSgCQ
import Derived.Test.YtnififnogdekiabDoorSgDQ
import Derived.Test.YtnififnogdekiabDoorSsBQ
import Derived.Test.YtnififnogdekiabDoorSsEQ
import Derived.Test.YtnififnogdekiabDoorClMQ
import Derived.Test.YtnififnogdekiabDoorClIQ
import Derived.Test.YtnififnogdekiabDoorClPQ
import Derived.WalkKit
import Derived.ProofKit
import Derived.Below
import Derived.WalkSpells
import Derived.Deep.QuietTactic
import Derived.BigQuiet
import Derived.Deep.RegionWith
import Derived.Deep.RegionHeld
import Derived.Deep.CutRange
import Derived.Maps.AppendAt
import Derived.Laws.Cover1
namespace Go.Proofs.YtnififnogdekiabDoor.En
open Go.ChangeShapes Go.WideShapes Go.ChangeAt Go.RowKit

/-- Texts in memory of their own, not nil. -/
def SN (L : List ByteArray) (w : World) (e : Ending) (w' : World) : Prop := ∃ g c, e = .returned (.slice (some ⟨g, 0, none⟩) L.length c) ∧ w'.ownsRow w.heap.size 9 1 (.slice (some ⟨g, 0, none⟩) L.length c) L.length (L.map Value.string) ∧ Below w.heap.size w w'
set_option maxRecDepth 20000 in
set_option maxHeartbeats 4000000 in
theorem l10ClashesC (a : Option Addr) (c : Nat) (l : List Ob) (w : World) (h : OB w.heap.size w a l) (hx : ixf l = 0) :
    Calls Tryd.prog 40 #[.slice a l.length c] w fun e w' => SN (cl l) w e w' := by
  have hln := (ixf_zero hx).1
  have HX : Hid (∀ k, k < l.length → ¬ (l.getD k onil).2.1 = 0 → (∃ i, cl (l.take k) = i ++ [(l.getD k onil).1] ∧ LastS i (l.getD k onil).1 ∧ cl (l.take (k + 1)) = cl (l.take k)) ∨ (LastS (cl (l.take k)) (l.getD k onil).1 ∧ cl (l.take (k + 1)) = cl (l.take k) ++ [(l.getD k onil).1])) := fun k hk ho => cl_next hx hk ho
  have HS : Hid (∀ k, k < l.length → 0 ≤ (l.getD k onil).2.1) := fun k hk => (ix_stage ((ixf_zero hx).2 k hk)).1
  clear hx
  go_enter Tryd.func40, Tryd.ntmps40
  go_wp2
  go_loopw [3, 4] (fun v i wr => ∃ (k g0 c0 : Nat), k ≤ l.length ∧ i = .int .i64 k ∧ v = .slice (some ⟨g0, 0, none⟩) (cl (l.take k)).length c0 ∧ wr.ownsRow w.heap.size 9 1 (.slice (some ⟨g0, 0, none⟩) (cl (l.take k)).length c0) (cl (l.take k)).length ((cl (l.take k)).map Value.string) ∧ Below w.heap.size w wr) (fun _ i _ => l.length - (intOf i).toNat)
  case atStart => exact ⟨0, _, _, Nat.zero_le _, rfl, rfl, litT _, allocBelow _ _⟩
  case round =>
    obtain ⟨k, g0, c0, hk, rfl, rfl, hor, hbel⟩ := hrel
    have hsz := hbel.size
    by_cases hlt : k < l.length
    · have qk : (k : Int) < (l.length : Int) := by omega
      obtain ⟨g, off, e, hg, d0, d1, d2, d3⟩ := (h.below hbel) k hlt
      subst e
      have hN := HX.out k hlt
      have hst := HS.out k hlt
      have hz : (l.getD k onil).2.1 = 0 → cl (l.take (k + 1)) = cl (l.take k) := fun e => by rw [cl_take l k hlt, clS_zero e]
      have hcl := cl_len l k
      obtain ⟨C, hCe⟩ : ∃ C, l.getD k onil = C := ⟨_, rfl⟩
      obtain ⟨x0, x1, x2, x3⟩ := C
      rw [hCe] at d0 d1 d2 d3 hN hz hst
      simp only [] at d0 d1 d2 d3 hN hz hst
      obtain ⟨T, hTe⟩ : ∃ T, cl (l.take k) = T := ⟨_, rfl⟩
      rw [hTe] at hor hN hz hcl ⊢
      clear hCe hTe
      by_cases hx1 : x1 = 0
      · subst hx1
        have HZ : Hid (cl (l.take (k + 1)) = T) := hz rfl
        have O4 : Hid (World.ownsRow _ _ _ _ _ _ _) := hor
        clear hN hz hor
        go_wp2
        go_roundw
        case rel => exact ⟨k + 1, g0, c0, by omega, by go_num, by rw [HZ.out], by rw [HZ.out]; exact O4.out, hbel⟩
        case measure => first | (simp [intOf]; omega) | simp [intOf]
      · have q1 : 0 < x1 := by omega
        have hD : Calls Tryd.prog 78 #[.slice (some ⟨g0, 0, none⟩) T.length c0, .string x0] wr fun e w' => P9 w.heap.size (cl (l.take (k + 1))) wr e w' := by
          rcases hN hx1 with ⟨i, e1, e2, e3⟩ | ⟨e1, e2⟩
          · rw [e3]
            rw [e1] at hor hcl ⊢
            rw [List.length_append, List.length_singleton] at hcl
            exact l9PutSame w.heap.size g0 c0 i x0 wr hor (by omega) e2
          · rw [e2]
            exact l9PutEnd w.heap.size g0 c0 T x0 wr hor (by omega) e1 hsz
        clear hN hz hor
        go_wp2_with fail
        refine hD.mono ?_; rintro e w6 ⟨g6, c6, rfl, o6, b6⟩
        have B6 := below_step hbel hsz b6
        have O6 : Hid (World.ownsRow _ _ _ _ _ _ _) := o6
        obtain ⟨T2, hT2⟩ : ∃ T2, cl (l.take (k + 1)) = T2 := ⟨_, rfl⟩
        have HT2 : Hid (cl (l.take (k + 1)) = T2) := hT2
        rw [hT2] at O6 ⊢
        clear hD hbel b6 o6 hT2
        go_wp2
        go_roundw
        case rel => exact ⟨k + 1, g6, c6, by omega, by go_num, by rw [HT2.out], by rw [HT2.out]; exact O6.out, B6⟩
        case measure => first | (simp [intOf]; omega) | simp [intOf]
    · have qk : ¬ (k : Int) < (l.length : Int) := by omega
      have ek : l.take k = l := List.take_of_length_le (by omega)
      rw [ek] at hor ⊢
      have HO : Hid (World.ownsRow _ _ _ _ _ _ _) := hor
      clear hor ek
      go_wp2
      go_ret
      exact ⟨_, _, rfl, HO.out, hbel⟩
set_option maxRecDepth 20000 in
set_option maxHeartbeats 4000000 in
theorem specClashesIn (a : Option Addr) (c : Nat) (l : List Ob) (w : World) (h : OB w.heap.size w a l) (hs : SmallO l) (hn : l.length ≤ 1048576) :
    Calls Tryd.prog 10 #[.slice a l.length c] w fun e w' => LP (clR l) (clL l) w e w' := by
  have hA := fun w h => specIndexFault a c l w h hs hn
  have hFF : ¬ ixf l = 0 → Hid (clR l = ixf l ∧ clL l = []) := fun e => ⟨rfl, if_neg e⟩
  have hOK : ixf l = 0 → Hid (clR l = 0 ∧ clL l = cl l) := fun e => ⟨e, if_pos e⟩
  have hC : ixf l = 0 → ∀ W, OB W.heap.size W a l → Calls Tryd.prog 40 #[.slice a l.length c] W fun e w' => SN (cl l) W e w' := fun e W p => l10ClashesC a c l W p e
  obtain ⟨R, hR⟩ : ∃ R, clR l = R := ⟨_, rfl⟩
  obtain ⟨L, hL⟩ : ∃ L, clL l = L := ⟨_, rfl⟩
  rw [hR, hL] at hFF hOK ⊢
  obtain ⟨F, hF⟩ : ∃ F, ixf l = F := ⟨_, rfl⟩
  rw [hF] at hA hFF hOK hC
  clear hF hR hL
  obtain ⟨W1, hW1⟩ : ∃ W1, w.alloc (.cells #[.int .i64 0, .slice none 0 0] 26) = W1 := ⟨_, rfl⟩
  have b1 : Below w.heap.size w W1 := by rw [← hW1]; exact allocBelow _ _
  have zW : w.heap.size < W1.heap.size := by rw [← hW1]; simp
  have r1 : Res2 W1 w.heap.size (.int .i64 0) (.slice none 0 0) := by rw [← hW1]; exact Res2.new _ _ _ _
  have A1 := h.below b1
  go_enter Tryd.func10, Tryd.ntmps10
  go_wp2_with fail
  refine (hA _ (A1.mono (by omega))).mono ?_; rintro e w2 ⟨rfl, b2⟩
  have A2 := A1.below b2
  have r2 := r1.below zW b2
  have B2 := b1.trans (b2.mono b1.size)
  have z2 : w.heap.size < w2.heap.size := Nat.lt_of_lt_of_le zW b2.size
  clear A1 r1 b1 b2 hA hW1 h zW
  by_cases e0 : F = 0
  · replace hOK := hOK e0
    replace hC := hC e0
    subst e0
    clear hFF
    go_wp2_with fail
    refine (hC _ (A2.mono (by omega))).mono ?_; rintro e w3 ⟨ga, vc, rfl, o3, b3⟩
    have r3 := r2.below z2 b3
    have B3 := B2.trans (b3.mono (by omega))
    have d0 := r3.c0
    have d1 := r3.c1
    have f0 := r3.f0
    have f1 := r3.f1
    obtain ⟨n, hnn⟩ : ∃ n, (cl l).length = n := ⟨_, rfl⟩
    rw [hnn] at o3 ⊢
    have o4 : (w3.setCell ⟨w.heap.size, 0, none⟩ (.int .i64 0)).setCell ⟨w.heap.size, 1, none⟩ (.slice (some ⟨ga, 0, none⟩) n vc) |>.ownsRow w.heap.size 9 1 (.slice (some ⟨ga, 0, none⟩) n vc) n ((cl l).map Value.string) := (ownMonoF o3 (by omega)).kept (grownTrans (grownSet _ _ _ _) (grownSet _ _ _ _)) (blockCases _ _ fun b c1 c2 => by cases c2; have := (o3.lt _ c1).1; omega)
    have HO : Hid (World.ownsRow _ _ _ _ _ _ _) := o4
    have HB : Hid (Below w.heap.size w ((w3.setCell ⟨w.heap.size, 0, none⟩ (.int .i64 0)).setCell ⟨w.heap.size, 1, none⟩ (.slice (some ⟨ga, 0, none⟩) n vc))) := below_sets B3 (Nat.le_refl _) _ _
    clear r3 r2 B2 B3 A2 o3 o4 b3 hC
    go_wp2
    refine bodyPost_ret (v := .agg #[.int .i64 0, .slice (some ⟨ga, 0, none⟩) n vc]) (by simp [results, Tryd.results10, go_sem, d0, d1]) rfl ?_
    exact ⟨_, ret_agg2 (by rw [hOK.out.1]) rfl, by rw [hOK.out.2, hnn]; exact HO.out, HB.out⟩
  · have hD := hFF e0
    have qn : (F != 0) = true := ne_beq e0
    have d0 := r2.c0
    have d1 := r2.c1
    have f0 := r2.f0
    have f1 := r2.f1
    have HB : Hid (Below w.heap.size w ((w2.setCell ⟨w.heap.size, 0, none⟩ (.int .i64 F)).setCell ⟨w.heap.size, 1, none⟩ (.slice none 0 0))) := below_sets B2 (Nat.le_refl _) _ _
    clear r2 B2 A2 hOK hFF e0 hC
    go_wp2
    refine bodyPost_ret (v := .agg #[.int .i64 F, .slice none 0 0]) (by simp [results, Tryd.results10, go_sem, d0, d1]) rfl ?_
    exact ⟨_, ret_agg2 (by rw [hD.out.1]) rfl, by rw [hD.out.2]; exact nilT _ _, HB.out⟩
end Go.Proofs.YtnififnogdekiabDoor.En
