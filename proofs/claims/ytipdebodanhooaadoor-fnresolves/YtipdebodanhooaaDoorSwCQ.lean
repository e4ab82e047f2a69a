/- SwapStages of the program. No statement is proved here. -/
import Derived.Test.YtipdebodanhooaaDoorRows
import Derived.Test.YtipdebodanhooaaDoorLemQ
import Derived.Test.YtipdebodanhooaaDoorDTabQ
import Derived.Test.YtipdebodanhooaaDoorHkTQ
import Derived.Test.YtipdebodanhooaaDoorWvCQ
import Derived.Test.YtipdebodanhooaaDoorFmCQ
import Derived.Test.YtipdebodanhooaaDoorFlLQ
import Derived.Test.YtipdebodanhooaaDoorFfCQ
import Derived.Test.YtipdebodanhooaaDoorFfIQ
import Derived.Test.YtipdebodanhooaaDoorFfSQ
import Derived.Test.YtipdebodanhooaaDoorEnLQ
import Derived.Test.YtipdebodanhooaaDoorIxMQ
import Derived.Test.YtipdebodanhooaaDoorIxNQ
import Derived.Test.YtipdebodanhooaaDoorIxOQ
import Derived.Test.YtipdebodanhooaaDoorSgCQ
import Derived.Test.YtipdebodanhooaaDoorSlBQ
import Derived.Test.YtipdebodanhooaaDoorSlDQ
import Derived.Test.YtipdebodanhooaaDoorIxIQ
import Derived.Test.YtipdebodanhooaaDoorCpKQ
import Derived.Test.YtipdebodanhooaaDoorInEQ
import Derived.Test.YtipdebodanhooaaDoorSlEQ
import Derived.Test.YtipdebodanhooaaDoorSwMQ
import Derived.WalkKit
import Derived.ProofKit
import Derived.Below
import Derived.WalkSpells
import Derived.Deep.QuietTactic
import Derived.BigQuiet
import Derived.Deep.RegionWith
import Derived.Deep.RegionHeld
import Derived.Deep.CutRange
import Derived.Maps.AppendAt
import Derived.Laws.Cover1
set_option linter.unusedVariables false
namespace Go.Proofs.YtipdebodanhooaaDoor.En
open Go.ChangeShapes Go.WideShapes Go.ChangeAt Go.RowKit
theorem swappedC (s : Int) (w : World) : Calls Tryd.prog 33 #[.int .i64 s] w fun e w' => e = .returned (.int .i64 (swI s)) ∧ w' = w := by
  by_cases h2 : s = 2
  · subst h2
    go_enter Tryd.func33, Tryd.ntmps33
    go_wp2
    go_ret
    exact ⟨rfl, rfl⟩
  · by_cases h3 : s = 3
    · subst h3
      go_enter Tryd.func33, Tryd.ntmps33
      go_wp2
      go_ret
      exact ⟨rfl, rfl⟩
    · have q2 : (s == 2) = false := beq_eq_false_iff_ne.2 h2
      have q3 : (s == 3) = false := beq_eq_false_iff_ne.2 h3
      have HR : Hid (swI s = s) := by show _ = _; unfold swI; rw [if_neg h2, if_neg h3]
      clear h2 h3
      go_enter Tryd.func33, Tryd.ntmps33
      go_wp2
      go_ret
      exact ⟨ret_int HR.out.symm, rfl⟩
/-- add, wherever the entry belongs, where none is like it. -/
theorem addApart (b : Nat) (l : List Ob) (v : Value) (E : Ob) (w : World) (h : SL w b l v) (hn : l.length ≤ 1048575) (hr : Rise l) (ha : Apart l E) :
    Calls Tryd.prog 30 #[.pointer (some ⟨b, 0, none⟩), .agg #[.string E.1, .int .i64 E.2.1, .int .i64 E.2.2.1, .string E.2.2.2]] w fun e w' => AD b (insL l (pe l E) E) w e w' := by
  have hc := pe_cuts hr E
  by_cases hp : pe l E < l.length
  · exact addMidC b l v E (pe l E) w h hn hc hp (apart_hit ha _)
  · have e : pe l E = l.length := by have := pe_le l E; omega
    have e2 : insL l (pe l E) E = l ++ [E] := by unfold insL; rw [e, List.take_length, List.drop_length]; simp
    rw [e2]
    rw [e] at hc
    exact addEndC b l v E w h hn hc.2.1
theorem bS {wr w w' : World} (B : Below wr.heap.size wr w) (b : Below w.heap.size w w') : Below wr.heap.size wr w' := B.trans (b.mono B.size)
theorem zS {w w' : World} {g o : Nat} {v : Value} (b : Below w.heap.size w w') (h : w.cell? ⟨g, o, none⟩ = some v) : w'.cell? ⟨g, o, none⟩ = some v := (Fr.ofBelow (lo := 0) (hi := 0) b).cell h (.inr (Nat.zero_le _))
theorem obBelowAt {B b : Nat} {w w' : World} {a : Option Addr} {l : List Ob} (h : OB B w a l) (hb : Below b w w') (hB : B ≤ b) : OB B w' a l := fun k hk => by
  obtain ⟨g, off, e, hg, d0, d1, d2, d3⟩ := h k hk
  have q : g < b := by omega
  exact ⟨g, off, e, hg, (hb.cell (p := ⟨g, _, none⟩) q).trans d0, (hb.cell (p := ⟨g, _, none⟩) q).trans d1, (hb.cell (p := ⟨g, _, none⟩) q).trans d2, (hb.cell (p := ⟨g, _, none⟩) q).trans d3⟩
def swR (l : List Ob) : Int := ixf l
def swL (l : List Ob) : List Ob := if ixf l = 0 then swK l l.length else []
set_option maxRecDepth 20000 in
set_option maxHeartbeats 4000000 in
theorem implSwapStages (a : Option Addr) (c : Nat) (l : List Ob) (w : World) (h : OB w.heap.size w a l) (hs : SmallO l) (hn : l.length ≤ 1048576) :
    Calls Tryd.prog 7 #[.slice a l.length c] w fun e w' => EP (swR l) 0 (swL l) w e w' := by
  have hA := fun w h => implIndexFault a c l w h hs (by omega)
  have hFF : ¬ ixf l = 0 → Hid (swR l = ixf l ∧ swL l = []) := fun e => ⟨rfl, if_neg e⟩
  have hOK : ixf l = 0 → Hid (swR l = 0 ∧ swL l = swK l l.length) := fun e => ⟨e, if_pos e⟩
  have hRi : ixf l = 0 → Hid (∀ k, k < l.length → Rise (swK l k) ∧ Apart (swK l k) (sw1 (l.getD k onil))) := fun e => fun k hk => ⟨sw_rise e k (by omega), sw_apart e hk⟩
  obtain ⟨R, hR⟩ : ∃ R, swR l = R := ⟨_, rfl⟩
  obtain ⟨L, hL⟩ : ∃ L, swL l = L := ⟨_, rfl⟩
  rw [hR, hL] at hFF hOK ⊢
  obtain ⟨F, hF⟩ : ∃ F, ixf l = F := ⟨_, rfl⟩
  rw [hF] at hA hFF hOK hRi
  clear hF hR hL
  obtain ⟨W1, hW1⟩ : ∃ W1, w.alloc (.cells #[.int .i64 0, .int .i64 0, .slice none 0 0] 28) = W1 := ⟨_, rfl⟩
  have b1 : Below w.heap.size w W1 := by rw [← hW1]; exact allocBelow _ _
  have zW : w.heap.size < W1.heap.size := by rw [← hW1]; simp
  have r1 : Rf W1 w.heap.size [.int .i64 0, .int .i64 0, .slice none 0 0] := by rw [← hW1]; exact Rf.new _ _ _
  have A1 := h.below b1
  go_enter Tryd.func7, Tryd.ntmps7
  go_wp2_with fail
  refine (hA _ (A1.mono (by omega))).mono ?_; rintro e w2 ⟨rfl, b2⟩
  have A2 := A1.below b2
  have r2 := r1.below zW b2
  have B2 := b1.trans (b2.mono b1.size)
  have z2 : w.heap.size < w2.heap.size := Nat.lt_of_lt_of_le zW b2.size
  clear A1 r1 b1 b2 hA hW1 h zW
  by_cases e0 : F = 0
  · replace hOK := hOK e0
    replace hRi := hRi e0
    subst e0
    clear hFF
    go_wp2_with fail
    refine (indexNilC _).mono ?_; rintro e w3 ⟨rfl, s3, b3⟩
    have A3 := A2.below b3
    have r3 := r2.below z2 b3
    have B3 := B2.trans (b3.mono (by omega))
    have z3 := s3.lt
    obtain ⟨b, hb⟩ : ∃ b, w2.heap.size = b := ⟨_, rfl⟩
    rw [hb] at s3 z3 z2 ⊢
    clear A2 r2 B2 b3 hb
    go_wp2
    go_loopw [6, 16] (fun _o i wr => ∃ k : Nat, k ≤ l.length ∧ i = .int .i64 k ∧ (∃ v, SL wr b (swK l k) v) ∧ Below b w3 wr) (fun _ i _ => l.length - (intOf i).toNat)
    case atStart => exact ⟨0, Nat.zero_le _, rfl, ⟨_, s3⟩, Below.refl _ _⟩
    case round =>
      obtain ⟨k, hk, rfl, ⟨v, sv⟩, hbel⟩ := hrel
      have hsz := hbel.size
      by_cases hlt : k < l.length
      · have qk : (k : Int) < (l.length : Int) := by omega
        obtain ⟨g, off, e, hg, d0, d1, d2, d3⟩ := (obBelowAt A3 hbel (by omega)) k hlt
        subst e
        have hsl := hs _ (ob_mem l k hlt)
        obtain ⟨hr1, ha1⟩ := hRi.out k hlt
        have hT : swK l (k + 1) = insL (swK l k) (pe (swK l k) (sw1 (l.getD k onil))) (sw1 (l.getD k onil)) := rfl
        have hln : (swK l k).length ≤ 1048575 := by rw [swK_len]; omega
        obtain ⟨C, hCe⟩ : ∃ C, l.getD k onil = C := ⟨_, rfl⟩
        obtain ⟨x0, x1, x2, x3⟩ := C
        rw [hCe] at d0 d1 d2 d3 hsl ha1 hT
        simp only [] at d0 d1 d2 d3 hsl
        obtain ⟨T, hTe⟩ : ∃ T, swK l k = T := ⟨_, rfl⟩
        rw [hTe] at sv hr1 ha1 hT hln
        have HT : Hid (swK l (k + 1) = insL T (pe T (sw1 (x0, x1, x2, x3))) (sw1 (x0, x1, x2, x3))) := hT
        obtain ⟨W, hW⟩ : ∃ W, wr.alloc (.cells #[.string x0, .int .i64 x1, .int .i64 x2, .string x3] 62) = W := ⟨_, rfl⟩
        have bW : Below wr.heap.size wr W := by rw [← hW]; exact allocBelow _ _
        have oW : Rf W wr.heap.size [.string x0, .int .i64 x1, .int .i64 x2, .string x3] := by rw [← hW]; exact Rf.new _ _ _
        have m0 := oW.at_ 0 _ rfl
        have m1 := oW.at_ 1 _ rfl
        have m2 := oW.at_ 2 _ rfl
        have m3 := oW.at_ 3 _ rfl
        have s4 := sv.below bW
        have zb : b ≤ wr.heap.size := Nat.le_of_lt sv.lt
        have B4 := hbel.trans (bW.mono zb)
        have hE := fun W => entryAtC (x0, x2, x3) (swI x1) W hsl.1 hsl.2
        have hFi := fun W => fileInC (x0, x1, x2, x3) W
        have hSw := fun W => swappedC x1 W
        have hD := fun W p => addApart b T v (sw1 (x0, x1, x2, x3)) W p hln hr1 ha1
        simp only [sw1] at hE hD hFi
        have BD : Below W.heap.size W W.drew := (Below.refl _ _).drew
        have BE := BD
        clear hCe hT hTe hr1 ha1 sv oW bW hbel
        go_wp2_with fail
        clear hW
        go_region_with (first
          | (go_at_call 32; refine (hFi _).mono ?_; rintro e w' ⟨rfl, b'⟩; have m1 := zS b' m1; have BE := bS BE b'; clear b')
          | (go_at_call 33; refine (hSw _).mono ?_; rintro e w'' ⟨rfl, hw''⟩; subst hw'')
          | (go_at_call 31; refine (hE _).mono ?_; rintro e w' ⟨rfl, b'⟩; have BE := bS BE b'; clear b')
          | (go_at_call 30; refine (hD _ (s4.below BE)).mono ?_; rintro e w6 ⟨rfl, ⟨v6, s6⟩, b6⟩))
        all_goals
          have B6 : Below b w3 w6 := (B4.trans (BE.mono (Nat.le_of_lt s4.lt))).trans b6
          clear hD hE hFi hSw s4 B4 b6
          go_wp2
          go_roundw
          case rel => exact ⟨k + 1, by omega, by go_num, ⟨v6, by rw [HT.out]; exact s6⟩, B6⟩
          case measure => first | (simp [intOf]; omega) | simp [intOf]
      · have qk : ¬ (k : Int) < (l.length : Int) := by omega
        have ek : k = l.length := by omega
        rw [ek] at sv
        have r4 := rfBelowAt r3 hbel z2
        have B4 := B3.trans (hbel.mono (by omega))
        obtain ⟨va, vc, ev⟩ := shapeK3 sv.own
        subst ev
        have k1 := sv.rf.at_ 1 _ rfl
        have c0 := r4.at_ 0 _ rfl
        have c1 := r4.at_ 1 _ rfl
        have c2 := r4.at_ 2 _ rfl
        have f0 := r4.fz 0
        have f1 := r4.fz 1
        have f2 := r4.fz 2
        obtain ⟨n, hnn⟩ : ∃ n, (swK l l.length).length = n := ⟨_, rfl⟩
        have o4 := sv.own
        rw [hnn] at k1 o4
        have RV := ((r4.set (o := 0) (by simp) (.int .i64 0)).set (o := 1) (by simp) (.int .i64 0)).set (o := 2) (by simp) (.slice va n vc)
        have BV := ((B4.setCell (p := ⟨w.heap.size, 0, none⟩) (Nat.le_refl _) (.int .i64 0)).setCell (p := ⟨w.heap.size, 1, none⟩) (Nat.le_refl _) (.int .i64 0)).setCell (p := ⟨w.heap.size, 2, none⟩) (Nat.le_refl _) (.slice va n vc)
        have oV := (ownMonoF o4 (b := w.heap.size) (by omega)).kept (grownTrans (grownTrans (grownSet _ w.heap.size 0 (.int .i64 0)) (grownSet _ w.heap.size 1 (.int .i64 0))) (grownSet _ w.heap.size 2 (.slice va n vc))) (blockCases _ _ fun j q1 q2 => by cases q2; have := (o4.lt _ q1).1; omega)
        obtain ⟨V, hV⟩ : ∃ V, ((wr.setCell ⟨w.heap.size, 0, none⟩ (.int .i64 0)).setCell ⟨w.heap.size, 1, none⟩ (.int .i64 0)).setCell ⟨w.heap.size, 2, none⟩ (.slice va n vc) = V := ⟨_, rfl⟩
        rw [hV] at RV BV oV
        have HV : Hid (_ = V) := hV
        have v0 := RV.at_ 0 _ rfl
        have v1 := RV.at_ 1 _ rfl
        have v2 := RV.at_ 2 _ rfl
        clear hV ek sv r4 r3 A3 B3 B4 hbel hRi RV o4
        go_wp2
        rw [HV.out]
        refine bodyPost_ret (v := .agg #[.int .i64 0, .int .i64 0, .slice va n vc]) (by simp [results, Tryd.results7, go_sem, v0, v1, v2]) rfl ?_
        exact ⟨_, ret_agg3 (by rw [hOK.out.1]) rfl rfl, by rw [hOK.out.2, hnn]; exact oV, BV⟩
  · have hC := hFF e0
    have qn : (F != 0) = true := ne_beq e0
    have c0 := r2.at_ 0 _ rfl
    have c1 := r2.at_ 1 _ rfl
    have c2 := r2.at_ 2 _ rfl
    have f0 := r2.fz 0
    have f1 := r2.fz 1
    have f2 := r2.fz 2
    have RV := ((r2.set (o := 0) (by simp) (.int .i64 F)).set (o := 1) (by simp) (.int .i64 0)).set (o := 2) (by simp) (.slice none 0 0)
    have BV := ((B2.setCell (p := ⟨w.heap.size, 0, none⟩) (Nat.le_refl _) (.int .i64 F)).setCell (p := ⟨w.heap.size, 1, none⟩) (Nat.le_refl _) (.int .i64 0)).setCell (p := ⟨w.heap.size, 2, none⟩) (Nat.le_refl _) (.slice none 0 0)
    obtain ⟨V, hV⟩ : ∃ V, ((w2.setCell ⟨w.heap.size, 0, none⟩ (.int .i64 F)).setCell ⟨w.heap.size, 1, none⟩ (.int .i64 0)).setCell ⟨w.heap.size, 2, none⟩ (.slice none 0 0) = V := ⟨_, rfl⟩
    rw [hV] at RV BV
    have HV : Hid (_ = V) := hV
    have v0 := RV.at_ 0 _ rfl
    have v1 := RV.at_ 1 _ rfl
    have v2 := RV.at_ 2 _ rfl
    clear hV r2 B2 A2 hOK hFF e0 RV hRi
    go_wp2
    rw [HV.out]
    refine bodyPost_ret (v := .agg #[.int .i64 F, .int .i64 0, .slice none 0 0]) (by simp [results, Tryd.results7, go_sem, v0, v1, v2]) rfl ?_
    exact ⟨_, ret_agg3 (by rw [hC.out.1]) rfl rfl, by rw [hC.out.2]; exact nilE _ _, BV⟩
end Go.Proofs.YtipdebodanhooaaDoor.En
