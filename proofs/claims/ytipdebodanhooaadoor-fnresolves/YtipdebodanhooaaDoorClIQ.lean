/- The contracts of the program's clashesIn and ClashesIn. No statement is proved here. -/
import Derived.Test.YtipdebodanhooaaDoorRows
import Derived.Test.YtipdebodanhooaaDoorLemQ
import Derived.Test.YtipdebodanhooaaDoorDTabQ
import Derived.Test.YtipdebodanhooaaDoorHkTQ
import Derived.Test.YtipdebodanhooaaDoorWvCQ
import Derived.Test.YtipdebodanhooaaDoorEnLQ
import Derived.Test.YtipdebodanhooaaDoorIxMQ
import Derived.Test.YtipdebodanhooaaDoorIxNQ
import Derived.Test.YtipdebodanhooaaDoorIxIQ
import Derived.Test.YtipdebodanhooaaDoorIxSQ
import Derived.Test.YtipdebodanhooaaDoorSgCQ
import Derived.Test.YtipdebodanhooaaDoorSsBQ
import Derived.WalkKit
import Derived.ProofKit
import Derived.Below
import Derived.WalkSpells
import Derived.Deep.QuietTactic
import Derived.BigQuiet
import Derived.Deep.RegionWith
import Derived.Deep.RegionHeld
import Derived.Deep.CutRange
import Derived.Maps.AppendAt
import Derived.Laws.Cover1
namespace Go.Proofs.YtipdebodanhooaaDoor.En
open Go.ChangeShapes Go.WideShapes Go.ChangeAt Go.RowKit

theorem obBelowAt {B b : Nat} {w w' : World} {a : Option Addr} {l : List Ob} (h : OB B w a l) (hb : Below b w w') (hB : B ≤ b) : OB B w' a l := fun k hk => by
  obtain ⟨g, off, e, hg, d0, d1, d2, d3⟩ := h k hk
  have q : g < b := by omega
  exact ⟨g, off, e, hg, (hb.cell (p := ⟨g, _, none⟩) q).trans d0, (hb.cell (p := ⟨g, _, none⟩) q).trans d1, (hb.cell (p := ⟨g, _, none⟩) q).trans d2, (hb.cell (p := ⟨g, _, none⟩) q).trans d3⟩
theorem nilT (base : Nat) (w : World) : w.ownsRow base 9 1 (.slice none 0 0) ([] : List ByteArray).length (([] : List ByteArray).map Value.string) := ⟨rfl, .inl ⟨rfl, rfl⟩⟩
/-- What clashesIn leaves. -/
def CL (L : List ByteArray) (w : World) (e : Ending) (w' : World) : Prop := e = .returned (.pointer (some ⟨w.heap.size, 0, none⟩)) ∧ (∃ v, ST w' w.heap.size L v) ∧ Below w.heap.size w w'
set_option maxRecDepth 20000 in
set_option maxHeartbeats 4000000 in
theorem clashesInC (a : Option Addr) (c : Nat) (l : List Ob) (w : World) (h : OB w.heap.size w a l) (hs : SmallO l) (hx : ixf l = 0) :
    Calls Tryd.prog 23 #[.slice a l.length c] w fun e w' => CL (cl l) w e w' := by
  have hln := (ixf_zero hx).1
  have HX : Hid (∀ k, k < l.length → ¬ (l.getD k onil).2.1 = 0 → (∃ i, cl (l.take k) = i ++ [(l.getD k onil).1] ∧ LastS i (l.getD k onil).1 ∧ cl (l.take (k + 1)) = cl (l.take k)) ∨ (LastS (cl (l.take k)) (l.getD k onil).1 ∧ cl (l.take (k + 1)) = cl (l.take k) ++ [(l.getD k onil).1])) := fun k hk ho => cl_next hx hk ho
  obtain ⟨W1, hW1⟩ : ∃ W1, w.alloc (.cells #[.func (.func 48) #[] #[], .slice none 0 0] 78) = W1 := ⟨_, rfl⟩
  have b1 : Below w.heap.size w W1 := by rw [← hW1]; exact allocBelow _ _
  have s1 : ST W1 w.heap.size [] (.slice none 0 0) := by rw [← hW1]; exact ⟨Rf.new _ _ _, nilT _ _, by simp⟩
  have A1 := h.below b1
  clear hx h
  go_enter Tryd.func23, Tryd.ntmps23
  go_wp2
  go_loopw [5, 10] (fun _o i wr => ∃ k : Nat, k ≤ l.length ∧ i = .int .i64 k ∧ (∃ v, ST wr w.heap.size (cl (l.take k)) v) ∧ Below w.heap.size W1 wr) (fun _ i _ => l.length - (intOf i).toNat)
  case atStart => exact ⟨0, Nat.zero_le _, rfl, ⟨_, s1⟩, Below.refl _ _⟩
  case round =>
    obtain ⟨k, hk, rfl, ⟨v, sv⟩, hbel⟩ := hrel
    by_cases hlt : k < l.length
    · have qk : (k : Int) < (l.length : Int) := by omega
      obtain ⟨g, off, e, hg, d0, d1, d2, d3⟩ := (obBelowAt A1 hbel (Nat.le_refl _)) k hlt
      subst e
      have hsl := hs _ (ob_mem l k hlt)
      have hN := HX.out k hlt
      have hz : (l.getD k onil).2.1 = 0 → cl (l.take (k + 1)) = cl (l.take k) := fun e => by rw [cl_take l k hlt, clS_zero e]
      have hcl := cl_len l k
      obtain ⟨C, hCe⟩ : ∃ C, l.getD k onil = C := ⟨_, rfl⟩
      obtain ⟨x0, x1, x2, x3⟩ := C
      rw [hCe] at d0 d1 d2 d3 hsl hN hz
      simp only [] at d0 d1 d2 d3 hsl hN hz
      obtain ⟨T, hTe⟩ : ∃ T, cl (l.take k) = T := ⟨_, rfl⟩
      rw [hTe] at sv hN hz hcl
      obtain ⟨W, hW⟩ : ∃ W, wr.alloc (.cells #[.string x0, .int .i64 x1, .int .i64 x2, .string x3] 62) = W := ⟨_, rfl⟩
      have bW : Below wr.heap.size wr W := by rw [← hW]; exact allocBelow _ _
      have oW : Rf W wr.heap.size [.string x0, .int .i64 x1, .int .i64 x2, .string x3] := by rw [← hW]; exact Rf.new _ _ _
      have m0 := oW.at_ 0 _ rfl
      have m1 := oW.at_ 1 _ rfl
      have s4 := sv.below bW
      have zb : w.heap.size ≤ wr.heap.size := Nat.le_of_lt sv.lt
      have B4 := hbel.trans (bW.mono zb)
      have hC := fun W => cloneS x0 W (by omega)
      clear hCe hTe oW bW hbel sv
      by_cases hx1 : x1 = 0
      · subst hx1
        have HZ : Hid (cl (l.take (k + 1)) = T) := hz rfl
        have S4 : Hid (∃ v, ST W w.heap.size T v) := ⟨_, s4⟩
        clear hN hz s4 hC
        go_wp2
        go_roundw
        case rel => exact ⟨k + 1, by omega, by go_num, by rw [HZ.out]; exact S4.out, B4⟩
        case measure => first | (simp [intOf]; omega) | simp [intOf]
      · have q1 : (x1 != 0) = true := by simp [hx1]
        have hD : ∀ W, ST W w.heap.size T v → Calls Tryd.prog 49 #[.pointer (some ⟨w.heap.size, 0, none⟩), .string x0] W fun e w' => AT w.heap.size (cl (l.take (k + 1))) W e w' := by
          intro W p
          rcases hN hx1 with ⟨i, e1, e2, e3⟩ | ⟨e1, e2⟩
          · rw [e3]
            rw [e1] at p hcl ⊢
            rw [List.length_append, List.length_singleton] at hcl
            exact addSameS w.heap.size i v x0 W p (by omega) e2
          · rw [e2]
            exact addEndS w.heap.size T v x0 W p (by omega) e1
        clear hN hz
        go_wp2_with fail
        refine (hC _).mono ?_; rintro e w5 ⟨rfl, b5⟩
        have s5 := s4.below b5
        have B5 := B4.trans (b5.mono (Nat.le_of_lt s4.lt))
        clear hC s4 B4 b5 hW m0 m1
        go_wp2_with fail
        refine (hD _ s5).mono ?_; rintro e w6 ⟨rfl, s6, b6⟩
        have S6 : Hid (∃ v, ST w6 w.heap.size (cl (l.take (k + 1))) v) := s6
        have B6 := B5.trans b6
        clear hD s5 B5 b6 s6
        go_wp2
        go_roundw
        case rel => exact ⟨k + 1, by omega, by go_num, S6.out, B6⟩
        case measure => first | (simp [intOf]; omega) | simp [intOf]
    · have qk : ¬ (k : Int) < (l.length : Int) := by omega
      have ek : l.take k = l := List.take_of_length_le (by omega)
      rw [ek] at sv
      have S6 : Hid (∃ v, ST wr w.heap.size (cl l) v) := ⟨_, sv⟩
      have B6 := b1.trans hbel
      clear sv ek
      go_wp2
      go_ret
      exact ⟨rfl, S6.out, B6⟩
def clR (l : List Ob) : Int := ixf l
def clL (l : List Ob) : List ByteArray := if ixf l = 0 then cl l else []
set_option maxRecDepth 20000 in
set_option maxHeartbeats 4000000 in
theorem implClashesIn (a : Option Addr) (c : Nat) (l : List Ob) (w : World) (h : OB w.heap.size w a l) (hs : SmallO l) (hn : l.length ≤ 1048576) :
    Calls Tryd.prog 11 #[.slice a l.length c] w fun e w' => LP (clR l) (clL l) w e w' := by
  have hA := fun w h => implIndexFault a c l w h hs hn
  have hFF : ¬ ixf l = 0 → Hid (clR l = ixf l ∧ clL l = []) := fun e => ⟨rfl, if_neg e⟩
  have hOK : ixf l = 0 → Hid (clR l = 0 ∧ clL l = cl l) := fun e => ⟨e, if_pos e⟩
  have hC : ixf l = 0 → ∀ W, OB W.heap.size W a l → Calls Tryd.prog 23 #[.slice a l.length c] W fun e w' => CL (cl l) W e w' := fun e W p => clashesInC a c l W p hs e
  obtain ⟨R, hR⟩ : ∃ R, clR l = R := ⟨_, rfl⟩
  obtain ⟨L, hL⟩ : ∃ L, clL l = L := ⟨_, rfl⟩
  rw [hR, hL] at hFF hOK ⊢
  obtain ⟨F, hF⟩ : ∃ F, ixf l = F := ⟨_, rfl⟩
  rw [hF] at hA hFF hOK hC
  clear hF hR hL
  obtain ⟨W1, hW1⟩ : ∃ W1, w.alloc (.cells #[.int .i64 0, .slice none 0 0] 35) = W1 := ⟨_, rfl⟩
  have b1 : Below w.heap.size w W1 := by rw [← hW1]; exact allocBelow _ _
  have zW : w.heap.size < W1.heap.size := by rw [← hW1]; simp
  have r1 : Res2 W1 w.heap.size (.int .i64 0) (.slice none 0 0) := by rw [← hW1]; exact Res2.new _ _ _ _
  have A1 := h.below b1
  go_enter Tryd.func11, Tryd.ntmps11
  go_wp2_with fail
  refine (hA _ (A1.mono (by omega))).mono ?_; rintro e w2 ⟨rfl, b2⟩
  have A2 := A1.below b2
  have r2 := r1.below zW b2
  have B2 := b1.trans (b2.mono b1.size)
  have z2 : w.heap.size < w2.heap.size := Nat.lt_of_lt_of_le zW b2.size
  clear A1 r1 b1 b2 hA hW1 h zW
  by_cases e0 : F = 0
  · replace hOK := hOK e0
    replace hC := hC e0
    subst e0
    clear hFF
    go_wp2_with fail
    refine (hC _ (A2.mono (by omega))).mono ?_; rintro e w3 ⟨rfl, ⟨v3, s3⟩, b3⟩
    have r3 := r2.below z2 b3
    have B3 := B2.trans (b3.mono (by omega))
    obtain ⟨va, vc, ev⟩ := shapeK3 s3.own
    subst ev
    have k1 := s3.rf.at_ 1 _ rfl
    have d0 := r3.c0
    have d1 := r3.c1
    have f0 := r3.f0
    have f1 := r3.f1
    obtain ⟨n, hnn⟩ : ∃ n, (cl l).length = n := ⟨_, rfl⟩
    have o3 := s3.own
    rw [hnn] at k1 o3
    have o4 : (w3.setCell ⟨w.heap.size, 0, none⟩ (.int .i64 0)).setCell ⟨w.heap.size, 1, none⟩ (.slice va n vc) |>.ownsRow w.heap.size 9 1 (.slice va n vc) n ((cl l).map Value.string) := (ownMonoF o3 (by omega)).kept (grownTrans (grownSet _ _ _ _) (grownSet _ _ _ _)) (blockCases _ _ fun b c1 c2 => by cases c2; have := (o3.lt _ c1).1; omega)
    have HO : Hid (World.ownsRow _ _ _ _ _ _ _) := o4
    have HB : Hid (Below w.heap.size w ((w3.setCell ⟨w.heap.size, 0, none⟩ (.int .i64 0)).setCell ⟨w.heap.size, 1, none⟩ (.slice va n vc))) := below_sets B3 (Nat.le_refl _) _ _
    clear r3 r2 B2 B3 A2 o3 o4 b3 s3 hC
    go_wp2
    refine bodyPost_ret (v := .agg #[.int .i64 0, .slice va n vc]) (by simp [results, Tryd.results11, go_sem, d0, d1]) rfl ?_
    exact ⟨_, ret_agg2 (by rw [hOK.out.1]) rfl, by rw [hOK.out.2, hnn]; exact HO.out, HB.out⟩
  · have hD := hFF e0
    have qn : (F != 0) = true := ne_beq e0
    have d0 := r2.c0
    have d1 := r2.c1
    have f0 := r2.f0
    have f1 := r2.f1
    have HB : Hid (Below w.heap.size w ((w2.setCell ⟨w.heap.size, 0, none⟩ (.int .i64 F)).setCell ⟨w.heap.size, 1, none⟩ (.slice none 0 0))) := below_sets B2 (Nat.le_refl _) _ _
    clear r2 B2 A2 hOK hFF e0 hC
    go_wp2
    refine bodyPost_ret (v := .agg #[.int .i64 F, .slice none 0 0]) (by simp [results, Tryd.results11, go_sem, d0, d1]) rfl ?_
    exact ⟨_, ret_agg2 (by rw [hD.out.1]) rfl, by rw [hD.out.2]; exact nilT _ _, HB.out⟩
end Go.Proofs.YtipdebodanhooaaDoor.En
