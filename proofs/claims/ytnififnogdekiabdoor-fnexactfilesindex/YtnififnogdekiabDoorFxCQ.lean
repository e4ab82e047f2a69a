/- The contracts of FilesIndex. No statement is proved here. -/
import Derived.Test.YtnififnogdekiabDoorRows
import Derived.Test.YtnififnogdekiabDoorLemQ
import Derived.Test.YtnififnogdekiabDoorComQ
import Derived.Test.YtnififnogdekiabDoorInQ
import Derived.Test.YtnififnogdekiabDoorHkTQ
import Derived.Test.YtnififnogdekiabDoorWvCQ
import Derived.Test.YtnififnogdekiabDoorFmCQ
import Derived.Test.YtnififnogdekiabDoorFlLQ
import Derived.Test.YtnififnogdekiabDoorFfCQ
import Derived.Test.YtnififnogdekiabDoorFfIQ
import Derived.Test.YtnififnogdekiabDoorFfSQ
import Derived.Test.YtnififnogdekiabDoorEnLQ
import Derived.Test.YtnififnogdekiabDoorIxMQ
import Derived.Test.YtnififnogdekiabDoorIxNQ
import Derived.Test.YtnififnogdekiabDoorIxOQ
import Derived.Test.YtnififnogdekiabDoorSgCQ
import Derived.Test.YtnififnogdekiabDoorSgDQ
import Derived.Test.YtnififnogdekiabDoorSlBQ
import Derived.Test.YtnififnogdekiabDoorSlCQ
import Derived.Test.YtnififnogdekiabDoorSlDQ
import Derived.WalkKit
import Derived.ProofKit
import Derived.Below
import Derived.WalkSpells
import Derived.Deep.QuietTactic
import Derived.BigQuiet
import Derived.Deep.RegionWith
import Derived.Deep.RegionHeld
import Derived.Deep.CutRange
import Derived.Maps.AppendAt
import Derived.Laws.Cover1
namespace Go.Proofs.YtnififnogdekiabDoor.En
open Go.ChangeShapes Go.WideShapes Go.ChangeAt Go.RowKit

theorem OB.belowAt {B b : Nat} {w w' : World} {a : Option Addr} {l : List Ob} (h : OB B w a l) (hb : Below b w w') (hB : B ≤ b) : OB B w' a l := fun k hk => by
  obtain ⟨g, off, e, hg, d0, d1, d2, d3⟩ := h k hk
  have q : g < b := by omega
  exact ⟨g, off, e, hg, (hb.cell (p := ⟨g, _, none⟩) q).trans d0, (hb.cell (p := ⟨g, _, none⟩) q).trans d1, (hb.cell (p := ⟨g, _, none⟩) q).trans d2, (hb.cell (p := ⟨g, _, none⟩) q).trans d3⟩
theorem flBelowAt {B b : Nat} {w w' : World} {a : Option Addr} {l : List Fl.Ob} (h : Fl.OB B w a l) (hb : Below b w w') (hB : B ≤ b) : Fl.OB B w' a l := fun k hk => by
  obtain ⟨g, off, e, hg, d0, d1, d2⟩ := h k hk
  have q : g < b := by omega
  exact ⟨g, off, e, hg, (hb.cell (p := ⟨g, _, none⟩) q).trans d0, (hb.cell (p := ⟨g, _, none⟩) q).trans d1, (hb.cell (p := ⟨g, _, none⟩) q).trans d2⟩
theorem rfBelowAt {b p : Nat} {w w' : World} {vs : List Value} (h : Rf w p vs) (hb : Below b w w') (hp : p < b) : Rf w' p vs :=
  ⟨fun k v hk => (hb.cell (p := ⟨p, k, none⟩) hp).trans (h.at_ k v hk), fun k => (hb.frozen (p := ⟨p, k, none⟩) hp).trans (h.fz k)⟩
/-- An answer that is a list of entries. -/
def EP (r z : Int) (L : List Ob) (w : World) (e : Ending) (w' : World) : Prop := ∃ v, e = .returned (.agg #[.int .i64 r, .int .i64 z, v]) ∧ w'.ownsRow w.heap.size 62 4 v L.length (ocells L) ∧ Below w.heap.size w w'
theorem nilE (base : Nat) (w : World) : w.ownsRow base 62 4 (.slice none 0 0) ([] : List Ob).length (ocells []) := ⟨rfl, .inl ⟨rfl, rfl⟩⟩
theorem ret_agg3 {a b c d e f : Value} (h1 : a = d) (h2 : b = e) (h3 : c = f) : Ending.returned (.agg #[a, b, c]) = .returned (.agg #[d, e, f]) := by rw [h1, h2, h3]
def fxR (l : List Fl.Ob) : Int := Fl.ffl l
def fxU (l : List Fl.Ob) : List Ob := l.map (ent · 0)
def fxL (l : List Fl.Ob) : List Ob := if Fl.ffl l = 0 then fxU l else []
theorem fxU_take (l : List Fl.Ob) (k : Nat) (h : k < l.length) : fxU (l.take (k + 1)) = fxU (l.take k) ++ [ent (l.getD k Fl.onil) 0] := by
  unfold fxU
  rw [Fl.ob_take l k h, List.map_append]; rfl
theorem fxU_len (l : List Fl.Ob) : (fxU l).length = l.length := by simp [fxU]
theorem fxU_last {l : List Fl.Ob} (h : Fl.ffl l = 0) {k : Nat} (hk : k < l.length) : Last (fxU (l.take k)) (ent (l.getD k Fl.onil) 0) := by
  intro j hj
  rw [fxU_len, List.length_take] at hj
  have hr := (fi_rises h).2 k j (by omega) hk
  have e : (fxU (l.take k)).getD j onil = ent (l.getD j Fl.onil) 0 := by
    unfold fxU
    have h1 : j < l.length := by omega
    simp [List.getD, List.getElem?_take_of_lt (show j < k by omega), h1]
  rw [e, cmE_lt]
  exact .inl hr
set_option maxHeartbeats 1000000 in
theorem indexNilC (w : World) : Calls Tryd.prog 57 #[.slice none 0 0] w fun e w' => e = .returned (.pointer (some ⟨w.heap.size, 0, none⟩)) ∧ SL w' w.heap.size [] (.slice none 0 0) ∧ Below w.heap.size w w' := by
  go_enter Tryd.func57, Tryd.ntmps57
  go_wp2
  go_loopw [5, 10] (fun _o i wr => i = .int .i64 0 ∧ wr = w.alloc (.cells #[.func (.func 88) #[] #[], .slice none 0 0] 87)) (fun _ _ _ => 0)
  case atStart => exact ⟨rfl, rfl⟩
  case round =>
    obtain ⟨rfl, rfl⟩ := hrel
    go_wp2
    go_ret
    exact ⟨rfl, ⟨Rf.new _ _ _, nilE _ _, by simp⟩, allocBelow _ _⟩
set_option maxRecDepth 20000 in
set_option maxHeartbeats 4000000 in
theorem implFilesIndex (a : Option Addr) (c : Nat) (l : List Fl.Ob) (w : World) (h : Fl.OB w.heap.size w a l) (hs : Fl.SmallO l) (hn : l.length ≤ 1048576) :
    Calls Tryd.prog 26 #[.slice a l.length c] w fun e w' => EP (fxR l) 0 (fxL l) w e w' := by
  have hA := fun w h => Fl.implFilesFault a c l w h hs hn
  have hFF : ¬ Fl.ffl l = 0 → Hid (fxR l = Fl.ffl l ∧ fxL l = []) := fun e => ⟨rfl, if_neg e⟩
  have hOK : Fl.ffl l = 0 → Hid (fxR l = 0 ∧ fxL l = fxU l) := fun e => ⟨e, if_pos e⟩
  have hLast : Fl.ffl l = 0 → Hid (∀ k, k < l.length → Last (fxU (l.take k)) (ent (l.getD k Fl.onil) 0)) := fun e => fun k hk => fxU_last e hk
  obtain ⟨R, hR⟩ : ∃ R, fxR l = R := ⟨_, rfl⟩
  obtain ⟨L, hL⟩ : ∃ L, fxL l = L := ⟨_, rfl⟩
  rw [hR, hL] at hFF hOK ⊢
  obtain ⟨F, hF⟩ : ∃ F, Fl.ffl l = F := ⟨_, rfl⟩
  rw [hF] at hA hFF hOK hLast
  clear hF hR hL
  obtain ⟨W1, hW1⟩ : ∃ W1, w.alloc (.cells #[.int .i64 0, .int .i64 0, .slice none 0 0] 44) = W1 := ⟨_, rfl⟩
  have b1 : Below w.heap.size w W1 := by rw [← hW1]; exact allocBelow _ _
  have zW : w.heap.size < W1.heap.size := by rw [← hW1]; simp
  have r1 : Rf W1 w.heap.size [.int .i64 0, .int .i64 0, .slice none 0 0] := by rw [← hW1]; exact Rf.new _ _ _
  have A1 := h.below b1
  go_enter Tryd.func26, Tryd.ntmps26
  go_wp2_with fail
  refine (hA _ (A1.mono (by omega))).mono ?_; rintro e w2 ⟨rfl, b2⟩
  have A2 := A1.below b2
  have r2 := r1.below zW b2
  have B2 := b1.trans (b2.mono b1.size)
  have z2 : w.heap.size < w2.heap.size := Nat.lt_of_lt_of_le zW b2.size
  clear A1 r1 b1 b2 hA hW1 h zW
  by_cases e0 : F = 0
  · replace hOK := hOK e0
    replace hLast := hLast e0
    subst e0
    clear hFF
    go_wp2_with fail
    refine (indexNilC _).mono ?_; rintro e w3 ⟨rfl, s3, b3⟩
    have A3 := A2.below b3
    have r3 := r2.below z2 b3
    have B3 := B2.trans (b3.mono (by omega))
    have z3 := s3.lt
    obtain ⟨b, hb⟩ : ∃ b, w2.heap.size = b := ⟨_, rfl⟩
    rw [hb] at s3 z3 z2 ⊢
    clear A2 r2 B2 b3 hb
    go_wp2
    go_loopw [6, 16] (fun _o i wr => ∃ k : Nat, k ≤ l.length ∧ i = .int .i64 k ∧ (∃ v, SL wr b (fxU (l.take k)) v) ∧ Below b w3 wr) (fun _ i _ => l.length - (intOf i).toNat)
    case atStart => exact ⟨0, Nat.zero_le _, rfl, ⟨_, s3⟩, Below.refl _ _⟩
    case round =>
      obtain ⟨k, hk, rfl, ⟨v, sv⟩, hbel⟩ := hrel
      have hsz := hbel.size
      by_cases hlt : k < l.length
      · have qk : (k : Int) < (l.length : Int) := by omega
        obtain ⟨g, off, e, hg, d0, d1, d2⟩ := (flBelowAt A3 hbel (by omega)) k hlt
        subst e
        have hsl := hs _ (Fl.ob_mem l k hlt)
        have hLa := hLast.out k hlt
        have hT := fxU_take l k hlt
        have hln : (fxU (l.take k)).length ≤ 1048575 := by rw [fxU_len, List.length_take]; omega
        obtain ⟨C, hCe⟩ : ∃ C, l.getD k Fl.onil = C := ⟨_, rfl⟩
        obtain ⟨x0, x1, x2⟩ := C
        rw [hCe] at d0 d1 d2 hsl hLa hT
        simp only [] at d0 d1 d2 hsl
        obtain ⟨T, hTe⟩ : ∃ T, fxU (l.take k) = T := ⟨_, rfl⟩
        rw [hTe] at sv hLa hT hln
        have HT : Hid (fxU (l.take (k + 1)) = T ++ [ent (x0, x1, x2) 0]) := hT
        obtain ⟨W, hW⟩ : ∃ W, wr.alloc (.cells #[.string x0, .int .i64 x1, .string x2] 79) = W := ⟨_, rfl⟩
        have bW : Below wr.heap.size wr W := by rw [← hW]; exact allocBelow _ _
        have oW : Rf W wr.heap.size [.string x0, .int .i64 x1, .string x2] := by rw [← hW]; exact Rf.new _ _ _
        have m0 := oW.at_ 0 _ rfl
        have m1 := oW.at_ 1 _ rfl
        have m2 := oW.at_ 2 _ rfl
        have s4 := sv.below bW
        have zb : b ≤ wr.heap.size := Nat.le_of_lt sv.lt
        have B4 := hbel.trans (bW.mono zb)
        have hE := fun W => entryAtC (x0, x1, x2) 0 W hsl.1 hsl.2
        have hD := fun W p => addEndC b T v (ent (x0, x1, x2) 0) W p hln hLa
        simp only [] at hE
        clear hCe hT hTe hLa sv oW bW hbel
        go_wp2_with fail
        refine (hE _).mono ?_; rintro e w5 ⟨rfl, b5⟩
        have s5 := s4.below b5
        have B5 := B4.trans (b5.mono (Nat.le_of_lt s4.lt))
        clear hE s4 B4 b5 hW m0 m1 m2
        go_wp2_with fail
        refine (hD _ s5).mono ?_; rintro e w6 ⟨rfl, ⟨v6, s6⟩, b6⟩
        have B6 := B5.trans b6
        clear hD s5 B5 b6
        go_wp2
        go_roundw
        case rel => exact ⟨k + 1, by omega, by go_num, ⟨v6, by rw [HT.out]; exact s6⟩, B6⟩
        case measure => first | (simp [intOf]; omega) | simp [intOf]
      · have qk : ¬ (k : Int) < (l.length : Int) := by omega
        have ek : l.take k = l := List.take_of_length_le (by omega)
        rw [ek] at sv
        have r4 := rfBelowAt r3 hbel z2
        have B4 := B3.trans (hbel.mono (by omega))
        obtain ⟨va, vc, ev⟩ := shapeK3 sv.own
        subst ev
        have k1 := sv.rf.at_ 1 _ rfl
        have c0 := r4.at_ 0 _ rfl
        have c1 := r4.at_ 1 _ rfl
        have c2 := r4.at_ 2 _ rfl
        have f0 := r4.fz 0
        have f1 := r4.fz 1
        have f2 := r4.fz 2
        obtain ⟨n, hnn⟩ : ∃ n, (fxU l).length = n := ⟨_, rfl⟩
        have o4 := sv.own
        rw [hnn] at k1 o4
        have RV := ((r4.set (o := 0) (by simp) (.int .i64 0)).set (o := 1) (by simp) (.int .i64 0)).set (o := 2) (by simp) (.slice va n vc)
        have BV := ((B4.setCell (p := ⟨w.heap.size, 0, none⟩) (Nat.le_refl _) (.int .i64 0)).setCell (p := ⟨w.heap.size, 1, none⟩) (Nat.le_refl _) (.int .i64 0)).setCell (p := ⟨w.heap.size, 2, none⟩) (Nat.le_refl _) (.slice va n vc)
        have oV := (ownMonoF o4 (b := w.heap.size) (by omega)).kept (grownTrans (grownTrans (grownSet _ w.heap.size 0 (.int .i64 0)) (grownSet _ w.heap.size 1 (.int .i64 0))) (grownSet _ w.heap.size 2 (.slice va n vc))) (blockCases _ _ fun j q1 q2 => by cases q2; have := (o4.lt _ q1).1; omega)
        obtain ⟨V, hV⟩ : ∃ V, ((wr.setCell ⟨w.heap.size, 0, none⟩ (.int .i64 0)).setCell ⟨w.heap.size, 1, none⟩ (.int .i64 0)).setCell ⟨w.heap.size, 2, none⟩ (.slice va n vc) = V := ⟨_, rfl⟩
        rw [hV] at RV BV oV
        have HV : Hid (_ = V) := hV
        have v0 := RV.at_ 0 _ rfl
        have v1 := RV.at_ 1 _ rfl
        have v2 := RV.at_ 2 _ rfl
        clear hV ek sv r4 r3 A3 B3 B4 hbel hLast RV o4
        go_wp2
        rw [HV.out]
        refine bodyPost_ret (v := .agg #[.int .i64 0, .int .i64 0, .slice va n vc]) (by simp [results, Tryd.results26, go_sem, v0, v1, v2]) rfl ?_
        exact ⟨_, ret_agg3 (by rw [hOK.out.1]) rfl rfl, by rw [hOK.out.2, hnn]; exact oV, BV⟩
  · have hC := hFF e0
    have qn : (F != 0) = true := ne_beq e0
    have c0 := r2.at_ 0 _ rfl
    have c1 := r2.at_ 1 _ rfl
    have c2 := r2.at_ 2 _ rfl
    have f0 := r2.fz 0
    have f1 := r2.fz 1
    have f2 := r2.fz 2
    have RV := ((r2.set (o := 0) (by simp) (.int .i64 F)).set (o := 1) (by simp) (.int .i64 0)).set (o := 2) (by simp) (.slice none 0 0)
    have BV := ((B2.setCell (p := ⟨w.heap.size, 0, none⟩) (Nat.le_refl _) (.int .i64 F)).setCell (p := ⟨w.heap.size, 1, none⟩) (Nat.le_refl _) (.int .i64 0)).setCell (p := ⟨w.heap.size, 2, none⟩) (Nat.le_refl _) (.slice none 0 0)
    obtain ⟨V, hV⟩ : ∃ V, ((w2.setCell ⟨w.heap.size, 0, none⟩ (.int .i64 F)).setCell ⟨w.heap.size, 1, none⟩ (.int .i64 0)).setCell ⟨w.heap.size, 2, none⟩ (.slice none 0 0) = V := ⟨_, rfl⟩
    rw [hV] at RV BV
    have HV : Hid (_ = V) := hV
    have v0 := RV.at_ 0 _ rfl
    have v1 := RV.at_ 1 _ rfl
    have v2 := RV.at_ 2 _ rfl
    clear hV r2 B2 A2 hOK hFF e0 RV hLast
    go_wp2
    rw [HV.out]
    refine bodyPost_ret (v := .agg #[.int .i64 F, .int .i64 0, .slice none 0 0]) (by simp [results, Tryd.results26, go_sem, v0, v1, v2]) rfl ?_
    exact ⟨_, ret_agg3 (by rw [hC.out.1]) rfl rfl, by rw [hC.out.2]; exact nilE _ _, BV⟩
end Go.Proofs.YtnififnogdekiabDoor.En
