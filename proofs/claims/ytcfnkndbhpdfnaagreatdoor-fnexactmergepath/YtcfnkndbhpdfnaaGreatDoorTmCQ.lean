/- A path whose sides clash: its stages and its work. No statement is proved here. -/
import Derived.Test.YtcfnkndbhpdfnaaGreatDoorRyNQ
import Derived.Test.YtcfnkndbhpdfnaaGreatDoorPvDQ
import Derived.Deep.RegionHeldLaw
set_option linter.unusedVariables false
namespace Go.Proofs.YtcfnkndbhpdfnaaGreatDoor.Tm
open Go.ChangeShapes Go.WideShapes Go.ChangeAt Go.RowKit
open Go.Proofs.YtcfnkndbhpdfnaaGreatDoor.Pv
theorem TS.worked {P Q Pm : Nat} {M : List Ob} {E : List En.Ob} {K : List Wk.Ob} {vE vW v5 : Value} {z : Wk.Ob} {w w4 w5 : World} (h0 : TS P Q Pm M E K vE vW w) (hb : Below w.heap.size w w4) (o5 : w5.ownsRow (P + 2) 83 2 v5 (K.length + 1) (Wk.ocells K ++ Wk.ocells [z])) (g5 : w4.grownBy w5 vW.ownBlock) (k5 : v5.ownBlock = vW.ownBlock \/ v5.ownBlock = some w4.heap.size) :
  TS P Q Pm M E (K ++ [z]) vE v5 (w5.setCell ⟨Pm, 2, none⟩ v5) /\ TF P Q Pm vE vW vE v5 w (w5.setCell ⟨Pm, 2, none⟩ v5) := by
 have h := h0.below hb
 have e1 := h.pq
 have e2 := h.qm
 have e3 := h.lt
 have z5 : w4.heap.size <= (w5.setCell ⟨Pm, 2, none⟩ v5).heap.size := by rw [World.size_setCell]; exact g5.size
 have hk : ∀ k, k < w4.heap.size -> k ≠ Pm -> vW.ownBlock ≠ some k -> (w5.setCell ⟨Pm, 2, none⟩ v5).heap[k]? = w4.heap[k]? := fun k h1 h2 h3 =>
  (Below.heap_setCell w5 ⟨Pm, 2, none⟩ v5 k h2).trans (g5.block k h1 (fun e => h3 e.symm))
 have hlo : ∀ k, k < P + 2 -> vW.ownBlock ≠ some k := fun k h1 h2 => by have := (h.ow.lt k h2).1; omega
 have hf : v5.ownBlock = vW.ownBlock \/ ∃ j, v5.ownBlock = some j /\ w4.heap.size <= j := by
  rcases k5 with q | q
  ·exact .inl q
  ·exact .inr ⟨_, q, Nat.le_refl _⟩
 have rm5 : Rf w5 Pm [.pointer (some ⟨P + 1, 0, none⟩), .pointer (some ⟨Q, 0, none⟩), vW] := En.rfGrew h.rm g5 (fun e => h.wM e.symm) h.lt
 have o6 := o5.kept (grownSet w5 Pm 2 v5) (blockCases _ _ fun j c1 c2 => by cases c2; exact fresh_ne hf h.wM h.lt c1)
 refine ⟨⟨h.rp.ofBlock (hk _ (by omega) (by omega) (hlo _ (by omega))), h.sh.ofBlock (hk _ (by omega) (by omega) (hlo _ (by omega))), ⟨h.sl.rf.ofBlock (hk _ (by omega) (by omega) h.wQ), ownKeep h.sl.own z5 (fun k hv => hk k (h.sl.own.lt k hv).2 (fun e => h.eM (e ▸ hv)) (fun e => h.we k e hv)), by have := h.sl.lt; omega⟩, rm5.set (o := 2) (by simp) v5, ?_, e1, e2, by omega, h.eM, fresh_ne hf h.wQ (by omega), fresh_ne hf h.wM h.lt, ?_⟩, ?_⟩
 ·rw [List.length_append, Wk.ocells_app]; exact o6
 ·intro j hj e
  rcases hf with q | ⟨i, q, hi⟩
  ·exact h.we j (q ▸ hj) e
  ·rw [q] at hj
   cases hj
   have := (h.sl.own.lt _ e).2
   omega
 ·exact (TF.ofBelow hb).trans ⟨g5.os, g5.tape, g5.output, z5, fun k h1 _ _ _ h5 _ h7 => hk k h1 h5 h7, .inl rfl, hf⟩
def SP2 (P Q Pm : Nat) (M : List Ob) (E : List En.Ob) (K : List Wk.Ob) (vE vW : Value) (w : World) (e : Ending) (w' : World) : Prop := e = .returned (.tuple #[]) /\ ∃ v' u', TS P Q Pm M E K v' u' w' /\ TF P Q Pm vE vW v' u' w w'
theorem s10 {w : World} {q : Nat} {a0 a1 a2 a3 a4 a5 a6 a7 a8 : Value} (h : Rf w q [a0, a1, a2, a3, a4, a5, a6, a7, a8]) : w.cell? ⟨q, 0, none⟩ = some a0 /\ w.cell? ⟨q, 1, none⟩ = some a1 /\ w.cell? ⟨q, 2, none⟩ = some a2 /\ w.cell? ⟨q, 3, none⟩ = some a3 /\ w.cell? ⟨q, 4, none⟩ = some a4 /\ w.cell? ⟨q, 5, none⟩ = some a5 /\ w.cell? ⟨q, 6, none⟩ = some a6 /\ w.cell? ⟨q, 7, none⟩ = some a7 /\ w.cell? ⟨q, 8, none⟩ = some a8 :=
 ⟨h.at_ 0 _ rfl, h.at_ 1 _ rfl, h.at_ 2 _ rfl, h.at_ 3 _ rfl, h.at_ 4 _ rfl, h.at_ 5 _ rfl, h.at_ 6 _ rfl, h.at_ 7 _ rfl, h.at_ 8 _ rfl⟩
theorem TS.at2 {P Q Pm : Nat} {M : List Ob} {E : List En.Ob} {K : List Wk.Ob} {vE vW : Value} {w : World} (h : TS P Q Pm M E K vE vW w) : w.cell? ⟨Pm, 2, none⟩ = some vW := h.rm.at_ 2 _ rfl
theorem TS.at1 {P Q Pm : Nat} {M : List Ob} {E : List En.Ob} {K : List Wk.Ob} {vE vW : Value} {w : World} (h : TS P Q Pm M E K vE vW w) : w.cell? ⟨Pm, 1, none⟩ = some (.pointer (some ⟨Q, 0, none⟩)) := h.rm.at_ 1 _ rfl
theorem TF.keepRf {P Q Pm : Nat} {vE vW vE' vW' : Value} {w w' : World} {q : Nat} {vs : List Value} (h : TF P Q Pm vE vW vE' vW' w w') (r : Rf w q vs) (hq : q < w.heap.size) (h1 : P + 1 < q) (h2 : Q < q) (h3 : Pm < q) (h5 : vE.ownBlock ≠ some q) (h6 : vW.ownBlock ≠ some q) : Rf w' q vs := r.ofBlock (h.block q hq (by omega) (by omega) (by omega) (by omega) h5 h6)
set_option maxRecDepth 20000 in
set_option maxHeartbeats 8000000 in
theorem clashC (P Q Pm : Nat) (M : List Ob) (E : List En.Ob) (K : List Wk.Ob) (vE vW : Value) (f0 f2 g0 g2 h0 h2 y0 y2 X : ByteArray) (f1 g1 h1 y1 : Int) (w : World) (h : TS P Q Pm M E K vE vW w)
  (hsz : ∀ k, k < 3 -> ([((f0, f1, f2) : Fl.Ob), (g0, g1, g2), (h0, h1, h2)].getD k Fl.onil).1.size <= 1048576 /\ ([((f0, f1, f2) : Fl.Ob), (g0, g1, g2), (h0, h1, h2)].getD k Fl.onil).2.2.size <= 1048576) (hn : E.length <= 1048000) (hkn : K.length <= 1048000)
  (hL : ∀ k, k < 3 -> ¬ [((f0, f1, f2) : Fl.Ob), (g0, g1, g2), (h0, h1, h2)].getD k Fl.onil = Fl.onil -> En.Last (E ++ stgK [((f0, f1, f2) : Fl.Ob), (g0, g1, g2), (h0, h1, h2)] k) (entF ([((f0, f1, f2) : Fl.Ob), (g0, g1, g2), (h0, h1, h2)].getD k Fl.onil) ((k : Int) + 1)))
  (hY : 0 < (som [((f0, f1, f2) : Fl.Ob), (g0, g1, g2), (h0, h1, h2)]).length) (hY2 : (som [((f0, f1, f2) : Fl.Ob), (g0, g1, g2), (h0, h1, h2)]).getD 0 Fl.onil = (y0, y1, y2)) (hy0 : y0.size <= 1048576) (hX : X.size <= 281474976710656) :
  Calls Tryz.prog 94 #[.pointer (some ⟨Pm, 0, none⟩), .agg #[.string f0, .int .i64 f1, .string f2, .string g0, .int .i64 g1, .string g2, .string h0, .int .i64 h1, .string h2], .string X] w fun e w' => SP2 P Q Pm M (E ++ stgK [((f0, f1, f2) : Fl.Ob), (g0, g1, g2), (h0, h1, h2)] 3) (K ++ [(y0, X)]) vE vW w e w' := by
 have HI : Hid (∀ k, k < 3 -> ∃ x0 x1 x2, [((f0, f1, f2) : Fl.Ob), (g0, g1, g2), (h0, h1, h2)].getD k Fl.onil = (x0, x1, x2) /\ ∀ w, (Instr.index 53 (.agg #[.string f0, .int .i64 f1, .string f2, .string g0, .int .i64 g1, .string g2, .string h0, .int .i64 h1, .string h2]) (.int .i64 (k : Int))).run Tryz.prog w = .ok (.agg #[.string x0, .int .i64 x1, .string x2]) w) := fun k hk => files9 f0 f2 g0 g2 h0 h2 f1 g1 h1 k hk
 have HF := fun W => filesC f0 f2 g0 g2 h0 h2 f1 g1 h1 W
 obtain ⟨fs, hfs⟩ : ∃ fs, [((f0, f1, f2) : Fl.Ob), (g0, g1, g2), (h0, h1, h2)] = fs := ⟨_, rfl⟩
 rw [hfs] at HI HF hsz hL hY hY2 ⊢
 obtain ⟨SM, hSM⟩ : ∃ S, som fs = S := ⟨_, rfl⟩
 rw [hSM] at HF hY hY2
 have HSZ : Hid (∀ k, k < 3 -> (fs.getD k Fl.onil).1.size <= 1048576 /\ (fs.getD k Fl.onil).2.2.size <= 1048576) := hsz
 have HLL : Hid (∀ k, k < 3 -> ¬ fs.getD k Fl.onil = Fl.onil -> En.Last (E ++ stgK fs k) (entF (fs.getD k Fl.onil) ((k : Int) + 1))) := hL
 obtain ⟨q, hq⟩ : ∃ q, w.heap.size = q := ⟨_, rfl⟩
 obtain ⟨W1, hW1⟩ : ∃ W, w.alloc (.cells #[.string f0, .int .i64 f1, .string f2, .string g0, .int .i64 g1, .string g2, .string h0, .int .i64 h1, .string h2] 53) = W := ⟨_, rfl⟩
 have b1 : Below w.heap.size w W1 := by rw [<- hW1]; exact allocBelow _ _
 have r1 : Rf W1 q [.string f0, .int .i64 f1, .string f2, .string g0, .int .i64 g1, .string g2, .string h0, .int .i64 h1, .string h2] := by rw [<- hW1, <- hq]; exact Rf.new _ #[.string f0, .int .i64 f1, .string f2, .string g0, .int .i64 g1, .string g2, .string h0, .int .i64 h1, .string h2] _
 have T1 := h.below b1
 have F1 : Hid (TF P Q Pm vE vW vE vW w W1) := TF.ofBelow b1
 have zW : W1.heap.size = q + 1 := by rw [<- hW1, <- hq]; simp
 have hPm : Pm < q := by rw [<- hq]; exact h.lt
 have hQ := h.qm
 have hP := h.pq
 have hEq : vE.ownBlock ≠ some q := fun e => by have := (h.sl.own.lt q e).2; omega
 have hWq : vW.ownBlock ≠ some q := fun e => by have := (h.ow.lt q e).2; omega
 have HR9 : Hid (∀ wr vE' vW', TF P Q Pm vE vW vE' vW' W1 wr -> Rf wr q [.string f0, .int .i64 f1, .string f2, .string g0, .int .i64 g1, .string g2, .string h0, .int .i64 h1, .string h2]) := fun wr vE' vW' hF => hF.keepRf r1 (by omega) (by omega) (by omega) (by omega) hEq hWq
 have c0 := r1.at_ 0 _ rfl
 have c1 := r1.at_ 1 _ rfl
 have c2 := r1.at_ 2 _ rfl
 have c3 := r1.at_ 3 _ rfl
 have c4 := r1.at_ 4 _ rfl
 have c5 := r1.at_ 5 _ rfl
 have c6 := r1.at_ 6 _ rfl
 have c7 := r1.at_ 7 _ rfl
 have c8 := r1.at_ 8 _ rfl
 clear hfs hsz hL hSM r1 b1 h
 go_enter Tryz.func94, Tryz.ntmps94
 go_wp2
 clear hq hW1
 go_loopw [6, 7, 9] (fun _ _ i wr => ∃ (k : Nat) (v' : Value), k <= 3 /\ i = .int .i64 (k : Int) /\ TS P Q Pm M (E ++ stgK fs k) K v' vW wr /\ TF P Q Pm vE vW v' vW W1 wr) (fun _ _ i _ => 3 - (intOf i).toNat)
 case atStart => exact ⟨0, vE, Nat.zero_le _, rfl, by rw [show stgK fs 0 = [] from rfl, List.append_nil]; exact T1, TF.ofBelow (Below.refl _ _)⟩
 case round =>
  obtain ⟨k, v', hk, rfl, hT, hFr⟩ := hrel
  have HFr : Hid (TF P Q Pm vE vW v' vW W1 _) := hFr
  clear hFr T1 c0 c1 c2 c3 c4 c5 c6 c7 c8
  by_cases hlt : k < 3
  ·have qk : (k : Int) < 3 := by omega
   obtain ⟨x0, x1, x2, hxe, hix⟩ := HI.out k hlt
   have hy := fun q => stgK_yes (fs := fs) (k := k) q
   have hno := fun q => stgK_no (fs := fs) (k := k) q
   have hln := stgK_len fs k
   have hss := HSZ.out k hlt
   have hll := HLL.out k hlt
   rw [hxe] at hy hno hss hll
   simp only [] at hss
   obtain ⟨T, hTT⟩ : ∃ T, stgK fs k = T := ⟨_, rfl⟩
   rw [hTT] at hT hy hno hln hll
   obtain ⟨W, hW⟩ : ∃ W, wr.alloc (.cells #[.string x0, .int .i64 x1, .string x2] 34) = W := ⟨_, rfl⟩
   have bW : Below wr.heap.size wr W := by rw [<- hW]; exact allocBelow _ _
   have oW : Rs W wr.heap.size [.string x0, .int .i64 x1, .string x2] := by rw [<- hW]; exact Rs.new wr #[.string x0, .int .i64 x1, .string x2] _
   have zz : wr.heap.size < W.heap.size := by rw [<- hW]; simp
   have m0 := oW 0 _ rfl
   have m1 := oW 1 _ rfl
   have m2 := oW 2 _ rfl
   have T2 := hT.below bW
   have HBW : Hid (TF P Q Pm v' vW v' vW wr W) := TF.ofBelow bW
   have HOB : Hid (∀ j, v'.ownBlock = some j -> j < wr.heap.size) := fun j hj => (hT.sl.own.lt j hj).2
   have HPm : Hid (v'.ownBlock ≠ some Pm) := hT.eM
   have hPw := hT.lt
   clear hxe hTT oW bW hT
   by_cases hx : ((x0, x1, x2) : Fl.Ob) = Fl.onil
   ·have HN : Hid (stgK fs (k + 1) = T) := hno hx
    have hE := Fl.ef_nil hx
    have T3 : Hid (TS P Q Pm M (E ++ T) K v' vW W) := T2
    clear hy hno T2 hx hll HOB HPm
    go_wp2
    go_roundw
    case rel => exact ⟨k + 1, v', by omega, by go_num, by rw [HN.out]; exact T3.out, HFr.out.trans HBW.out⟩
    case measure => first | (simp [intOf]; omega) | simp [intOf]
   ·have HY : Hid (stgK fs (k + 1) = T ++ [entF (x0, x1, x2) ((k : Int) + 1)]) := hy hx
    have hE := Fl.ef_some hx
    have hEn := fun W => En.entryAtC (x0, x1, x2) ((k : Int) + 1) W hss.1 hss.2
    have hAd := fun W y => En.addEndK Q (E ++ T) v' (entF (x0, x1, x2) ((k : Int) + 1)) W y (by rw [List.length_append]; omega) (hll hx)
    unfold entF at hAd
    simp only [] at hEn hAd
    have hw1 : IntKind.i64.wrap ((k : Int) + 1) = (k : Int) + 1 := by rw [IntKind.wrap_i64]; omega
    have T2D : TS P Q Pm M (E ++ T) K v' vW W.drew := T2.below (below_drew (Below.refl _ _))
    have a1 := T2D.at1
    clear hy hno T2 hx hll hss
    go_wp2
    go_region_held (fun w' => w'.cell? ⟨Pm, 1, none⟩ = some (.pointer (some ⟨Q, 0, none⟩)) /\ w'.cell? ⟨wr.heap.size, 0, none⟩ = some (.string x0) /\ w'.cell? ⟨wr.heap.size, 1, none⟩ = some (.int .i64 x1) /\ w'.cell? ⟨wr.heap.size, 2, none⟩ = some (.string x2)) (first | with_reducible exact ⟨a1, m0, m1, m2⟩ | with_reducible exact ⟨M1, C0, C1, C2⟩ | with_reducible exact ⟨N1, D0, D1, D2⟩ | exact ⟨a1, m0, m1, m2⟩)
     ((first
      | (go_at_call 83; refine (hEn _).mono ?_; rintro e wa ⟨rfl, ba⟩; have M1 := zS ba a1; have C0 := zS ba m0; have C1 := zS ba m1; have C2 := zS ba m2; have TA := T2D.below ba; have zA : W.heap.size <= wa.heap.size := ba.size; have BA : Below W.heap.size W wa := (below_drew (Below.refl _ _)).trans ba)
      | (go_at_call 82; refine (hAd _ TA.sl).mono ?_; rintro e wb ⟨rfl, u', s', b', z', k', f'⟩; have N1 := cellK M1 (k' Pm (by omega) (by omega) HPm.out); have D0 := cellK C0 (k' wr.heap.size (by omega) (by omega) (fun e => by have := HOB.out _ e; omega)); have D1 := cellK C1 (k' wr.heap.size (by omega) (by omega) (fun e => by have := HOB.out _ e; omega)); have D2 := cellK C2 (k' wr.heap.size (by omega) (by omega) (fun e => by have := HOB.out _ e; omega)))))
    all_goals
     obtain ⟨T3, F3⟩ := TA.added s' b' z' k' f'
     have HT3 : Hid (TS P Q Pm M (E ++ T ++ [(x0, (k : Int) + 1, x1, x2)]) K u' vW _) := T3
     have HF3 : Hid (TF P Q Pm v' vW u' vW wa _) := F3
     clear T3 F3 s' b' z' k' f' TA T2D
     go_wp2
     go_roundw
     case rel => exact ⟨k + 1, u', by omega, by go_num, by rw [HY.out, <- List.append_assoc]; exact HT3.out, HFr.out.trans (HBW.out.trans ((TF.ofBelow BA).trans HF3.out))⟩
     case measure => first | (simp [intOf]; omega) | simp [intOf]
  ·have qk : ¬ (k : Int) < 3 := by omega
   have ek : k = 3 := by omega
   subst ek
   have R0 : Rf wr q [.string f0, .int .i64 f1, .string f2, .string g0, .int .i64 g1, .string g2, .string h0, .int .i64 h1, .string h2] := HR9.out _ _ _ HFr.out
   have hsz0 : q + 1 <= wr.heap.size := by rw [<- zW]; exact HFr.out.size
   have hszD : q < wr.drew.heap.size := hsz0
   have RD : Rf wr.drew q [.string f0, .int .i64 f1, .string f2, .string g0, .int .i64 g1, .string g2, .string h0, .int .i64 h1, .string h2] := R0.below (by omega) (below_drew (Below.refl _ _))
   have HT : Hid (TS P Q Pm M (E ++ stgK fs 3) K v' vW wr) := hT
   have aD : wr.drew.cell? ⟨Pm, 2, none⟩ = some vW := (hT.below (below_drew (Below.refl _ _))).at2
   have hC0 := fun W => cloneS y0 W (by omega)
   have hC1 := fun W => cloneS X W hX
   have HRM : Hid (Rf wr Pm _) := hT.rm
   have HOW : Hid (wr.ownsRow (P + 2) 83 2 vW K.length (Wk.ocells K)) := hT.ow
   obtain ⟨i0, hi, hz0, hz1, hz2⟩ := info_parts Wk.infoObj
   have qY : (0 : Int) < (SM.length : Int) := by omega
   have hm1 : K.length + 1 <= maxLen := by unfold maxLen; omega
   have hm2 : (K.length + 1) * 32 <= 140737488355328 := by omega
   clear hT R0 HI HSZ HLL HR9
   go_wp2
   obtain ⟨e0, e1, e2, e3, e4, e5, e6, e7, e8⟩ := s10 RD
   go_region_law (first
    | (refine En.stepApp rfl (.tmp 30) (.tmp 40) 29 rfl (P + 2) 83 i0 _ 2 32 Tryz.underlying29 hi hz0 hz1 hz2 rfl (by decide) vW _ _ rfl oN ⟨wc.heap.size, 0, none⟩ 1 1 (Wk.ocells [(y0, X)]) rfl rfl nN (Wk.oneW _) hm1 hm2 zP ?_; intro v5 w5 o5 g5 k5; obtain ⟨ua, uc, rfl⟩ := En.shapeK3 o5; have RG := En.rfGrew RN g5 (fun e => hWq e.symm) (by omega); have rG := En.rfGrew rN g5 (fun e => HT.out.wM e.symm) (by omega); have kG := rG.fz 2; have yG := rG.at_ 2 _ rfl; have RS := RG.other (b' := Pm) (o := 2) (by omega) (.slice ua (K.length + 1) uc))
    | (go_simp; first
     | (go_at_call 113; have gd := RB; clear gd; refine (hC1 _).mono ?_; rintro e wc ⟨rfl, bc⟩; have RC := RB.below (by omega) bc; have aC := zS bc aB; have bC : Below wr.heap.size wr wc := bB.trans (bc.mono zB); have zC : wr.heap.size <= wc.heap.size := Nat.le_trans zB bc.size; have RN := RC.below (by omega) (allocBelow wc (.cells #[.string y0, .string X] 83)); have aN := zS (allocBelow wc (.cells #[.string y0, .string X] 83)) aC; have bN : Below wr.heap.size wr (wc.alloc (.cells #[.string y0, .string X] 83)) := bC.alloc zC _; have oN := (Fr.ofBelow (lo := 0) (hi := 0) bN).own HOW.out (fun _ _ => .inr (Nat.zero_le _)); have nN := Wk.newW wc (y0, X); have zN : wr.heap.size <= (wc.alloc (.cells #[.string y0, .string X] 83)).heap.size := bN.size; have zP : P + 2 <= (wc.alloc (.cells #[.string y0, .string X] 83)).heap.size := (by omega); have rN := HRM.out.below HT.out.lt bN)
     | (go_at_call 28; refine (HF _).mono ?_; rintro e wa ⟨va, rfl, oa, ba⟩; obtain ⟨vo, vc, rfl⟩ := En.shapeK3 oa; obtain ⟨fg, fo, rfl, _, d0, _, _⟩ := (Fl.OB.of oa) 0 hY; rw [hY2, Nat.zero_mul, Nat.add_zero] at d0; simp only [] at d0; have RA := RD.below hszD ba; have aA := zS ba aD; have zA : wr.heap.size <= wa.heap.size := ba.size; have bA : Below wr.heap.size wr wa := (below_drew (Below.refl _ _)).trans ba)
     | (go_at_call 113; refine (hC0 _).mono ?_; rintro e wb ⟨rfl, bb⟩; have RB := RA.below (by omega) bb; have aB := zS bb aA; have bB : Below wr.heap.size wr wb := bA.trans (bb.mono zA); have zB : wr.heap.size <= wb.heap.size := Nat.le_trans zA bb.size)))
   all_goals
    obtain ⟨T6, F6⟩ := TS.worked (z := (y0, X)) HT.out bN o5 g5 k5
    have HX : Hid (SP2 P Q Pm M (E ++ stgK fs 3) (K ++ [(y0, X)]) vE vW w (.returned (.tuple #[])) (w5.setCell ⟨Pm, 2, none⟩ (.slice ua (K.length + 1) uc))) := ⟨rfl, v', _, T6, F1.out.trans (HFr.out.trans F6)⟩
    clear T6 F6 o5 g5 k5
    go_wp2
    refine bodyPost_end (results_none rfl _ _ _) rfl ?_
    exact HX.out
end Go.Proofs.YtcfnkndbhpdfnaaGreatDoor.Tm
namespace Go.Proofs.YtcfnkndbhpdfnaaGreatDoor
open Go.RowKit
set_option maxRecDepth 20000 in
set_option maxHeartbeats 4000000 in
theorem implMergeTexts (a b c : ByteArray) (w : World) (ha : a.size <= 1048576) (hb : b.size <= 1048576) (hc : c.size <= 1048576) :
  Calls Tryz.prog 116 #[.string a, .string b, .string c] w fun e w' => e = .returned (.agg #[.int .i64 (mtR a b c), .int .i64 (mtN a b c), .string (mtT a b c)]) /\ Below w.heap.size w w' := by
 obtain ⟨R, hR0⟩ : ∃ R, mtR a b c = R := ⟨_, rfl⟩
 obtain ⟨N, hN0⟩ : ∃ N, mtN a b c = N := ⟨_, rfl⟩
 obtain ⟨X, hX0⟩ : ∃ X, mtT a b c = X := ⟨_, rfl⟩
 rw [hR0, hN0, hX0]
 obtain ⟨W1, hW1⟩ : ∃ W, w.alloc (.cells #[.int .i64 0, .int .i64 0, .string ⟨#[]⟩] 114) = W := ⟨_, rfl⟩
 have b1 : Below w.heap.size w W1 := by rw [<- hW1]; exact allocBelow _ _
 have r1 : Rf W1 w.heap.size [.int .i64 0, .int .i64 0, .string ⟨#[]⟩] := by rw [<- hW1]; exact Rf.new _ _ _
 have zW1 : W1.heap.size = w.heap.size + 1 := by rw [<- hW1]; simp
 have hC := chunksOfTextsC a b c W1 ha hb hc
 go_enter Tryz.func116, Tryz.ntmps116
 go_wp2_with fail
 refine hC.mono ?_
 clear hC
 rintro e w6 (⟨hne, rfl, b6⟩ | ⟨TX, v, sl, rfl, O, b6⟩)
 ·have HQ : mtR a b c = tx3 a b c := if_neg hne
  have HR : Hid (R = tx3 a b c) := hR0.symm.trans HQ
  have HN : Hid (N = 0) := hN0.symm.trans (if_neg (by rw [HQ]; exact hne))
  have HX : Hid (X = ⟨#[]⟩) := hX0.symm.trans (if_neg (by rw [HQ]; exact hne))
  have q0 : (tx3 a b c != 0) = true := by simp [hne]
  have r6 := r1.below (by omega) b6
  have B6 := below_step b1 (by omega) b6
  generalize tx3 a b c = Q at q0 HR
  have HB : Hid (Below w.heap.size w (((w6.setCell ⟨w.heap.size, 0, none⟩ (.int .i64 Q)).setCell ⟨w.heap.size, 1, none⟩ (.int .i64 0)).setCell ⟨w.heap.size, 2, none⟩ (.string ⟨#[]⟩))) := below_set3 B6 (Nat.le_refl _)
  have x0 := r6.at_ 0 _ rfl
  have x1 := r6.at_ 1 _ rfl
  have x2 := r6.at_ 2 _ rfl
  have g0 := r6.fz 0
  have g1 := r6.fz 1
  have g2 := r6.fz 2
  clear r1 r6 b1 b6 B6 hne HQ hW1
  go_wp2
  refine bodyPost_ret (v := .agg #[.int .i64 Q, .int .i64 0, .string ⟨#[]⟩]) (by simp [results, Tryz.results116, go_sem, x0, x1, x2]) rfl ?_
  exact ⟨ret_m3 HR.out.symm HN.out.symm HX.out.symm, HB.out⟩
 ·have hx := Tx.of TX
  have hR : Hid (mtR a b c = tf (mtB a b c) /\ (¬ tf (mtB a b c) = 0 -> mtN a b c = 0 /\ mtT a b c = ⟨#[]⟩) /\ (tf (mtB a b c) = 0 -> mtN a b c = cc (ckT (linesOf a) (linesOf b) (linesOf c)) /\ mtT a b c = mtB a b c)) := by
   have h : mtR a b c = tf (mtB a b c) := if_pos TX
   exact ⟨h, fun e => ⟨if_neg (by rw [h]; exact e), if_neg (by rw [h]; exact e)⟩, fun e => ⟨if_pos (by rw [h]; exact e), if_pos (by rw [h]; exact e)⟩⟩
  have hTF : Hid (∀ W, Calls Tryz.prog 76 #[.string (mtB a b c)] W fun e w' => e = .returned (.int .i64 (tf (mtB a b c))) /\ Below W.heap.size W w') := fun W => implTFw (mtB a b c) W hx.sz
  have hfit := ck_fits hx.y1 hx.y2 hx.y3
  have hlen : (ckT (linesOf a) (linesOf b) (linesOf c)).length <= 1048576 := by have := hx.ok.short; omega
  have hMT : Hid (∀ W va vc, KB W.heap.size W va (ckT (linesOf a) (linesOf b) (linesOf c)) -> Calls Tryz.prog 134 #[.slice va (ckT (linesOf a) (linesOf b) (linesOf c)).length vc] W fun e w' => e = .returned (.string (mtB a b c)) /\ Below W.heap.size W w') := fun W va vc h => by
   have := mergedText va vc _ W h hlen hx.ok.mx
   rw [mg_put hx.ok] at this
   exact this
  have hCC : Hid (∀ W va vc, KB W.heap.size W va (ckT (linesOf a) (linesOf b) (linesOf c)) -> Calls Tryz.prog 135 #[.slice va (ckT (linesOf a) (linesOf b) (linesOf c)).length vc] W fun e w' => e = .returned (.int .i64 (cc (ckT (linesOf a) (linesOf b) (linesOf c)))) /\ Below W.heap.size W w') := fun W va vc h => clashCount va vc _ W h hlen
  replace hfit : Hid (FitsK (ckT (linesOf a) (linesOf b) (linesOf c))) := hfit
  generalize ckT (linesOf a) (linesOf b) (linesOf c) = T at hMT hCC hR hfit hlen O
  generalize mtB a b c = Y at hR hTF hMT
  generalize tf Y = q at hR hTF
  rw [hR0, hN0, hX0] at hR
  obtain ⟨va, vc, rfl⟩ := shapeK O.row
  have BB := below_step b1 (by omega) b6
  have r1 := r1.below (by omega) b6
  have s1 := BB.size
  have s0 := b6.size
  clear TX hx b1 b6 hlen hW1
  go_wp2_with fail
  refine (hMT.out _ _ _ (O.read hfit.out)).mono ?_; rintro e w7 ⟨rfl, b7⟩
  replace O := O.below b7
  have B7 := below_step BB (by omega) b7
  have r7 := r1.below (by omega) b7
  have s7 := b7.size
  clear BB r1 b7 hMT
  go_wp2_with fail
  refine (hTF.out _).mono ?_; rintro e w8 ⟨rfl, b8⟩
  replace O := O.below b8
  have B8 := below_step B7 (by omega) b8
  have r8 := r7.below (by omega) b8
  have s8 := b8.size
  clear B7 r7 b8 hTF
  by_cases e2 : q = 0
  ·have HR : Hid (R = 0) := hR.out.1.trans e2
   have HN : Hid (N = cc T) := (hR.out.2.2 e2).1
   have HX : Hid (X = Y) := (hR.out.2.2 e2).2
   subst e2
   have kb := O.read hfit.out
   clear hR hfit O
   go_wp2_with fail
   refine (hCC.out _ _ _ kb).mono ?_; rintro e w9 ⟨rfl, b9⟩
   have B9 := below_step B8 (by omega) b9
   have r9 := r8.below (by omega) b9
   generalize cc T = M at HN ⊢
   have f0 := r9.at_ 0 _ rfl
   have f1 := r9.at_ 1 _ rfl
   have f2 := r9.at_ 2 _ rfl
   have g0 := r9.fz 0
   have g1 := r9.fz 1
   have g2 := r9.fz 2
   have HB : Hid (Below w.heap.size w (((w9.setCell ⟨w.heap.size, 0, none⟩ (.int .i64 0)).setCell ⟨w.heap.size, 1, none⟩ (.int .i64 M)).setCell ⟨w.heap.size, 2, none⟩ (.string Y))) := below_set3 B9 (Nat.le_refl _)
   clear hCC kb B8 r8 b9 B9 r9
   go_wp2
   refine bodyPost_ret (v := .agg #[.int .i64 0, .int .i64 M, .string Y]) (by simp [results, Tryz.results116, go_sem, f0, f1, f2]) rfl ?_
   exact ⟨ret_m3 HR.out.symm HN.out.symm HX.out.symm, HB.out⟩
  ·have HR : Hid (R = q) := hR.out.1
   have HN : Hid (N = 0) := (hR.out.2.1 e2).1
   have HX : Hid (X = ⟨#[]⟩) := (hR.out.2.1 e2).2
   have q0 : (q != 0) = true := by simp [e2]
   have f0 := r8.at_ 0 _ rfl
   have f1 := r8.at_ 1 _ rfl
   have f2 := r8.at_ 2 _ rfl
   have g0 := r8.fz 0
   have g1 := r8.fz 1
   have g2 := r8.fz 2
   have HB : Hid (Below w.heap.size w (((w8.setCell ⟨w.heap.size, 0, none⟩ (.int .i64 q)).setCell ⟨w.heap.size, 1, none⟩ (.int .i64 0)).setCell ⟨w.heap.size, 2, none⟩ (.string ⟨#[]⟩))) := below_set3 B8 (Nat.le_refl _)
   clear hCC hR hfit O B8 r8 e2
   go_wp2
   refine bodyPost_ret (v := .agg #[.int .i64 q, .int .i64 0, .string ⟨#[]⟩]) (by simp [results, Tryz.results116, go_sem, f0, f1, f2]) rfl ?_
   exact ⟨ret_m3 HR.out.symm HN.out.symm HX.out.symm, HB.out⟩
end Go.Proofs.YtcfnkndbhpdfnaaGreatDoor
