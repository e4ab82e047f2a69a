/- A path merged by the program. No statement is proved here. -/
import Derived.Test.YtcfnkndbhpdfnaaGreatDoorTmWQ
import Derived.Laws.EntriesVeiled
set_option linter.unusedVariables false
namespace Go.Proofs.YtcfnkndbhpdfnaaGreatDoor.Tm
open Go.ChangeShapes Go.WideShapes Go.ChangeAt Go.RowKit
open Go.Proofs.YtcfnkndbhpdfnaaGreatDoor.Pv
theorem md_size {x y z : ByteArray} (h : (md3 x y z).1 = 0) : (md3 x y z).2.2.size <= 1048576 := by
 cases hb : bin3 x y z with
 | true => rw [md_bin hb] at h; exact absurd h (by decide)
 | false =>
  rw [md_text hb] at h ⊢
  have h1 : mtR x y z = 0 := h
  show (mtT x y z).size <= 1048576
  unfold mtT
  rw [if_pos h1]
  unfold mtR at h1
  split at h1
  ·refine Decidable.byContradiction fun q => ?_
   rw [tf_many (.inl (by omega))] at h1
   omega
  ·rename_i e; exact absurd h1 e
theorem mk_cases (f g h : Fl.Ob) : Fl.mk f g h = 0 \/ Fl.mk f g h = 1 \/ Fl.mk f g h = 2 \/ Fl.mk f g h = 3 \/ Fl.mk f g h = 4 := by
 unfold Fl.mk
 by_cases e1 : g = h
 ·rw [if_pos e1]; exact .inl rfl
 ·rw [if_neg e1]
  by_cases e2 : h = f
  ·rw [if_pos e2]; exact .inr (.inl rfl)
  ·rw [if_neg e2]
   by_cases e3 : g = f
   ·rw [if_pos e3]; exact .inr (.inr (.inl rfl))
   ·rw [if_neg e3]
    by_cases e4 : g = Fl.onil
    ·rw [if_pos e4]; exact .inr (.inr (.inr (.inr rfl)))
    ·rw [if_neg e4]
     by_cases e5 : h = Fl.onil
     ·rw [if_pos e5]; exact .inr (.inr (.inr (.inr rfl)))
     ·rw [if_neg e5]; exact .inr (.inr (.inr (.inl rfl)))
theorem mk_three {f g h : Fl.Ob} (e : Fl.mk f g h = 3) : ¬ g = Fl.onil := fun q => by
 unfold Fl.mk at e
 by_cases e1 : g = h
 ·rw [if_pos e1] at e; omega
 ·rw [if_neg e1] at e
  by_cases e2 : h = f
  ·rw [if_pos e2] at e; omega
  ·rw [if_neg e2] at e
   by_cases e3 : g = f
   ·rw [if_pos e3] at e; omega
   ·rw [if_neg e3, if_pos q] at e; omega
def paI (M : List Ob) (E : List En.Ob) (K : List Wk.Ob) (f g h : Fl.Ob) (y0 : ByteArray) : Int × List Ob × List En.Ob × List Wk.Ob :=
 if Fl.mk f g h = 3 then boI M E K f g h y0
 else if Fl.mk f g h = 4 then (0, M, E ++ stgK [f, g, h] 3, K ++ [(y0, tx M (lef g h))])
 else if Fl.mk f g h = 2 then (0, M, (if h = Fl.onil then E else E ++ [entF h 0]), K)
 else (0, M, (if g = Fl.onil then E else E ++ [entF g 0]), K)
theorem s15 {w : World} {q p : Nat} {a0 a1 a2 a3 a4 a5 a6 a7 a8 b0 b1 b2 b3 b4 : Value} (h : Rf w q [a0, a1, a2, a3, a4, a5, a6, a7, a8]) (k : Rf w p [b0, b1, b2, b3, b4]) : w.cell? ⟨p, 0, none⟩ = some b0 /\ w.cell? ⟨p, 1, none⟩ = some b1 /\ w.cell? ⟨p, 2, none⟩ = some b2 /\ w.cell? ⟨p, 3, none⟩ = some b3 /\ w.cell? ⟨p, 4, none⟩ = some b4 /\ w.cell? ⟨q, 0, none⟩ = some a0 /\ w.cell? ⟨q, 1, none⟩ = some a1 /\ w.cell? ⟨q, 2, none⟩ = some a2 /\ w.cell? ⟨q, 3, none⟩ = some a3 /\ w.cell? ⟨q, 4, none⟩ = some a4 /\ w.cell? ⟨q, 5, none⟩ = some a5 /\ w.cell? ⟨q, 6, none⟩ = some a6 /\ w.cell? ⟨q, 7, none⟩ = some a7 /\ w.cell? ⟨q, 8, none⟩ = some a8 := ⟨k.at_ 0 _ rfl, k.at_ 1 _ rfl, k.at_ 2 _ rfl, k.at_ 3 _ rfl, k.at_ 4 _ rfl, s10 h⟩
set_option maxRecDepth 20000 in
set_option maxHeartbeats 16000000 in
theorem mergeC (P Q Pm : Nat) (M : List Ob) (E : List En.Ob) (K : List Wk.Ob) (vE vW : Value) (f0 f2 g0 g2 h0 h2 y0 y2 : ByteArray) (f1 g1 h1 y1 : Int) (w : World) (h : TS P Q Pm M E K vE vW w) (hz : sf M = 0) (hs : SmallO M)
  (hsz : ∀ k, k < 3 -> ([((f0, f1, f2) : Fl.Ob), (g0, g1, g2), (h0, h1, h2)].getD k Fl.onil).1.size <= 1048576 /\ ([((f0, f1, f2) : Fl.Ob), (g0, g1, g2), (h0, h1, h2)].getD k Fl.onil).2.2.size <= 1048576) (hn : E.length <= 1048000) (hkn : K.length <= 1048000)
  (hL : ∀ k, k < 3 -> ¬ [((f0, f1, f2) : Fl.Ob), (g0, g1, g2), (h0, h1, h2)].getD k Fl.onil = Fl.onil -> En.Last (E ++ stgK [((f0, f1, f2) : Fl.Ob), (g0, g1, g2), (h0, h1, h2)] k) (entF ([((f0, f1, f2) : Fl.Ob), (g0, g1, g2), (h0, h1, h2)].getD k Fl.onil) ((k : Int) + 1)))
  (hYY : Fl.mk ((f0, f1, f2) : Fl.Ob) (g0, g1, g2) (h0, h1, h2) = 3 \/ Fl.mk ((f0, f1, f2) : Fl.Ob) (g0, g1, g2) (h0, h1, h2) = 4 -> 0 < (som [((f0, f1, f2) : Fl.Ob), (g0, g1, g2), (h0, h1, h2)]).length /\ (som [((f0, f1, f2) : Fl.Ob), (g0, g1, g2), (h0, h1, h2)]).getD 0 Fl.onil = (y0, y1, y2) /\ y0.size <= 1048576)
  (hLg : ¬ ((g0, g1, g2) : Fl.Ob) = Fl.onil -> ∀ (m : Int) (s : ByteArray), En.Last E (g0, 0, m, s)) (hLh : ¬ ((h0, h1, h2) : Fl.Ob) = Fl.onil -> ∀ (m : Int) (s : ByteArray), En.Last E (h0, 0, m, s)) :
  Calls Tryz.prog 29 #[.pointer (some ⟨Pm, 0, none⟩), .agg #[.string f0, .int .i64 f1, .string f2, .string g0, .int .i64 g1, .string g2, .string h0, .int .i64 h1, .string h2]] w fun e w' => MR P Q Pm (paI M E K ((f0, f1, f2) : Fl.Ob) (g0, g1, g2) (h0, h1, h2) y0).1 (paI M E K ((f0, f1, f2) : Fl.Ob) (g0, g1, g2) (h0, h1, h2) y0).2.1 (paI M E K ((f0, f1, f2) : Fl.Ob) (g0, g1, g2) (h0, h1, h2) y0).2.2.1 (paI M E K ((f0, f1, f2) : Fl.Ob) (g0, g1, g2) (h0, h1, h2) y0).2.2.2 vE vW w e w' := by
 have sg := hsz 1 (by omega)
 have sh := hsz 2 (by omega)
 have sg0 : g0.size <= 1048576 := sg.1
 have sg2 : g2.size <= 1048576 := sg.2
 have sh0 : h0.size <= 1048576 := sh.1
 have sh2 : h2.size <= 1048576 := sh.2
 clear sg sh
 obtain ⟨BI, hBI⟩ : ∃ B, paI M E K ((f0, f1, f2) : Fl.Ob) (g0, g1, g2) (h0, h1, h2) y0 = B := ⟨_, rfl⟩
 rw [hBI]
 unfold paI at hBI
 obtain ⟨q, hq⟩ : ∃ q, w.heap.size = q := ⟨_, rfl⟩
 obtain ⟨W1, hW1⟩ : ∃ W, w.alloc (.cells #[.string f0, .int .i64 f1, .string f2, .string g0, .int .i64 g1, .string g2, .string h0, .int .i64 h1, .string h2] 53) = W := ⟨_, rfl⟩
 have b1 : Below w.heap.size w W1 := by rw [<- hW1]; exact allocBelow _ _
 have r1 : Rf W1 q [.string f0, .int .i64 f1, .string f2, .string g0, .int .i64 g1, .string g2, .string h0, .int .i64 h1, .string h2] := by rw [<- hW1, <- hq]; exact Rf.new _ #[.string f0, .int .i64 f1, .string f2, .string g0, .int .i64 g1, .string g2, .string h0, .int .i64 h1, .string h2] _
 have zW : W1.heap.size = q + 1 := by rw [<- hW1, <- hq]; simp
 obtain ⟨W0, hW0⟩ : ∃ W, W1.alloc (.cells #[.nilFunc, .nilFunc, .nilFunc, .nilFunc, .nilFunc] 95) = W := ⟨_, rfl⟩
 have b0 : Below W1.heap.size W1 W0 := by rw [<- hW0]; exact allocBelow _ _
 have r0 : Rf W0 W1.heap.size [.nilFunc, .nilFunc, .nilFunc, .nilFunc, .nilFunc] := by rw [<- hW0]; exact Rf.new _ #[.nilFunc, .nilFunc, .nilFunc, .nilFunc, .nilFunc] _
 have z0 : W0.heap.size = W1.heap.size + 1 := by rw [<- hW0, World.size_alloc]
 have yy0 := r0.at_ 0 _ rfl
 have k0 := r0.fz 0
 have yy1 := r0.at_ 1 _ rfl
 have k1 := r0.fz 1
 have yy2 := r0.at_ 2 _ rfl
 have k2 := r0.fz 2
 have yy3 := r0.at_ 3 _ rfl
 have k3 := r0.fz 3
 have yy4 := r0.at_ 4 _ rfl
 have k4 := r0.fz 4
 have r2 := (((((r0).set (o := 0) (by simp) (.func (.func 54) #[.pointer (some ⟨Pm, 0, none⟩)] #[])).set (o := 1) (by simp) (.func (.func 54) #[.pointer (some ⟨Pm, 0, none⟩)] #[])).set (o := 2) (by simp) (.func (.func 55) #[.pointer (some ⟨Pm, 0, none⟩)] #[])).set (o := 3) (by simp) (.func (.func 56) #[.pointer (some ⟨Pm, 0, none⟩)] #[])).set (o := 4) (by simp) (.func (.func 57) #[.pointer (some ⟨Pm, 0, none⟩)] #[])
 have b2 := (((((b0).setCell (p := ⟨W1.heap.size, 0, none⟩) (Nat.le_refl _) (.func (.func 54) #[.pointer (some ⟨Pm, 0, none⟩)] #[])).setCell (p := ⟨W1.heap.size, 1, none⟩) (Nat.le_refl _) (.func (.func 54) #[.pointer (some ⟨Pm, 0, none⟩)] #[])).setCell (p := ⟨W1.heap.size, 2, none⟩) (Nat.le_refl _) (.func (.func 55) #[.pointer (some ⟨Pm, 0, none⟩)] #[])).setCell (p := ⟨W1.heap.size, 3, none⟩) (Nat.le_refl _) (.func (.func 56) #[.pointer (some ⟨Pm, 0, none⟩)] #[])).setCell (p := ⟨W1.heap.size, 4, none⟩) (Nat.le_refl _) (.func (.func 57) #[.pointer (some ⟨Pm, 0, none⟩)] #[])
 obtain ⟨W2, hW2⟩ : ∃ W, (((((W0).setCell ⟨W1.heap.size, 0, none⟩ (.func (.func 54) #[.pointer (some ⟨Pm, 0, none⟩)] #[])).setCell ⟨W1.heap.size, 1, none⟩ (.func (.func 54) #[.pointer (some ⟨Pm, 0, none⟩)] #[])).setCell ⟨W1.heap.size, 2, none⟩ (.func (.func 55) #[.pointer (some ⟨Pm, 0, none⟩)] #[])).setCell ⟨W1.heap.size, 3, none⟩ (.func (.func 56) #[.pointer (some ⟨Pm, 0, none⟩)] #[])).setCell ⟨W1.heap.size, 4, none⟩ (.func (.func 57) #[.pointer (some ⟨Pm, 0, none⟩)] #[]) = W := ⟨_, rfl⟩
 rw [hW2] at r2 b2
 have hW3 : Hid (_ = W2) := hW2
 clear hW2
 have rq : Rf W2 q [.string f0, .int .i64 f1, .string f2, .string g0, .int .i64 g1, .string g2, .string h0, .int .i64 h1, .string h2] := r1.below (by omega) b2
 have zV2 : W2.heap.size = W1.heap.size + 1 := by rw [<- hW3.out]; simp only [World.size_setCell]; exact z0
 have hqW : q < W1.heap.size := by omega
 have hwW : w.heap.size < W1.heap.size := by omega
 have hlt := h.lt
 have hqm := h.qm
 have hpq := h.pq
 have T2 := (h.below b1).below b2
 have TD := T2.below (below_drew (Below.refl _ _))
 have FD : Hid (TF P Q Pm vE vW vE vW w W2.drew) := (TF.ofBelow b1).trans ((TF.ofBelow b2).trans (TF.ofBelow (below_drew (Below.refl _ _))))
 have hEq : vE.ownBlock ≠ some q := fun e => by have := (h.sl.own.lt q e).2; omega
 have hWq : vW.ownBlock ≠ some q := fun e => by have := (h.ow.lt q e).2; omega
 have hEr : vE.ownBlock ≠ some W1.heap.size := fun e => by have := (h.sl.own.lt _ e).2; omega
 have hWr : vW.ownBlock ≠ some W1.heap.size := fun e => by have := (h.ow.lt _ e).2; omega
 have RD : Rf W2.drew q [.string f0, .int .i64 f1, .string f2, .string g0, .int .i64 g1, .string g2, .string h0, .int .i64 h1, .string h2] := rq.below (by omega) (below_drew (Below.refl _ _))
 have SD : Rf W2.drew W1.heap.size [.func (.func 54) #[.pointer (some ⟨Pm, 0, none⟩)] #[], .func (.func 54) #[.pointer (some ⟨Pm, 0, none⟩)] #[], .func (.func 55) #[.pointer (some ⟨Pm, 0, none⟩)] #[], .func (.func 56) #[.pointer (some ⟨Pm, 0, none⟩)] #[], .func (.func 57) #[.pointer (some ⟨Pm, 0, none⟩)] #[]] := r2.below (by omega) (below_drew (Below.refl _ _))
 have hMk := fun W => Fl.implMergeKind f0 f2 g0 g2 h0 h2 f1 g1 h1 W
 have n0 := r1.at_ 0 _ rfl
 clear b1 b2 r1 T2 h rq r2 zW r0 b0
 rcases mk_cases ((f0, f1, f2) : Fl.Ob) (g0, g1, g2) (h0, h1, h2) with hk | hk | hk | hk | hk
 ·have hCA := fun W T => takeOursC P Q Pm M E K vE vW f0 f2 g0 g2 h0 h2 f1 g1 h1 W T sg0 sg2 (by omega) (fun e => hLg e g1 g2)
  obtain ⟨RR, hRR⟩ : ∃ R, ((0 : Int), M, (if ((g0, g1, g2) : Fl.Ob) = Fl.onil then E else E ++ [entF (g0, g1, g2) 0]), K) = R := ⟨_, rfl⟩
  have BB : BI = RR := (hBI.symm.trans ((if_neg (by omega)).trans ((if_neg (by omega)).trans (if_neg (by omega))))).trans hRR
  simp only [hk] at hMk
  have e1 := congrArg (fun z => z.2.2.1) hRR
  have e2 := congrArg (fun z => z.2.2.2) hRR
  simp only [] at e1 e2
  rw [e1] at hCA
  have hR0 : Hid (RR.1 = 0) := by show _ = _; rw [<- hRR]
  have hR1 : Hid (RR.2.1 = M) := by show _ = _; rw [<- hRR]
  have hR2 : Hid (RR.2.2.2 = K) := by show _ = _; rw [<- hRR]
  have BB2 : Hid (BI = RR) := BB
  clear hBI hRR hk BB hsz hL hYY hLg hLh
  go_enter Tryz.func29, Tryz.ntmps29
  go_wp2
  rw [hW3.out]
  go_region_held (fun w' => w'.cell? ⟨W1.heap.size, 0, none⟩ = some (.func (.func 54) #[.pointer (some ⟨Pm, 0, none⟩)] #[]) /\ w'.cell? ⟨W1.heap.size, 1, none⟩ = some (.func (.func 54) #[.pointer (some ⟨Pm, 0, none⟩)] #[]) /\ w'.cell? ⟨W1.heap.size, 2, none⟩ = some (.func (.func 55) #[.pointer (some ⟨Pm, 0, none⟩)] #[]) /\ w'.cell? ⟨W1.heap.size, 3, none⟩ = some (.func (.func 56) #[.pointer (some ⟨Pm, 0, none⟩)] #[]) /\ w'.cell? ⟨W1.heap.size, 4, none⟩ = some (.func (.func 57) #[.pointer (some ⟨Pm, 0, none⟩)] #[]) /\ w'.cell? ⟨q, 0, none⟩ = some (.string f0) /\ w'.cell? ⟨q, 1, none⟩ = some (.int .i64 f1) /\ w'.cell? ⟨q, 2, none⟩ = some (.string f2) /\ w'.cell? ⟨q, 3, none⟩ = some (.string g0) /\ w'.cell? ⟨q, 4, none⟩ = some (.int .i64 g1) /\ w'.cell? ⟨q, 5, none⟩ = some (.string g2) /\ w'.cell? ⟨q, 6, none⟩ = some (.string h0) /\ w'.cell? ⟨q, 7, none⟩ = some (.int .i64 h1) /\ w'.cell? ⟨q, 8, none⟩ = some (.string h2)) (first | with_reducible exact s15 RD SD | with_reducible exact s15 RA SA | with_reducible exact s15 RB SB | exact s15 RB SB)
   ((first
    | (go_at_call 58; refine (hMk _).mono ?_; rintro e wa ⟨rfl, ba⟩; have zA : W2.heap.size <= wa.heap.size := ba.size; have RA := RD.below (by show q < W2.heap.size; omega) ba; have SA := SD.below (by show W1.heap.size < W2.heap.size; omega) ba; have TA := TD.below ba; have FA : Hid (TF P Q Pm vE vW vE vW w wa) := FD.out.trans (TF.ofBelow ba))
    | (go_at_call 54; refine (hCA _ TA).mono ?_; rintro e wb ⟨rfl, v', u', FB, TB⟩; have RB := FB.keepRf RA (by omega) (by omega) (by omega) (by omega) hEq hWq; have SB := FB.keepRf SA (by omega) (by omega) (by omega) (by omega) hEr hWr)))
  all_goals
   have HX : Hid (MR P Q Pm BI.1 BI.2.1 BI.2.2.1 BI.2.2.2 vE vW w (.returned (.int .i64 0)) wb) := by show MR _ _ _ _ _ _ _ _ _ _ _ _; rw [BB2.out]; exact ⟨by rw [hR0.out], v', u', FA.out.trans FB, fun e => by rw [hR1.out, hR2.out]; exact TB (by first | trivial | exact e | rfl)⟩
   clear TB FB RB SB TA RA SA hCA FA BB2
   go_wp2
   go_ret
   exact HX.out
 ·have hCA := fun W T => takeOursC P Q Pm M E K vE vW f0 f2 g0 g2 h0 h2 f1 g1 h1 W T sg0 sg2 (by omega) (fun e => hLg e g1 g2)
  obtain ⟨RR, hRR⟩ : ∃ R, ((0 : Int), M, (if ((g0, g1, g2) : Fl.Ob) = Fl.onil then E else E ++ [entF (g0, g1, g2) 0]), K) = R := ⟨_, rfl⟩
  have BB : BI = RR := (hBI.symm.trans ((if_neg (by omega)).trans ((if_neg (by omega)).trans (if_neg (by omega))))).trans hRR
  simp only [hk] at hMk
  have e1 := congrArg (fun z => z.2.2.1) hRR
  have e2 := congrArg (fun z => z.2.2.2) hRR
  simp only [] at e1 e2
  rw [e1] at hCA
  have hR0 : Hid (RR.1 = 0) := by show _ = _; rw [<- hRR]
  have hR1 : Hid (RR.2.1 = M) := by show _ = _; rw [<- hRR]
  have hR2 : Hid (RR.2.2.2 = K) := by show _ = _; rw [<- hRR]
  have BB2 : Hid (BI = RR) := BB
  clear hBI hRR hk BB hsz hL hYY hLg hLh
  go_enter Tryz.func29, Tryz.ntmps29
  go_wp2
  rw [hW3.out]
  go_region_held (fun w' => w'.cell? ⟨W1.heap.size, 0, none⟩ = some (.func (.func 54) #[.pointer (some ⟨Pm, 0, none⟩)] #[]) /\ w'.cell? ⟨W1.heap.size, 1, none⟩ = some (.func (.func 54) #[.pointer (some ⟨Pm, 0, none⟩)] #[]) /\ w'.cell? ⟨W1.heap.size, 2, none⟩ = some (.func (.func 55) #[.pointer (some ⟨Pm, 0, none⟩)] #[]) /\ w'.cell? ⟨W1.heap.size, 3, none⟩ = some (.func (.func 56) #[.pointer (some ⟨Pm, 0, none⟩)] #[]) /\ w'.cell? ⟨W1.heap.size, 4, none⟩ = some (.func (.func 57) #[.pointer (some ⟨Pm, 0, none⟩)] #[]) /\ w'.cell? ⟨q, 0, none⟩ = some (.string f0) /\ w'.cell? ⟨q, 1, none⟩ = some (.int .i64 f1) /\ w'.cell? ⟨q, 2, none⟩ = some (.string f2) /\ w'.cell? ⟨q, 3, none⟩ = some (.string g0) /\ w'.cell? ⟨q, 4, none⟩ = some (.int .i64 g1) /\ w'.cell? ⟨q, 5, none⟩ = some (.string g2) /\ w'.cell? ⟨q, 6, none⟩ = some (.string h0) /\ w'.cell? ⟨q, 7, none⟩ = some (.int .i64 h1) /\ w'.cell? ⟨q, 8, none⟩ = some (.string h2)) (first | with_reducible exact s15 RD SD | with_reducible exact s15 RA SA | with_reducible exact s15 RB SB | exact s15 RB SB)
   ((first
    | (go_at_call 58; refine (hMk _).mono ?_; rintro e wa ⟨rfl, ba⟩; have zA : W2.heap.size <= wa.heap.size := ba.size; have RA := RD.below (by show q < W2.heap.size; omega) ba; have SA := SD.below (by show W1.heap.size < W2.heap.size; omega) ba; have TA := TD.below ba; have FA : Hid (TF P Q Pm vE vW vE vW w wa) := FD.out.trans (TF.ofBelow ba))
    | (go_at_call 54; refine (hCA _ TA).mono ?_; rintro e wb ⟨rfl, v', u', FB, TB⟩; have RB := FB.keepRf RA (by omega) (by omega) (by omega) (by omega) hEq hWq; have SB := FB.keepRf SA (by omega) (by omega) (by omega) (by omega) hEr hWr)))
  all_goals
   have HX : Hid (MR P Q Pm BI.1 BI.2.1 BI.2.2.1 BI.2.2.2 vE vW w (.returned (.int .i64 0)) wb) := by show MR _ _ _ _ _ _ _ _ _ _ _ _; rw [BB2.out]; exact ⟨by rw [hR0.out], v', u', FA.out.trans FB, fun e => by rw [hR1.out, hR2.out]; exact TB (by first | trivial | exact e | rfl)⟩
   clear TB FB RB SB TA RA SA hCA FA BB2
   go_wp2
   go_ret
   exact HX.out
 ·have hCA := fun W T => takeTheirsC P Q Pm M E K vE vW f0 f2 g0 g2 h0 h2 f1 g1 h1 W T sh0 sh2 (by omega) (fun e => hLh e h1 h2)
  obtain ⟨RR, hRR⟩ : ∃ R, ((0 : Int), M, (if ((h0, h1, h2) : Fl.Ob) = Fl.onil then E else E ++ [entF (h0, h1, h2) 0]), K) = R := ⟨_, rfl⟩
  have BB : BI = RR := (hBI.symm.trans ((if_neg (by omega)).trans ((if_neg (by omega)).trans (if_pos hk)))).trans hRR
  simp only [hk] at hMk
  have e1 := congrArg (fun z => z.2.2.1) hRR
  have e2 := congrArg (fun z => z.2.2.2) hRR
  simp only [] at e1 e2
  rw [e1] at hCA
  have hR0 : Hid (RR.1 = 0) := by show _ = _; rw [<- hRR]
  have hR1 : Hid (RR.2.1 = M) := by show _ = _; rw [<- hRR]
  have hR2 : Hid (RR.2.2.2 = K) := by show _ = _; rw [<- hRR]
  have BB2 : Hid (BI = RR) := BB
  clear hBI hRR hk BB hsz hL hYY hLg hLh
  go_enter Tryz.func29, Tryz.ntmps29
  go_wp2
  rw [hW3.out]
  go_region_held (fun w' => w'.cell? ⟨W1.heap.size, 0, none⟩ = some (.func (.func 54) #[.pointer (some ⟨Pm, 0, none⟩)] #[]) /\ w'.cell? ⟨W1.heap.size, 1, none⟩ = some (.func (.func 54) #[.pointer (some ⟨Pm, 0, none⟩)] #[]) /\ w'.cell? ⟨W1.heap.size, 2, none⟩ = some (.func (.func 55) #[.pointer (some ⟨Pm, 0, none⟩)] #[]) /\ w'.cell? ⟨W1.heap.size, 3, none⟩ = some (.func (.func 56) #[.pointer (some ⟨Pm, 0, none⟩)] #[]) /\ w'.cell? ⟨W1.heap.size, 4, none⟩ = some (.func (.func 57) #[.pointer (some ⟨Pm, 0, none⟩)] #[]) /\ w'.cell? ⟨q, 0, none⟩ = some (.string f0) /\ w'.cell? ⟨q, 1, none⟩ = some (.int .i64 f1) /\ w'.cell? ⟨q, 2, none⟩ = some (.string f2) /\ w'.cell? ⟨q, 3, none⟩ = some (.string g0) /\ w'.cell? ⟨q, 4, none⟩ = some (.int .i64 g1) /\ w'.cell? ⟨q, 5, none⟩ = some (.string g2) /\ w'.cell? ⟨q, 6, none⟩ = some (.string h0) /\ w'.cell? ⟨q, 7, none⟩ = some (.int .i64 h1) /\ w'.cell? ⟨q, 8, none⟩ = some (.string h2)) (first | with_reducible exact s15 RD SD | with_reducible exact s15 RA SA | with_reducible exact s15 RB SB | exact s15 RB SB)
   ((first
    | (go_at_call 58; refine (hMk _).mono ?_; rintro e wa ⟨rfl, ba⟩; have zA : W2.heap.size <= wa.heap.size := ba.size; have RA := RD.below (by show q < W2.heap.size; omega) ba; have SA := SD.below (by show W1.heap.size < W2.heap.size; omega) ba; have TA := TD.below ba; have FA : Hid (TF P Q Pm vE vW vE vW w wa) := FD.out.trans (TF.ofBelow ba))
    | (go_at_call 55; refine (hCA _ TA).mono ?_; rintro e wb ⟨rfl, v', u', FB, TB⟩; have RB := FB.keepRf RA (by omega) (by omega) (by omega) (by omega) hEq hWq; have SB := FB.keepRf SA (by omega) (by omega) (by omega) (by omega) hEr hWr)))
  all_goals
   have HX : Hid (MR P Q Pm BI.1 BI.2.1 BI.2.2.1 BI.2.2.2 vE vW w (.returned (.int .i64 0)) wb) := by show MR _ _ _ _ _ _ _ _ _ _ _ _; rw [BB2.out]; exact ⟨by rw [hR0.out], v', u', FA.out.trans FB, fun e => by rw [hR1.out, hR2.out]; exact TB (by first | trivial | exact e | rfl)⟩
   clear TB FB RB SB TA RA SA hCA FA BB2
   go_wp2
   go_ret
   exact HX.out
 ·have hCA := fun W T => mergeBothC P Q Pm M E K vE vW f0 f2 g0 g2 h0 h2 y0 y2 f1 g1 h1 y1 W T hz hs hsz hn hkn hL (hYY (.inl hk)).1 (hYY (.inl hk)).2.1 (hYY (.inl hk)).2.2 (hLg (mk_three hk)) sg0 md_size sg2 sh2
  obtain ⟨RR, hRR⟩ : ∃ R, boI M E K ((f0, f1, f2) : Fl.Ob) (g0, g1, g2) (h0, h1, h2) y0 = R := ⟨_, rfl⟩
  have BB : BI = RR := (hBI.symm.trans (if_pos hk)).trans hRR
  simp only [hk] at hMk
  rw [hRR] at hCA
  have BB2 : Hid (BI = RR) := BB
  clear hBI hRR hk BB hsz hL hYY hLg hLh
  go_enter Tryz.func29, Tryz.ntmps29
  go_wp2
  rw [hW3.out]
  go_region_held (fun w' => w'.cell? ⟨W1.heap.size, 0, none⟩ = some (.func (.func 54) #[.pointer (some ⟨Pm, 0, none⟩)] #[]) /\ w'.cell? ⟨W1.heap.size, 1, none⟩ = some (.func (.func 54) #[.pointer (some ⟨Pm, 0, none⟩)] #[]) /\ w'.cell? ⟨W1.heap.size, 2, none⟩ = some (.func (.func 55) #[.pointer (some ⟨Pm, 0, none⟩)] #[]) /\ w'.cell? ⟨W1.heap.size, 3, none⟩ = some (.func (.func 56) #[.pointer (some ⟨Pm, 0, none⟩)] #[]) /\ w'.cell? ⟨W1.heap.size, 4, none⟩ = some (.func (.func 57) #[.pointer (some ⟨Pm, 0, none⟩)] #[]) /\ w'.cell? ⟨q, 0, none⟩ = some (.string f0) /\ w'.cell? ⟨q, 1, none⟩ = some (.int .i64 f1) /\ w'.cell? ⟨q, 2, none⟩ = some (.string f2) /\ w'.cell? ⟨q, 3, none⟩ = some (.string g0) /\ w'.cell? ⟨q, 4, none⟩ = some (.int .i64 g1) /\ w'.cell? ⟨q, 5, none⟩ = some (.string g2) /\ w'.cell? ⟨q, 6, none⟩ = some (.string h0) /\ w'.cell? ⟨q, 7, none⟩ = some (.int .i64 h1) /\ w'.cell? ⟨q, 8, none⟩ = some (.string h2)) (first | with_reducible exact s15 RD SD | with_reducible exact s15 RA SA | with_reducible exact s15 RB SB | exact s15 RB SB)
   ((first
    | (go_at_call 58; refine (hMk _).mono ?_; rintro e wa ⟨rfl, ba⟩; have zA : W2.heap.size <= wa.heap.size := ba.size; have RA := RD.below (by show q < W2.heap.size; omega) ba; have SA := SD.below (by show W1.heap.size < W2.heap.size; omega) ba; have TA := TD.below ba; have FA : Hid (TF P Q Pm vE vW vE vW w wa) := FD.out.trans (TF.ofBelow ba))
    | (go_at_call 56; refine (hCA _ TA).mono ?_; rintro e wb ⟨rfl, v', u', FB, TB⟩; have RB := FB.keepRf RA (by omega) (by omega) (by omega) (by omega) hEq hWq; have SB := FB.keepRf SA (by omega) (by omega) (by omega) (by omega) hEr hWr)))
  all_goals
   have HX : Hid (MR P Q Pm BI.1 BI.2.1 BI.2.2.1 BI.2.2.2 vE vW w (.returned (.int .i64 RR.1)) wb) := by show MR _ _ _ _ _ _ _ _ _ _ _ _; rw [BB2.out]; exact ⟨rfl, v', u', FA.out.trans FB, TB⟩
   clear TB FB RB SB TA RA SA hCA FA BB2
   go_wp2
   go_ret
   exact HX.out
 ·have hCA := fun W T => keepC P Q Pm M E K vE vW f0 f2 g0 g2 h0 h2 y0 y2 f1 g1 h1 y1 W T hz hs hsz hn hkn hL (hYY (.inr hk)).1 (hYY (.inr hk)).2.1 (hYY (.inr hk)).2.2
  obtain ⟨RR, hRR⟩ : ∃ R, ((0 : Int), M, E ++ stgK [((f0, f1, f2) : Fl.Ob), (g0, g1, g2), (h0, h1, h2)] 3, K ++ [(y0, tx M (lef (g0, g1, g2) (h0, h1, h2)))]) = R := ⟨_, rfl⟩
  have BB : BI = RR := (hBI.symm.trans ((if_neg (by omega)).trans (if_pos hk))).trans hRR
  simp only [hk] at hMk
  have e1 := congrArg (fun z => z.2.2.1) hRR
  have e2 := congrArg (fun z => z.2.2.2) hRR
  simp only [] at e1 e2
  rw [e1] at hCA
  rw [e2] at hCA
  have hR0 : Hid (RR.1 = 0) := by show _ = _; rw [<- hRR]
  have hR1 : Hid (RR.2.1 = M) := by show _ = _; rw [<- hRR]
  have BB2 : Hid (BI = RR) := BB
  clear hBI hRR hk BB hsz hL hYY hLg hLh
  go_enter Tryz.func29, Tryz.ntmps29
  go_wp2
  rw [hW3.out]
  go_region_held (fun w' => w'.cell? ⟨W1.heap.size, 0, none⟩ = some (.func (.func 54) #[.pointer (some ⟨Pm, 0, none⟩)] #[]) /\ w'.cell? ⟨W1.heap.size, 1, none⟩ = some (.func (.func 54) #[.pointer (some ⟨Pm, 0, none⟩)] #[]) /\ w'.cell? ⟨W1.heap.size, 2, none⟩ = some (.func (.func 55) #[.pointer (some ⟨Pm, 0, none⟩)] #[]) /\ w'.cell? ⟨W1.heap.size, 3, none⟩ = some (.func (.func 56) #[.pointer (some ⟨Pm, 0, none⟩)] #[]) /\ w'.cell? ⟨W1.heap.size, 4, none⟩ = some (.func (.func 57) #[.pointer (some ⟨Pm, 0, none⟩)] #[]) /\ w'.cell? ⟨q, 0, none⟩ = some (.string f0) /\ w'.cell? ⟨q, 1, none⟩ = some (.int .i64 f1) /\ w'.cell? ⟨q, 2, none⟩ = some (.string f2) /\ w'.cell? ⟨q, 3, none⟩ = some (.string g0) /\ w'.cell? ⟨q, 4, none⟩ = some (.int .i64 g1) /\ w'.cell? ⟨q, 5, none⟩ = some (.string g2) /\ w'.cell? ⟨q, 6, none⟩ = some (.string h0) /\ w'.cell? ⟨q, 7, none⟩ = some (.int .i64 h1) /\ w'.cell? ⟨q, 8, none⟩ = some (.string h2)) (first | with_reducible exact s15 RD SD | with_reducible exact s15 RA SA | with_reducible exact s15 RB SB | exact s15 RB SB)
   ((first
    | (go_at_call 58; refine (hMk _).mono ?_; rintro e wa ⟨rfl, ba⟩; have zA : W2.heap.size <= wa.heap.size := ba.size; have RA := RD.below (by show q < W2.heap.size; omega) ba; have SA := SD.below (by show W1.heap.size < W2.heap.size; omega) ba; have TA := TD.below ba; have FA : Hid (TF P Q Pm vE vW vE vW w wa) := FD.out.trans (TF.ofBelow ba))
    | (go_at_call 57; refine (hCA _ TA).mono ?_; rintro e wb ⟨rfl, v', u', FB, TB⟩; have RB := FB.keepRf RA (by omega) (by omega) (by omega) (by omega) hEq hWq; have SB := FB.keepRf SA (by omega) (by omega) (by omega) (by omega) hEr hWr)))
  all_goals
   have HX : Hid (MR P Q Pm BI.1 BI.2.1 BI.2.2.1 BI.2.2.2 vE vW w (.returned (.int .i64 0)) wb) := by show MR _ _ _ _ _ _ _ _ _ _ _ _; rw [BB2.out]; exact ⟨by rw [hR0.out], v', u', FA.out.trans FB, fun e => by rw [hR1.out]; exact TB (by first | trivial | exact e | rfl)⟩
   clear TB FB RB SB TA RA SA hCA FA BB2
   go_wp2
   go_ret
   exact HX.out
end Go.Proofs.YtcfnkndbhpdfnaaGreatDoor.Tm
