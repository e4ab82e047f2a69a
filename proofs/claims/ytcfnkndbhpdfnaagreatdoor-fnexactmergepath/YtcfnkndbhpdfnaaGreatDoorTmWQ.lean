/- A path that both sides have: merged by the program. No statement is proved here. -/
import Derived.Test.YtcfnkndbhpdfnaaGreatDoorTmDQ
set_option linter.unusedVariables false
namespace Go.Proofs.YtcfnkndbhpdfnaaGreatDoor.Tm
open Go.ChangeShapes Go.WideShapes Go.ChangeAt Go.RowKit
open Go.Proofs.YtcfnkndbhpdfnaaGreatDoor.Pv
structure V3 (W1 : World) (f g h : Fl.Ob) (s t u : Value) (wx : World) : Prop where
 ex : ∃ x y z, s = .pointer (some ⟨x, 0, none⟩) /\ t = .pointer (some ⟨y, 0, none⟩) /\ u = .pointer (some ⟨z, 0, none⟩) /\ Rf wx x [.string f.1, .int .i64 f.2.1, .string f.2.2] /\ Rf wx y [.string g.1, .int .i64 g.2.1, .string g.2.2] /\ Rf wx z [.string h.1, .int .i64 h.2.1, .string h.2.2] /\ W1.heap.size <= x /\ W1.heap.size <= y /\ W1.heap.size <= z /\ x < wx.heap.size /\ y < wx.heap.size /\ z < wx.heap.size
 bel : Below W1.heap.size W1 wx
theorem al3 (W : World) (a0 a1 a2 b0 b1 b2 d0 d1 d2 : Value) (t : TypeId) : Rf (((W.alloc (.cells #[a0, a1, a2] t)).alloc (.cells #[b0, b1, b2] t)).alloc (.cells #[d0, d1, d2] t)).drew W.heap.size [a0, a1, a2] /\ Rf (((W.alloc (.cells #[a0, a1, a2] t)).alloc (.cells #[b0, b1, b2] t)).alloc (.cells #[d0, d1, d2] t)).drew (W.heap.size + 1) [b0, b1, b2] /\ Rf (((W.alloc (.cells #[a0, a1, a2] t)).alloc (.cells #[b0, b1, b2] t)).alloc (.cells #[d0, d1, d2] t)).drew (W.heap.size + 1 + 1) [d0, d1, d2] /\ Below W.heap.size W (((W.alloc (.cells #[a0, a1, a2] t)).alloc (.cells #[b0, b1, b2] t)).alloc (.cells #[d0, d1, d2] t)).drew /\ (((W.alloc (.cells #[a0, a1, a2] t)).alloc (.cells #[b0, b1, b2] t)).alloc (.cells #[d0, d1, d2] t)).drew.heap.size = W.heap.size + 1 + 1 + 1 := by
 have e : (((W.alloc (.cells #[a0, a1, a2] t)).alloc (.cells #[b0, b1, b2] t)).alloc (.cells #[d0, d1, d2] t)).heap.size = W.heap.size + 1 + 1 + 1 := by simp
 obtain ⟨V, hV⟩ : ∃ V, ((W.alloc (.cells #[a0, a1, a2] t)).alloc (.cells #[b0, b1, b2] t)).alloc (.cells #[d0, d1, d2] t) = V := ⟨_, rfl⟩
 have x0 : Rf V W.heap.size [a0, a1, a2] := by
  rw [<- hV]; exact ((Rf.new W #[a0, a1, a2] _).below (by simp) (allocBelow _ _)).below (by simp; omega) (allocBelow _ _)
 have x1 : Rf V (W.heap.size + 1) [b0, b1, b2] := by
  have y := (Rf.new (W.alloc (.cells #[a0, a1, a2] t)) #[b0, b1, b2] t).below (by simp) (allocBelow _ (.cells #[d0, d1, d2] t))
  rw [hV, World.size_alloc] at y; exact y
 have x2 : Rf V (W.heap.size + 1 + 1) [d0, d1, d2] := by
  have y := Rf.new ((W.alloc (.cells #[a0, a1, a2] t)).alloc (.cells #[b0, b1, b2] t)) #[d0, d1, d2] t
  rw [hV, World.size_alloc, World.size_alloc] at y; exact y
 have bV : Below W.heap.size W V := by
  rw [<- hV]; exact (((Below.refl _ _).alloc (Nat.le_refl _) _).alloc (by simp) _).alloc (by simp; omega) _
 rw [hV] at e ⊢
 exact ⟨x0.below (by omega) (below_drew (Below.refl _ _)), x1.below (by omega) (below_drew (Below.refl _ _)), x2.below (by omega) (below_drew (Below.refl _ _)), bV.drew, e⟩
theorem v3_0 {W1 : World} {f0 f2 g0 g2 h0 h2 : ByteArray} {f1 g1 h1 : Int} {t : TypeId} : V3 W1 (f0, f1, f2) (g0, g1, g2) (h0, h1, h2) (.pointer (some ⟨W1.heap.size, 0, none⟩)) (.pointer (some ⟨W1.heap.size + 1, 0, none⟩)) (.pointer (some ⟨W1.heap.size + 1 + 1, 0, none⟩)) ((((W1.alloc (.cells #[.string f0, .int .i64 f1, .string f2] t)).alloc (.cells #[.string g0, .int .i64 g1, .string g2] t)).alloc (.cells #[.string h0, .int .i64 h1, .string h2] t)).drew) := by
 obtain ⟨r0, r1, r2, b, z⟩ := al3 W1 (.string f0) (.int .i64 f1) (.string f2) (.string g0) (.int .i64 g1) (.string g2) (.string h0) (.int .i64 h1) (.string h2) t
 exact ⟨⟨_, _, _, rfl, rfl, rfl, r0, r1, r2, by omega, by omega, by omega, by omega, by omega, by omega⟩, b⟩
theorem v3_1 {W1 : World} {f0 f2 g0 g2 h0 h2 : ByteArray} {f1 g1 h1 : Int} {t : TypeId} : V3 W1 (f0, f1, f2) (g0, g1, g2) (h0, h1, h2) (.pointer (some ⟨W1.heap.size, 0, none⟩)) (.pointer (some ⟨W1.heap.size + 1 + 1, 0, none⟩)) (.pointer (some ⟨W1.heap.size + 1, 0, none⟩)) ((((W1.alloc (.cells #[.string f0, .int .i64 f1, .string f2] t)).alloc (.cells #[.string h0, .int .i64 h1, .string h2] t)).alloc (.cells #[.string g0, .int .i64 g1, .string g2] t)).drew) := by
 obtain ⟨r0, r1, r2, b, z⟩ := al3 W1 (.string f0) (.int .i64 f1) (.string f2) (.string h0) (.int .i64 h1) (.string h2) (.string g0) (.int .i64 g1) (.string g2) t
 exact ⟨⟨_, _, _, rfl, rfl, rfl, r0, r2, r1, by omega, by omega, by omega, by omega, by omega, by omega⟩, b⟩
theorem v3_2 {W1 : World} {f0 f2 g0 g2 h0 h2 : ByteArray} {f1 g1 h1 : Int} {t : TypeId} : V3 W1 (f0, f1, f2) (g0, g1, g2) (h0, h1, h2) (.pointer (some ⟨W1.heap.size + 1, 0, none⟩)) (.pointer (some ⟨W1.heap.size, 0, none⟩)) (.pointer (some ⟨W1.heap.size + 1 + 1, 0, none⟩)) ((((W1.alloc (.cells #[.string g0, .int .i64 g1, .string g2] t)).alloc (.cells #[.string f0, .int .i64 f1, .string f2] t)).alloc (.cells #[.string h0, .int .i64 h1, .string h2] t)).drew) := by
 obtain ⟨r0, r1, r2, b, z⟩ := al3 W1 (.string g0) (.int .i64 g1) (.string g2) (.string f0) (.int .i64 f1) (.string f2) (.string h0) (.int .i64 h1) (.string h2) t
 exact ⟨⟨_, _, _, rfl, rfl, rfl, r1, r0, r2, by omega, by omega, by omega, by omega, by omega, by omega⟩, b⟩
theorem v3_3 {W1 : World} {f0 f2 g0 g2 h0 h2 : ByteArray} {f1 g1 h1 : Int} {t : TypeId} : V3 W1 (f0, f1, f2) (g0, g1, g2) (h0, h1, h2) (.pointer (some ⟨W1.heap.size + 1 + 1, 0, none⟩)) (.pointer (some ⟨W1.heap.size, 0, none⟩)) (.pointer (some ⟨W1.heap.size + 1, 0, none⟩)) ((((W1.alloc (.cells #[.string g0, .int .i64 g1, .string g2] t)).alloc (.cells #[.string h0, .int .i64 h1, .string h2] t)).alloc (.cells #[.string f0, .int .i64 f1, .string f2] t)).drew) := by
 obtain ⟨r0, r1, r2, b, z⟩ := al3 W1 (.string g0) (.int .i64 g1) (.string g2) (.string h0) (.int .i64 h1) (.string h2) (.string f0) (.int .i64 f1) (.string f2) t
 exact ⟨⟨_, _, _, rfl, rfl, rfl, r2, r0, r1, by omega, by omega, by omega, by omega, by omega, by omega⟩, b⟩
theorem v3_4 {W1 : World} {f0 f2 g0 g2 h0 h2 : ByteArray} {f1 g1 h1 : Int} {t : TypeId} : V3 W1 (f0, f1, f2) (g0, g1, g2) (h0, h1, h2) (.pointer (some ⟨W1.heap.size + 1, 0, none⟩)) (.pointer (some ⟨W1.heap.size + 1 + 1, 0, none⟩)) (.pointer (some ⟨W1.heap.size, 0, none⟩)) ((((W1.alloc (.cells #[.string h0, .int .i64 h1, .string h2] t)).alloc (.cells #[.string f0, .int .i64 f1, .string f2] t)).alloc (.cells #[.string g0, .int .i64 g1, .string g2] t)).drew) := by
 obtain ⟨r0, r1, r2, b, z⟩ := al3 W1 (.string h0) (.int .i64 h1) (.string h2) (.string f0) (.int .i64 f1) (.string f2) (.string g0) (.int .i64 g1) (.string g2) t
 exact ⟨⟨_, _, _, rfl, rfl, rfl, r1, r2, r0, by omega, by omega, by omega, by omega, by omega, by omega⟩, b⟩
theorem v3_5 {W1 : World} {f0 f2 g0 g2 h0 h2 : ByteArray} {f1 g1 h1 : Int} {t : TypeId} : V3 W1 (f0, f1, f2) (g0, g1, g2) (h0, h1, h2) (.pointer (some ⟨W1.heap.size + 1 + 1, 0, none⟩)) (.pointer (some ⟨W1.heap.size + 1, 0, none⟩)) (.pointer (some ⟨W1.heap.size, 0, none⟩)) ((((W1.alloc (.cells #[.string h0, .int .i64 h1, .string h2] t)).alloc (.cells #[.string g0, .int .i64 g1, .string g2] t)).alloc (.cells #[.string f0, .int .i64 f1, .string f2] t)).drew) := by
 obtain ⟨r0, r1, r2, b, z⟩ := al3 W1 (.string h0) (.int .i64 h1) (.string h2) (.string g0) (.int .i64 g1) (.string g2) (.string f0) (.int .i64 f1) (.string f2) t
 exact ⟨⟨_, _, _, rfl, rfl, rfl, r2, r1, r0, by omega, by omega, by omega, by omega, by omega, by omega⟩, b⟩
def boI (M : List Ob) (E : List En.Ob) (K : List Wk.Ob) (f g h : Fl.Ob) (y0 : ByteArray) : Int × List Ob × List En.Ob × List Wk.Ob :=
 let a := agM f.2.1 g.2.1 h.2.1
 let s := agS f.2.2 g.2.2 h.2.2
 let m := md3 (tx M f) (tx M g) (tx M h)
 let F := fun t => (E ++ stgK [f, g, h] 3, K ++ [(y0, t)])
 if s.2 = true then (if a.2 = true then (0, M, (if ((g.1, a.1, s.1) : Fl.Ob) = Fl.onil then E else E ++ [entF (g.1, a.1, s.1) 0]), K) else (0, M, F (tx M g)))
 else if ¬ m.1 = 0 then (0, M, F (tx M g))
 else if ¬ m.2.1 = 0 then (0, M, F m.2.2)
 else if ¬ aC M 1 m.2.2 = 0 then (aC M 1 m.2.2, M, E, K)
 else if a.2 = true then (0, aL M 1 m.2.2, (if ((g.1, a.1, aS M 1 m.2.2) : Fl.Ob) = Fl.onil then E else E ++ [entF (g.1, a.1, aS M 1 m.2.2) 0]), K) else (0, aL M 1 m.2.2, F m.2.2)
theorem s4 {w : World} {y Pm : Nat} {v b0 b1 b2 : Value} (k : Rf w y [b0, b1, b2]) (hc : w.cell? ⟨Pm, 0, none⟩ = some v) : w.cell? ⟨Pm, 0, none⟩ = some v /\ w.cell? ⟨y, 0, none⟩ = some b0 /\ w.cell? ⟨y, 1, none⟩ = some b1 /\ w.cell? ⟨y, 2, none⟩ = some b2 := ⟨hc, k.at_ 0 _ rfl, k.at_ 1 _ rfl, k.at_ 2 _ rfl⟩
theorem aS_size (l : List Ob) (k : Int) (d : ByteArray) : (aS l k d).size <= 1048576 := by
 unfold aS
 split
 ·unfold pS
  split
  ·have := idB_size (idB_idN k d)
   omega
  ·exact Nat.zero_le _
 ·exact Nat.zero_le _
theorem TS.stored {P Q Pm : Nat} {M L : List Ob} {E : List En.Ob} {K : List Wk.Ob} {vE vW : Value} {w w' : World} (h : TS P Q Pm M E K vE vW w) (hR : Rf w' (P + 1) [.map (some P), .int .i64 (L.length : Int)]) (hS : Sh w' P L) (hb : Below P w w') (hz : w.heap.size <= w'.heap.size) (hp : PK P (P + 1) w w') : TS P Q Pm L E K vE vW w' /\ TF P Q Pm vE vW vE vW w w' := by
 have e1 := h.pq
 have e2 := h.qm
 have e3 := h.lt
 refine ⟨⟨hR, hS, ⟨h.sl.rf.ofBlock (hp _ (by omega) (by omega) (by omega)), ownKeep h.sl.own hz (fun k hk => ?_), by omega⟩, h.rm.ofBlock (hp _ e3 (by omega) (by omega)), ownKeep h.ow hz (fun k hk => ?_), e1, e2, by omega, h.eM, h.wQ, h.wM, h.we⟩, ⟨hb.os, hb.tape, hb.output, hz, fun k h1 h2 h3 _ _ _ _ => hp k h1 h2 h3, .inl rfl, .inl rfl⟩⟩
 ·have := h.sl.own.lt k hk
  exact hp k this.2 (by omega) (by omega)
 ·have := h.ow.lt k hk
  exact hp k this.2 (by omega) (by omega)
theorem ag_size {b o t : ByteArray} (h1 : o.size <= 1048576) (h2 : t.size <= 1048576) : (agS b o t).1.size <= 1048576 := by
 unfold agS
 split
 ·exact h1
 ·split
  ·exact h2
  ·exact Nat.zero_le _
set_option maxRecDepth 20000 in
set_option maxHeartbeats 8000000 in
theorem mergeBothC (P Q Pm : Nat) (M : List Ob) (E : List En.Ob) (K : List Wk.Ob) (vE vW : Value) (f0 f2 g0 g2 h0 h2 y0 y2 : ByteArray) (f1 g1 h1 y1 : Int) (w : World) (h : TS P Q Pm M E K vE vW w) (hz : sf M = 0) (hs : SmallO M)
  (hsz : ∀ k, k < 3 -> ([((f0, f1, f2) : Fl.Ob), (g0, g1, g2), (h0, h1, h2)].getD k Fl.onil).1.size <= 1048576 /\ ([((f0, f1, f2) : Fl.Ob), (g0, g1, g2), (h0, h1, h2)].getD k Fl.onil).2.2.size <= 1048576) (hn : E.length <= 1048000) (hkn : K.length <= 1048000)
  (hL : ∀ k, k < 3 -> ¬ [((f0, f1, f2) : Fl.Ob), (g0, g1, g2), (h0, h1, h2)].getD k Fl.onil = Fl.onil -> En.Last (E ++ stgK [((f0, f1, f2) : Fl.Ob), (g0, g1, g2), (h0, h1, h2)] k) (entF ([((f0, f1, f2) : Fl.Ob), (g0, g1, g2), (h0, h1, h2)].getD k Fl.onil) ((k : Int) + 1)))
  (hY : 0 < (som [((f0, f1, f2) : Fl.Ob), (g0, g1, g2), (h0, h1, h2)]).length) (hY2 : (som [((f0, f1, f2) : Fl.Ob), (g0, g1, g2), (h0, h1, h2)]).getD 0 Fl.onil = (y0, y1, y2)) (hy0 : y0.size <= 1048576) (hL0 : ∀ (m : Int) (s : ByteArray), En.Last E (g0, 0, m, s)) (hs0 : g0.size <= 1048576) (hmd : (md3 (tx M (f0, f1, f2)) (tx M (g0, g1, g2)) (tx M (h0, h1, h2))).1 = 0 -> (md3 (tx M (f0, f1, f2)) (tx M (g0, g1, g2)) (tx M (h0, h1, h2))).2.2.size <= 1048576) (hs2 : g2.size <= 1048576) (hs3 : h2.size <= 1048576) :
  Calls Tryz.prog 56 #[.pointer (some ⟨Pm, 0, none⟩), .agg #[.string f0, .int .i64 f1, .string f2, .string g0, .int .i64 g1, .string g2, .string h0, .int .i64 h1, .string h2]] w fun e w' => MR P Q Pm (boI M E K (f0, f1, f2) (g0, g1, g2) (h0, h1, h2) y0).1 (boI M E K (f0, f1, f2) (g0, g1, g2) (h0, h1, h2) y0).2.1 (boI M E K (f0, f1, f2) (g0, g1, g2) (h0, h1, h2) y0).2.2.1 (boI M E K (f0, f1, f2) (g0, g1, g2) (h0, h1, h2) y0).2.2.2 vE vW w e w' := by
 obtain ⟨AM, hAM⟩ : ∃ A, agM f1 g1 h1 = A := ⟨_, rfl⟩
 obtain ⟨AS, hAS⟩ : ∃ A, agS f2 g2 h2 = A := ⟨_, rfl⟩
 obtain ⟨MD, hMD⟩ : ∃ A, md3 (tx M (f0, f1, f2)) (tx M (g0, g1, g2)) (tx M (h0, h1, h2)) = A := ⟨_, rfl⟩
 obtain ⟨m1, mb⟩ := AM
 obtain ⟨s1, sb⟩ := AS
 obtain ⟨mc, mn, mt⟩ := MD
 have hsS : s1.size <= 1048576 := by
  have e : s1 = (agS f2 g2 h2).1 := by rw [hAS]
  rw [e]; exact ag_size hs2 hs3
 have hAgI := fun W => agreedI f1 g1 h1 W
 have hAgS := fun W => agreedS f2 g2 h2 W
 obtain ⟨X, hX⟩ : ∃ X, tx M (g0, g1, g2) = X := ⟨_, rfl⟩
 have hXs : X.size <= 1048576 := by rw [<- hX]; exact tx_size hs _
 have hAd := fun d W (hd : d.size <= 1048576) (T : TS P Q Pm M E K vE vW W) => addC (P + 1) P M 1 d W T.rp (by omega) (by have := T.pq; have := T.qm; have := T.lt; omega) T.sh hd
 have hAz := aS_size M 1
 have hMg := fun W T => mergedTextsC P Q Pm M E K vE vW f0 f2 g0 g2 h0 h2 f1 g1 h1 W T hz hs
 have hTO := fun W (T : TS P Q Pm M E K vE vW W) => textOfC (P + 1) P M (.int .i64 (M.length : Int)) g0 g2 g1 W hz T.rp (by have := T.pq; have := T.qm; have := T.lt; omega) T.sh
 rw [hX] at hTO
 have hCl := fun M Y W (hYs : Y.size <= 281474976710656) T => clashC P Q Pm M E K vE vW f0 f2 g0 g2 h0 h2 y0 y2 Y f1 g1 h1 y1 W T hsz hn hkn hL hY hY2 hy0 hYs
 have hSt := fun M m s W (hss : s.size <= 1048576) T => settleC P Q Pm M E K vE vW g0 s m W T hs0 hss (by omega) (fun _ => hL0 m s)
 rw [hAM] at hAgI
 rw [hAS] at hAgS
 rw [hMD] at hMg hmd
 simp only [] at hAgI hAgS hMg hmd
 obtain ⟨BI, hBI⟩ : ∃ B, boI M E K (f0, f1, f2) (g0, g1, g2) (h0, h1, h2) y0 = B := ⟨_, rfl⟩
 rw [hBI]
 unfold boI at hBI
 simp only [hAM, hAS, hMD] at hBI
 simp only [hX] at hBI
 clear hAM hAS hMD hX hsz hL hY hY2 hL0
 obtain ⟨q, hq⟩ : ∃ q, w.heap.size = q := ⟨_, rfl⟩
 obtain ⟨W1, hW1⟩ : ∃ W, w.alloc (.cells #[.string f0, .int .i64 f1, .string f2, .string g0, .int .i64 g1, .string g2, .string h0, .int .i64 h1, .string h2] 53) = W := ⟨_, rfl⟩
 have b1 : Below w.heap.size w W1 := by rw [<- hW1]; exact allocBelow _ _
 have r1 : Rf W1 q [.string f0, .int .i64 f1, .string f2, .string g0, .int .i64 g1, .string g2, .string h0, .int .i64 h1, .string h2] := by rw [<- hW1, <- hq]; exact Rf.new _ #[.string f0, .int .i64 f1, .string f2, .string g0, .int .i64 g1, .string g2, .string h0, .int .i64 h1, .string h2] _
 have T1 := h.below b1
 have F1 : Hid (TF P Q Pm vE vW vE vW w W1) := TF.ofBelow b1
 have zW : W1.heap.size = q + 1 := by rw [<- hW1, <- hq]; simp
 have hq0 := hq
 have hlt := h.lt
 have hqm := h.qm
 have hpq := h.pq
 have hEq : vE.ownBlock ≠ some q := fun e => by have := (h.sl.own.lt q e).2; omega
 have hWq : vW.ownBlock ≠ some q := fun e => by have := (h.ow.lt q e).2; omega
 have RD : Rf W1.drew q [.string f0, .int .i64 f1, .string f2, .string g0, .int .i64 g1, .string g2, .string h0, .int .i64 h1, .string h2] := r1.below (by omega) (below_drew (Below.refl _ _))
 have R1 : ∀ X, Rf (W1.alloc X).drew q [.string f0, .int .i64 f1, .string f2, .string g0, .int .i64 g1, .string g2, .string h0, .int .i64 h1, .string h2] := fun X => r1.below (by omega) (allocBelow W1 X).drew
 have R2 : ∀ X Y, Rf ((W1.alloc X).alloc Y).drew q [.string f0, .int .i64 f1, .string f2, .string g0, .int .i64 g1, .string g2, .string h0, .int .i64 h1, .string h2] := fun X Y => r1.below (by omega) (((Below.refl _ _).alloc (Nat.le_refl _) _).alloc (by simp) _).drew
 have R3 : ∀ X Y Z, Rf (((W1.alloc X).alloc Y).alloc Z).drew q [.string f0, .int .i64 f1, .string f2, .string g0, .int .i64 g1, .string g2, .string h0, .int .i64 h1, .string h2] := fun X Y Z => r1.below (by omega) ((((Below.refl _ _).alloc (Nat.le_refl _) _).alloc (by simp) _).alloc (by simp; omega) _).drew
 have hqW : q < W1.heap.size := by omega
 have HZW : Hid (W1.heap.size = q + 1) := zW
 clear zW
 go_enter Tryz.func56, Tryz.ntmps56
 go_wp2
 go_cut [5, 6, 7] from 16 to 22 (fun s t u wx => V3 W1 (f0, f1, f2) (g0, g1, g2) (h0, h1, h2) s t u wx)
 case first =>
  go_region_held (fun w' => w'.cell? ⟨q, 0, none⟩ = some (.string f0) /\ w'.cell? ⟨q, 1, none⟩ = some (.int .i64 f1) /\ w'.cell? ⟨q, 2, none⟩ = some (.string f2) /\ w'.cell? ⟨q, 3, none⟩ = some (.string g0) /\ w'.cell? ⟨q, 4, none⟩ = some (.int .i64 g1) /\ w'.cell? ⟨q, 5, none⟩ = some (.string g2) /\ w'.cell? ⟨q, 6, none⟩ = some (.string h0) /\ w'.cell? ⟨q, 7, none⟩ = some (.int .i64 h1) /\ w'.cell? ⟨q, 8, none⟩ = some (.string h2)) (first | with_reducible exact s10 RD | exact s10 (R1 _) | exact s10 (R2 _ _) | exact s10 (R3 _ _ _))
   (fail)
  all_goals (go_wp2_with fail; go_meet; first | exact v3_0 | exact v3_1 | exact v3_2 | exact v3_3 | exact v3_4 | exact v3_5)
 case rest =>
 obtain ⟨⟨x, y, z, rfl, rfl, rfl, rx, ry, rz, hx, hy, hz', lx, ly, lz⟩, bC⟩ := hcut
 simp only [] at rx ry rz
 have TC := T1.below bC
 have RQ : Rf wc q [.string f0, .int .i64 f1, .string f2, .string g0, .int .i64 g1, .string g2, .string h0, .int .i64 h1, .string h2] := r1.below hqW bC
 have FC : Hid (TF P Q Pm vE vW vE vW w wc) := F1.out.trans (TF.ofBelow bC)
 have x0 := rx.at_ 1 _ rfl
 have x1 := ry.at_ 1 _ rfl
 have x2 := rz.at_ 1 _ rfl
 have z0 := rx.at_ 2 _ rfl
 have z1 := ry.at_ 2 _ rfl
 have z2 := rz.at_ 2 _ rfl
 clear r1 T1 b1 R1 R2 R3 RD hW1 hq bC
 go_wp2_with fail
 refine (hAgI _).mono ?_; rintro e w2 ⟨rfl, rfl⟩
 go_wp2_with fail
 refine (hAgS _).mono ?_; rintro e w2 ⟨rfl, rfl⟩
 go_wp2
 clear x0 x1 x2 z0 z1 z2 rx rz hAgI hAgS
 have TD := TC.below (below_drew (Below.refl _ _))
 have hT1 := hTO _ TD
 have YD : Rf w2.drew y [.string g0, .int .i64 g1, .string g2] := ry.below ly (below_drew (Below.refl _ _))
 have aD : w2.drew.cell? ⟨Pm, 0, none⟩ = some (.pointer (some ⟨P + 1, 0, none⟩)) := TD.rm.at_ 0 _ rfl
 have RQD : Rf w2.drew q [.string f0, .int .i64 f1, .string f2, .string g0, .int .i64 g1, .string g2, .string h0, .int .i64 h1, .string h2] := RQ.below (by omega) (below_drew (Below.refl _ _))
 have FD : Hid (TF P Q Pm vE vW vE vW w w2.drew) := FC.out.trans (TF.ofBelow (below_drew (Below.refl _ _)))
 have lyD : y < w2.drew.heap.size := ly
 have lqD : q < w2.drew.heap.size := by show q < w2.heap.size; omega
 clear TC ry RQ FC
 go_region_held (fun w' => w'.cell? ⟨Pm, 0, none⟩ = some (.pointer (some ⟨P + 1, 0, none⟩)) /\ w'.cell? ⟨y, 0, none⟩ = some (.string g0) /\ w'.cell? ⟨y, 1, none⟩ = some (.int .i64 g1) /\ w'.cell? ⟨y, 2, none⟩ = some (.string g2)) (first | with_reducible exact s4 YD aD | exact s4 YA aA)
  ((go_at_call 91; refine hT1.mono ?_; rintro e wa ⟨rfl, ba⟩; have YA := YD.below lyD ba; have aA := zS ba aD; have TA := TD.below ba; have RA := RQD.below lqD ba; have FA : Hid (TF P Q Pm vE vW vE vW w wa) := FD.out.trans (TF.ofBelow ba); have zA : w2.drew.heap.size <= wa.heap.size := ba.size))
 all_goals
  clear hT1 hTO TD YD aD RQD FD aA
  cases sb with
  | true =>
   rw [if_pos rfl] at hBI
   cases mb with
   | true =>
    rw [if_pos rfl] at hBI
    have BB := hBI.symm
    obtain ⟨EE, hEE⟩ : ∃ EE, (if ((g0, m1, s1) : Fl.Ob) = Fl.onil then E else E ++ [entF (g0, m1, s1) 0]) = EE := ⟨_, rfl⟩
    have hS := hSt M m1 s1 wa hsS TA
    rw [hEE] at hS BB
    have o0 := YA.at_ 0 _ rfl
    have BB2 : Hid (BI = (0, M, EE, K)) := BB
    clear hEE BB
    go_wp2_with fail
    refine hS.mono ?_; rintro e w9 ⟨rfl, v9, T9, F9⟩
    have HX : Hid (MR P Q Pm BI.1 BI.2.1 BI.2.2.1 BI.2.2.2 vE vW w (.returned (.int .i64 0)) w9) := by show MR _ _ _ _ _ _ _ _ _ _ _ _; rw [BB2.out]; exact ⟨rfl, v9, vW, FA.out.trans F9, fun _ => T9⟩
    clear hS T9 F9 BB2 o0
    go_wp2
    go_ret
    exact HX.out
   | false =>
    have BB : BI = (0, M, E ++ stgK [((f0, f1, f2) : Fl.Ob), (g0, g1, g2), (h0, h1, h2)] 3, K ++ [(y0, X)]) := hBI.symm.trans (if_neg (by simp))
    have hS := hCl M X wa (by omega) TA
    have BB2 : Hid (BI = (0, M, E ++ stgK [((f0, f1, f2) : Fl.Ob), (g0, g1, g2), (h0, h1, h2)] 3, K ++ [(y0, X)])) := BB
    obtain ⟨o0, o1, o2, o3, o4, o5, o6, o7, o8⟩ := s10 RA
    clear BB
    go_wp2_with fail
    refine hS.mono ?_; rintro e w9 ⟨rfl, v9, u9, T9, F9⟩
    have HX : Hid (MR P Q Pm BI.1 BI.2.1 BI.2.2.1 BI.2.2.2 vE vW w (.returned (.int .i64 0)) w9) := by show MR _ _ _ _ _ _ _ _ _ _ _ _; rw [BB2.out]; exact ⟨rfl, v9, u9, FA.out.trans F9, fun _ => T9⟩
    clear hS T9 F9 BB2 o0 o1 o2 o3 o4 o5 o6 o7 o8
    go_wp2
    go_ret
    exact HX.out
  | false =>
   rw [if_neg (by simp)] at hBI
   have hM := hMg wa TA
   obtain ⟨o0, o1, o2, o3, o4, o5, o6, o7, o8⟩ := s10 RA
   go_wp2_with fail
   refine hM.mono ?_; rintro e wb ⟨rfl, bb⟩
   obtain ⟨W5, hW5⟩ : ∃ W, wb.alloc (.cells #[.int .i64 mc, .int .i64 mn, .string mt] 114) = W := ⟨_, rfl⟩
   have b5 : Below wa.heap.size wa W5 := by rw [<- hW5]; exact bb.alloc bb.size _
   have r5 : Rf W5 wb.heap.size [.int .i64 mc, .int .i64 mn, .string mt] := by rw [<- hW5]; exact Rf.new _ #[.int .i64 mc, .int .i64 mn, .string mt] _
   have l5 : wb.heap.size < W5.heap.size := by rw [<- hW5]; simp
   have TB := TA.below b5
   have lyA : y < wa.heap.size := Nat.lt_of_lt_of_le lyD zA
   have lqA : q < wa.heap.size := Nat.lt_of_lt_of_le lqD zA
   have lqW : w.heap.size <= q := Nat.le_of_eq hq0
   have lbA : wa.heap.size <= wb.heap.size := bb.size
   have RB := RA.below lqA b5
   have YB := YA.below lyA b5
   have FB : Hid (TF P Q Pm vE vW vE vW w W5) := FA.out.trans (TF.ofBelow b5)
   have i0 := r5.at_ 0 _ rfl
   have i1 := r5.at_ 1 _ rfl
   have i2 := r5.at_ 2 _ rfl
   clear hM hMg o0 o1 o2 o3 o4 o5 o6 o7 o8 RA YA FA bb
   by_cases e1 : mc = 0
   ·rw [if_neg (by simp [e1])] at hBI
    subst e1
    have hmz := hmd rfl
    by_cases e2 : mn = 0
    ·rw [if_neg (by simp [e2])] at hBI
     subst e2
     have hA1 := hAd mt W5.drew hmz (TB.below (below_drew (Below.refl _ _)))
     have TBD := TB.below (below_drew (Below.refl _ _))
     have cD : W5.drew.cell? ⟨wb.heap.size, 2, none⟩ = some (.string mt) := i2
     have aD : W5.drew.cell? ⟨Pm, 0, none⟩ = some (.pointer (some ⟨P + 1, 0, none⟩)) := TBD.rm.at_ 0 _ rfl
     have hAz2 := hAz mt
     obtain ⟨ac, hac⟩ : ∃ c, aC M 1 mt = c := ⟨_, rfl⟩
     obtain ⟨as', has⟩ : ∃ c, aS M 1 mt = c := ⟨_, rfl⟩
     obtain ⟨al, hal⟩ : ∃ c, aL M 1 mt = c := ⟨_, rfl⟩
     rw [hac, has, hal] at hBI
     rw [hac, has, hal] at hA1
     rw [has] at hAz2
     clear hac has hal hAd hAz hmd
     go_wp2
     clear hW5
     go_region_held (fun w' => w'.cell? ⟨Pm, 0, none⟩ = some (.pointer (some ⟨P + 1, 0, none⟩)) /\ w'.cell? ⟨wb.heap.size, 2, none⟩ = some (.string mt)) (first | with_reducible exact ⟨aD, cD⟩ | exact ⟨aZ, cZ⟩)
      ((go_at_call 93; refine hA1.mono ?_; rintro e wz ⟨rfl, ZR, ZS, Zb, Zz, Zp⟩; have aZ := cellK aD (Zp Pm TBD.lt (by omega) (by omega)); have cZ := cellK cD (Zp wb.heap.size l5 (by omega) (by omega))))
     all_goals
      obtain ⟨TZ, FZ⟩ := TBD.stored ZR ZS Zb Zz Zp
      have FZW : Hid (TF P Q Pm vE vW vE vW w wz) := FB.out.trans ((TF.ofBelow (below_drew (Below.refl _ W5))).trans FZ)
      have RZ : Rf wz q [.string f0, .int .i64 f1, .string f2, .string g0, .int .i64 g1, .string g2, .string h0, .int .i64 h1, .string h2] := RB.ofBlock (Zp q (by show q < W5.heap.size; omega) (by omega) (by omega))
      have YZ : Rf wz y [.string g0, .int .i64 g1, .string g2] := YB.ofBlock (Zp y (by show y < W5.heap.size; omega) (by omega) (by omega))
      clear hA1 TBD TB ZR ZS Zb Zz Zp FZ RB YB FB aD cD aZ cZ i0 i1 i2 r5
      by_cases e3 : ac = 0
      ·rw [if_neg (by simp [e3])] at hBI
       subst e3
       cases mb with
       | true =>
        rw [if_pos rfl] at hBI
        have BB := hBI.symm
        obtain ⟨EE, hEE⟩ : ∃ EE, (if ((g0, m1, as') : Fl.Ob) = Fl.onil then E else E ++ [entF (g0, m1, as') 0]) = EE := ⟨_, rfl⟩
        have hS := hSt al m1 as' wz hAz2 TZ
        rw [hEE] at hS BB
        have o0 := YZ.at_ 0 _ rfl
        have BB2 : Hid (BI = (0, al, EE, K)) := BB
        clear hEE BB
        go_wp2_with fail
        refine hS.mono ?_; rintro e w9 ⟨rfl, v9, T9, F9⟩
        have HX : Hid (MR P Q Pm BI.1 BI.2.1 BI.2.2.1 BI.2.2.2 vE vW w (.returned (.int .i64 0)) w9) := by show MR _ _ _ _ _ _ _ _ _ _ _ _; rw [BB2.out]; exact ⟨rfl, v9, vW, FZW.out.trans F9, fun _ => T9⟩
        clear hS T9 F9 BB2 o0
        go_wp2
        go_ret
        exact HX.out
       | false =>
        have BB : BI = (0, al, E ++ stgK [((f0, f1, f2) : Fl.Ob), (g0, g1, g2), (h0, h1, h2)] 3, K ++ [(y0, mt)]) := hBI.symm.trans (if_neg (by simp))
        have hS := hCl al mt wz (by omega) TZ
        have BB2 : Hid (BI = (0, al, E ++ stgK [((f0, f1, f2) : Fl.Ob), (g0, g1, g2), (h0, h1, h2)] 3, K ++ [(y0, mt)])) := BB
        obtain ⟨o0, o1, o2, o3, o4, o5, o6, o7, o8⟩ := s10 RZ
        clear BB
        go_wp2_with fail
        refine hS.mono ?_; rintro e w9 ⟨rfl, v9, u9, T9, F9⟩
        have HX : Hid (MR P Q Pm BI.1 BI.2.1 BI.2.2.1 BI.2.2.2 vE vW w (.returned (.int .i64 0)) w9) := by show MR _ _ _ _ _ _ _ _ _ _ _ _; rw [BB2.out]; exact ⟨rfl, v9, u9, FZW.out.trans F9, fun _ => T9⟩
        clear hS T9 F9 BB2 o0 o1 o2 o3 o4 o5 o6 o7 o8
        go_wp2
        go_ret
        exact HX.out
      ·have BB : BI = (ac, M, E, K) := hBI.symm.trans (if_pos e3)
       have qn : (ac != 0) = true := by simpa using e3
       have HX : Hid (MR P Q Pm BI.1 BI.2.1 BI.2.2.1 BI.2.2.2 vE vW w (.returned (.int .i64 ac)) wz) := by show MR _ _ _ _ _ _ _ _ _ _ _ _; rw [BB]; exact ⟨rfl, vE, vW, FZW.out, fun e => absurd e e3⟩
       clear BB hBI TZ RZ YZ
       go_wp2
       go_ret
       exact HX.out
    ·have BB : BI = (0, M, E ++ stgK [((f0, f1, f2) : Fl.Ob), (g0, g1, g2), (h0, h1, h2)] 3, K ++ [(y0, mt)]) := hBI.symm.trans (if_pos e2)
     have qn : (mn == 0) = false := by simpa using e2
     clear hBI e2 hAd hAz
     cases mb with
     | true =>
      have hS := hCl M mt W5 (by omega) TB
      have BB2 : Hid (BI = (0, M, E ++ stgK [((f0, f1, f2) : Fl.Ob), (g0, g1, g2), (h0, h1, h2)] 3, K ++ [(y0, mt)])) := BB
      obtain ⟨o0, o1, o2, o3, o4, o5, o6, o7, o8⟩ := s10 RB
      clear BB
      go_wp2_with fail
      refine hS.mono ?_; rintro e w9 ⟨rfl, v9, u9, T9, F9⟩
      have HX : Hid (MR P Q Pm BI.1 BI.2.1 BI.2.2.1 BI.2.2.2 vE vW w (.returned (.int .i64 0)) w9) := by show MR _ _ _ _ _ _ _ _ _ _ _ _; rw [BB2.out]; exact ⟨rfl, v9, u9, FB.out.trans F9, fun _ => T9⟩
      clear hS T9 F9 BB2 o0 o1 o2 o3 o4 o5 o6 o7 o8
      go_wp2
      go_ret
      exact HX.out
     | false =>
      have hS := hCl M mt W5 (by omega) TB
      have BB2 : Hid (BI = (0, M, E ++ stgK [((f0, f1, f2) : Fl.Ob), (g0, g1, g2), (h0, h1, h2)] 3, K ++ [(y0, mt)])) := BB
      obtain ⟨o0, o1, o2, o3, o4, o5, o6, o7, o8⟩ := s10 RB
      clear BB
      go_wp2_with fail
      refine hS.mono ?_; rintro e w9 ⟨rfl, v9, u9, T9, F9⟩
      have HX : Hid (MR P Q Pm BI.1 BI.2.1 BI.2.2.1 BI.2.2.2 vE vW w (.returned (.int .i64 0)) w9) := by show MR _ _ _ _ _ _ _ _ _ _ _ _; rw [BB2.out]; exact ⟨rfl, v9, u9, FB.out.trans F9, fun _ => T9⟩
      clear hS T9 F9 BB2 o0 o1 o2 o3 o4 o5 o6 o7 o8
      go_wp2
      go_ret
      exact HX.out
   ·have BB : BI = (0, M, E ++ stgK [((f0, f1, f2) : Fl.Ob), (g0, g1, g2), (h0, h1, h2)] 3, K ++ [(y0, X)]) := hBI.symm.trans (if_pos e1)
    have qn : (mc == 0) = false := by simpa using e1
    clear hBI e1 hAd hAz hmd
    cases mb with
    | true =>
     have hS := hCl M X W5 (by omega) TB
     have BB2 : Hid (BI = (0, M, E ++ stgK [((f0, f1, f2) : Fl.Ob), (g0, g1, g2), (h0, h1, h2)] 3, K ++ [(y0, X)])) := BB
     obtain ⟨o0, o1, o2, o3, o4, o5, o6, o7, o8⟩ := s10 RB
     clear BB
     go_wp2_with fail
     refine hS.mono ?_; rintro e w9 ⟨rfl, v9, u9, T9, F9⟩
     have HX : Hid (MR P Q Pm BI.1 BI.2.1 BI.2.2.1 BI.2.2.2 vE vW w (.returned (.int .i64 0)) w9) := by show MR _ _ _ _ _ _ _ _ _ _ _ _; rw [BB2.out]; exact ⟨rfl, v9, u9, FB.out.trans F9, fun _ => T9⟩
     clear hS T9 F9 BB2 o0 o1 o2 o3 o4 o5 o6 o7 o8
     go_wp2
     go_ret
     exact HX.out
    | false =>
     have hS := hCl M X W5 (by omega) TB
     have BB2 : Hid (BI = (0, M, E ++ stgK [((f0, f1, f2) : Fl.Ob), (g0, g1, g2), (h0, h1, h2)] 3, K ++ [(y0, X)])) := BB
     obtain ⟨o0, o1, o2, o3, o4, o5, o6, o7, o8⟩ := s10 RB
     clear BB
     go_wp2_with fail
     refine hS.mono ?_; rintro e w9 ⟨rfl, v9, u9, T9, F9⟩
     have HX : Hid (MR P Q Pm BI.1 BI.2.1 BI.2.2.1 BI.2.2.2 vE vW w (.returned (.int .i64 0)) w9) := by show MR _ _ _ _ _ _ _ _ _ _ _ _; rw [BB2.out]; exact ⟨rfl, v9, u9, FB.out.trans F9, fun _ => T9⟩
     clear hS T9 F9 BB2 o0 o1 o2 o3 o4 o5 o6 o7 o8
     go_wp2
     go_ret
     exact HX.out
end Go.Proofs.YtcfnkndbhpdfnaaGreatDoor.Tm
