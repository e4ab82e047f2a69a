/- ReplayRules of the program: the answer. No statement is proved here. -/
import Derived.Test.YtcfnkndbhpdfnaaGreatDoorTmXQ
import Derived.Test.YtcfnkndbhpdfnaaGreatDoorTmYQ
set_option linter.unusedVariables false
namespace Go.Proofs.YtcfnkndbhpdfnaaGreatDoor.Ry
open Go.ChangeShapes Go.WideShapes Go.ChangeAt Go.RowKit
open Go.Proofs.YtcfnkndbhpdfnaaGreatDoor.Pv
theorem frSet4 (w : World) (q : Nat) (a b c d : Value) : Fr q (q + 1) w ((((w.setCell ⟨q, 0, none⟩ a).setCell ⟨q, 1, none⟩ b).setCell ⟨q, 2, none⟩ c).setCell ⟨q, 3, none⟩ d) := by
 have one : ∀ (w : World) (o : Nat) (v : Value), Fr q (q + 1) w (w.setCell ⟨q, o, none⟩ v) := fun w o v => Fr.ofGrown (grownSet w q o v) (fun j hj => by cases hj; omega)
 exact (((one _ _ _).trans (one _ _ _)).trans (one _ _ _)).trans (one _ _ _)
end Go.Proofs.YtcfnkndbhpdfnaaGreatDoor.Ry
set_option linter.unusedVariables false
namespace Go.Proofs.YtcfnkndbhpdfnaaGreatDoor.Tm
open Go.ChangeShapes Go.WideShapes Go.ChangeAt Go.RowKit
open Go.Proofs.YtcfnkndbhpdfnaaGreatDoor.Pv
def MP (Z : Int × List Ob × List En.Ob × List Wk.Ob) (w : World) (e : Ending) (w' : World) : Prop := ∃ vS vE vW, e = .returned (.agg #[.int .i64 Z.1, vS, vE, vW]) /\ w'.ownsRow w.heap.size 50 3 vS Z.2.1.length (ocells Z.2.1) /\ w'.ownsRow w.heap.size 86 4 vE Z.2.2.1.length (En.ocells Z.2.2.1) /\ w'.ownsRow w.heap.size 83 2 vW Z.2.2.2.length (Wk.ocells Z.2.2.2) /\ (∀ j, vS.ownBlock = some j -> vE.ownBlock ≠ some j /\ vW.ownBlock ≠ some j) /\ (∀ j, vE.ownBlock = some j -> vW.ownBlock ≠ some j) /\ Below w.heap.size w w'
theorem mp_nil {Z : Int × List Ob × List En.Ob × List Wk.Ob} {c : Int} {w w' : World} {q : Nat} (hq : w.heap.size = q) (h : Z = (c, [], [], [])) (hB : Below q w w') : MP Z w (.returned (.agg #[.int .i64 c, .slice none 0 0, .slice none 0 0, .slice none 0 0])) w' := by
 subst hq h
 exact ⟨_, _, _, rfl, ⟨rfl, .inl ⟨rfl, rfl⟩⟩, ⟨rfl, .inl ⟨rfl, rfl⟩⟩, ⟨rfl, .inl ⟨rfl, rfl⟩⟩, fun j hj => (by cases hj), fun j hj => (by cases hj), hB⟩
theorem TF.belowAt {P Q Pm q : Nat} {vE vW vE' vW' : Value} {w w' : World} (h : TF P Q Pm vE vW vE' vW' w w') (hq : q <= w.heap.size) (h1 : q <= P) (h2 : q <= Q) (h3 : q <= Pm) (h4 : ∀ j, vE.ownBlock = some j -> q <= j) (h5 : ∀ j, vW.ownBlock = some j -> q <= j) : Below q w w' :=
 ⟨h.os, h.tape, h.output, h.size, fun k hk => h.block k (by omega) (by omega) (by omega) (by omega) (by omega) (fun e => by have := h4 _ e; omega) (fun e => by have := h5 _ e; omega)⟩
def mpI (st L : List Ob) (f g h : Fl.Ob) (y0 : ByteArray) : Int × List Ob × List En.Ob × List Wk.Ob :=
 if ¬ sf st = 0 then (sf st, [], [], [])
 else if ¬ vff (som [f, g, h]) = 0 then (vff (som [f, g, h]), [], [], [])
 else if hbF st (som [f, g, h]) = false then (4, [], [], [])
 else if ¬ (paI st [] [] f g h y0).1 = 0 then ((paI st [] [] f g h y0).1, [], [], [])
 else (0, L, (paI st [] [] f g h y0).2.2.1, (paI st [] [] f g h y0).2.2.2)
set_option maxRecDepth 20000 in
set_option maxHeartbeats 16000000 in
theorem implMergePath (a1 : Option Addr) (cc1 : Nat) (st L : List Ob) (f0 f2 g0 g2 h0 h2 y0 y2 : ByteArray) (f1 g1 h1 y1 : Int) (w : World) (hO : OB w.heap.size w a1 st) (hs : SmallO st) (n1 : st.length <= 1048576)
  (hsz : ∀ k, k < 3 -> ([((f0, f1, f2) : Fl.Ob), (g0, g1, g2), (h0, h1, h2)].getD k Fl.onil).1.size <= 1048576 /\ ([((f0, f1, f2) : Fl.Ob), (g0, g1, g2), (h0, h1, h2)].getD k Fl.onil).2.2.size <= 1048576)
  (hpre : vff (som [((f0, f1, f2) : Fl.Ob), (g0, g1, g2), (h0, h1, h2)]) = 0 -> (∀ k, k < 3 -> ¬ [((f0, f1, f2) : Fl.Ob), (g0, g1, g2), (h0, h1, h2)].getD k Fl.onil = Fl.onil -> En.Last ([] ++ stgK [((f0, f1, f2) : Fl.Ob), (g0, g1, g2), (h0, h1, h2)] k) (entF ([((f0, f1, f2) : Fl.Ob), (g0, g1, g2), (h0, h1, h2)].getD k Fl.onil) ((k : Int) + 1))) /\ (Fl.mk ((f0, f1, f2) : Fl.Ob) (g0, g1, g2) (h0, h1, h2) = 3 \/ Fl.mk ((f0, f1, f2) : Fl.Ob) (g0, g1, g2) (h0, h1, h2) = 4 -> 0 < (som [((f0, f1, f2) : Fl.Ob), (g0, g1, g2), (h0, h1, h2)]).length /\ (som [((f0, f1, f2) : Fl.Ob), (g0, g1, g2), (h0, h1, h2)]).getD 0 Fl.onil = (y0, y1, y2) /\ y0.size <= 1048576))
  (hnil : ∀ x, En.Last [] x)
  (hfin : sf st = 0 -> vff (som [((f0, f1, f2) : Fl.Ob), (g0, g1, g2), (h0, h1, h2)]) = 0 -> hbF st (som [((f0, f1, f2) : Fl.Ob), (g0, g1, g2), (h0, h1, h2)]) = true -> (paI st [] [] ((f0, f1, f2) : Fl.Ob) (g0, g1, g2) (h0, h1, h2) y0).1 = 0 -> ((paI st [] [] ((f0, f1, f2) : Fl.Ob) (g0, g1, g2) (h0, h1, h2) y0).2.1.map fun o => o.1).Nodup /\ (paI st [] [] ((f0, f1, f2) : Fl.Ob) (g0, g1, g2) (h0, h1, h2) y0).2.1.length <= 200 /\ SmallO (paI st [] [] ((f0, f1, f2) : Fl.Ob) (g0, g1, g2) (h0, h1, h2) y0).2.1 /\ Asc L /\ L.Perm (paI st [] [] ((f0, f1, f2) : Fl.Ob) (g0, g1, g2) (h0, h1, h2) y0).2.1) :
  Calls Tryz.prog 9 #[.slice a1 st.length cc1, .agg #[.string f0, .int .i64 f1, .string f2], .agg #[.string g0, .int .i64 g1, .string g2], .agg #[.string h0, .int .i64 h1, .string h2]] w fun e w' => MP (mpI st L ((f0, f1, f2) : Fl.Ob) (g0, g1, g2) (h0, h1, h2) y0) w e w' := by
 have hf0 : ∀ o ∈ [((f0, f1, f2) : Fl.Ob), (g0, g1, g2), (h0, h1, h2)], o.1.size <= 1048576 := fun o ho => by
  simp only [List.mem_cons, List.not_mem_nil, or_false] at ho
  rcases ho with rfl | rfl | rfl
  ·exact (hsz 0 (by omega)).1
  ·exact (hsz 1 (by omega)).1
  ·exact (hsz 2 (by omega)).1
 have hFa := fun W => faultC f0 f2 g0 g2 h0 h2 f1 g1 h1 W hf0
 have hFi := fun W => filesC f0 f2 g0 g2 h0 h2 f1 g1 h1 W
 have hl3 : (som [((f0, f1, f2) : Fl.Ob), (g0, g1, g2), (h0, h1, h2)]).length <= 3 := List.length_filter_le _ _
 have hMg := fun P Q Pm vE vW W T z (hv : vff (som [((f0, f1, f2) : Fl.Ob), (g0, g1, g2), (h0, h1, h2)]) = 0) => mergeC P Q Pm st [] [] vE vW f0 f2 g0 g2 h0 h2 y0 y2 f1 g1 h1 y1 W T z hs hsz (by simp) (by simp) (hpre hv).1 (hpre hv).2 (fun _ m s => hnil _) (fun _ m s => hnil _)
 obtain ⟨Z, hZ⟩ : ∃ Z, mpI st L ((f0, f1, f2) : Fl.Ob) (g0, g1, g2) (h0, h1, h2) y0 = Z := ⟨_, rfl⟩
 rw [hZ]
 unfold mpI at hZ
 obtain ⟨SM, hSM⟩ : ∃ S, som [((f0, f1, f2) : Fl.Ob), (g0, g1, g2), (h0, h1, h2)] = S := ⟨_, rfl⟩
 obtain ⟨PA, hPA⟩ : ∃ p, paI st [] [] ((f0, f1, f2) : Fl.Ob) (g0, g1, g2) (h0, h1, h2) y0 = p := ⟨_, rfl⟩
 rw [hSM, hPA] at hZ hfin
 simp only [hSM] at hFa hFi hl3 hMg
 simp only [hPA] at hMg
 obtain ⟨pc, pm, pe, pk⟩ := PA
 simp only [] at hZ hfin hMg
 obtain ⟨N, hN⟩ : ∃ N, vff SM = N := ⟨_, rfl⟩
 rw [hN] at hZ hfin hFa hMg
 clear hSM hPA hN hpre hf0
 obtain ⟨q, hq⟩ : ∃ q, w.heap.size = q := ⟨_, rfl⟩
 have HQ : Hid (w.heap.size = q) := hq
 obtain ⟨W1, hW1⟩ : ∃ W, (((w.alloc (.cells #[.string f0, .int .i64 f1, .string f2] 34)).alloc (.cells #[.string g0, .int .i64 g1, .string g2] 34)).alloc (.cells #[.string h0, .int .i64 h1, .string h2] 34)).alloc (.cells #[.int .i64 0, .slice none 0 0, .slice none 0 0, .slice none 0 0] 31) = W := ⟨_, rfl⟩
 have b1 : Below q w W1 := by rw [<- hW1, <- hq]; exact ((((Below.refl _ _).alloc (Nat.le_refl _) _).alloc (by simp) _).alloc (by simp <;> omega) _).alloc (by simp <;> omega) _
 have z1 : W1.heap.size = q + 4 := by rw [<- hW1, <- hq]; simp
 have e1 : (w.alloc (.cells #[.string f0, .int .i64 f1, .string f2] 34)).heap.size = q + 1 := by rw [<- hq]; simp
 have e2 : ((w.alloc (.cells #[.string f0, .int .i64 f1, .string f2] 34)).alloc (.cells #[.string g0, .int .i64 g1, .string g2] 34)).heap.size = q + 2 := by rw [<- hq]; simp
 have e3 : (((w.alloc (.cells #[.string f0, .int .i64 f1, .string f2] 34)).alloc (.cells #[.string g0, .int .i64 g1, .string g2] 34)).alloc (.cells #[.string h0, .int .i64 h1, .string h2] 34)).heap.size = q + 3 := by rw [<- hq]; simp
 have rF : Rf W1 q [.string f0, .int .i64 f1, .string f2] := by
  rw [<- hW1, <- hq]; exact (((Rf.new w #[.string f0, .int .i64 f1, .string f2] _).below (by simp) (allocBelow _ _)).below (by simp <;> omega) (allocBelow _ _)).below (by simp <;> omega) (allocBelow _ _)
 have rG : Rf W1 (q + 1) [.string g0, .int .i64 g1, .string g2] := by
  rw [<- hW1, <- e1]; exact ((Rf.new (w.alloc (.cells #[.string f0, .int .i64 f1, .string f2] 34)) #[.string g0, .int .i64 g1, .string g2] _).below (by simp) (allocBelow _ _)).below (by simp <;> omega) (allocBelow _ _)
 have rH : Rf W1 (q + 2) [.string h0, .int .i64 h1, .string h2] := by
  rw [<- hW1, <- e2]; exact (Rf.new ((w.alloc (.cells #[.string f0, .int .i64 f1, .string f2] 34)).alloc (.cells #[.string g0, .int .i64 g1, .string g2] 34)) #[.string h0, .int .i64 h1, .string h2] _).below (by simp) (allocBelow _ _)
 have rb : Rf W1 (q + 3) [.int .i64 0, .slice none 0 0, .slice none 0 0, .slice none 0 0] := by
  rw [<- hW1, <- e3]; exact Rf.new _ #[.int .i64 0, .slice none 0 0, .slice none 0 0, .slice none 0 0] _
 have HRR : Hid (∀ W, Below q w W -> OB W.heap.size W a1 st) := fun W bW => by
  rw [<- hq] at bW
  exact (hO.below bW).mono bW.size
 clear hO e1 e2 e3
 have hA := implStoreFault a1 cc1 st W1 (HRR.out W1 b1) hs n1
 by_cases q0 : sf st = 0
 rotate_left
 ·have HC : Hid (Z = (sf st, [], [], [])) := hZ.symm.trans (if_pos q0)
  have qn : (sf st != 0) = true := by simpa using q0
  obtain ⟨C, hC⟩ : ∃ C, sf st = C := ⟨_, rfl⟩
  rw [hC] at hA HC qn
  clear hC q0 hZ hfin
  go_enter Tryz.func9, Tryz.ntmps9
  go_wp2_with fail
  refine hA.mono ?_; rintro e w2 ⟨rfl, b2⟩
  have B2 : Below q w w2 := b1.trans (b2.mono (by omega))
  have rb2 := rb.below (by omega) b2
  have zz : q + 4 <= w2.heap.size := by have := b2.size; omega
  clear hA hW1 hq b1 b2 rb z1 rF rG rH hMg
  have yy0 := rb2.at_ 0 _ rfl
  have kk0 := rb2.fz 0
  have yy1 := rb2.at_ 1 _ rfl
  have kk1 := rb2.fz 1
  have yy2 := rb2.at_ 2 _ rfl
  have kk2 := rb2.fz 2
  have yy3 := rb2.at_ 3 _ rfl
  have kk3 := rb2.fz 3
  have RV := (((rb2.set (o := 0) (by simp) (.int .i64 C)).set (o := 1) (by simp) (.slice none 0 0)).set (o := 2) (by simp) (.slice none 0 0)).set (o := 3) (by simp) (.slice none 0 0)
  have FV := Ry.frSet4 w2 (q + 3) (.int .i64 C) (.slice none 0 0) (.slice none 0 0) (.slice none 0 0)
  obtain ⟨V, hV⟩ : ∃ V, (((w2.setCell ⟨q + 3, 0, none⟩ (.int .i64 C)).setCell ⟨q + 3, 1, none⟩ (.slice none 0 0)).setCell ⟨q + 3, 2, none⟩ (.slice none 0 0)).setCell ⟨q + 3, 3, none⟩ (.slice none 0 0) = V := ⟨_, rfl⟩
  rw [hV] at RV FV
  have HVV : Hid (_ = V) := hV
  have BV : Hid (Below q w V) := FV.below B2 (by omega) (by omega)
  have v0 := RV.at_ 0 _ rfl
  have v1 := RV.at_ 1 _ rfl
  have v2 := RV.at_ 2 _ rfl
  have v3 := RV.at_ 3 _ rfl
  clear hV RV FV rb2 B2
  go_wp2
  rw [HVV.out]
  refine bodyPost_ret (v := .agg #[.int .i64 C, .slice none 0 0, .slice none 0 0, .slice none 0 0]) (by simp [results, Tryz.results9, go_sem, v0, v1, v2, v3]) rfl ?_
  exact mp_nil HQ.out HC.out BV.out
 rw [if_neg (by simpa using q0)] at hZ
 rw [q0] at hA
 go_enter Tryz.func9, Tryz.ntmps9
 go_wp2_with fail
 refine hA.mono ?_; rintro e w2 ⟨rfl, b2⟩
 have B2 : Below q w w2 := b1.trans (b2.mono (by omega))
 have rb2 := rb.below (by omega) b2
 have x0 := (rF.below (by omega) b2).at_ 0 _ rfl
 have x1 := (rF.below (by omega) b2).at_ 1 _ rfl
 have x2 := (rF.below (by omega) b2).at_ 2 _ rfl
 have x3 := (rG.below (by omega) b2).at_ 0 _ rfl
 have x4 := (rG.below (by omega) b2).at_ 1 _ rfl
 have x5 := (rG.below (by omega) b2).at_ 2 _ rfl
 have x6 := (rH.below (by omega) b2).at_ 0 _ rfl
 have x7 := (rH.below (by omega) b2).at_ 1 _ rfl
 have x8 := (rH.below (by omega) b2).at_ 2 _ rfl
 have z2 : q + 4 <= w2.heap.size := by have := b2.size; omega
 obtain ⟨W3, hW3⟩ : ∃ W, w2.alloc (.cells #[.string f0, .int .i64 f1, .string f2, .string g0, .int .i64 g1, .string g2, .string h0, .int .i64 h1, .string h2] 53) = W := ⟨_, rfl⟩
 have b3 : Below w2.heap.size w2 W3 := by rw [<- hW3]; exact allocBelow _ _
 have B3 : Below q w W3 := B2.trans (b3.mono (by omega))
 have rb3 := rb2.below (by omega) b3
 have r9 : Rf W3 w2.heap.size [.string f0, .int .i64 f1, .string f2, .string g0, .int .i64 g1, .string g2, .string h0, .int .i64 h1, .string h2] := by rw [<- hW3]; exact Rf.new _ #[.string f0, .int .i64 f1, .string f2, .string g0, .int .i64 g1, .string g2, .string h0, .int .i64 h1, .string h2] _
 have z3 : W3.heap.size = w2.heap.size + 1 := by rw [<- hW3]; simp
 obtain ⟨p, hp⟩ : ∃ p, w2.heap.size = p := ⟨_, rfl⟩
 rw [hp] at r9
 have c0 := r9.at_ 0 _ rfl
 have c1 := r9.at_ 1 _ rfl
 have c2 := r9.at_ 2 _ rfl
 have c3 := r9.at_ 3 _ rfl
 have c4 := r9.at_ 4 _ rfl
 have c5 := r9.at_ 5 _ rfl
 have c6 := r9.at_ 6 _ rfl
 have c7 := r9.at_ 7 _ rfl
 have c8 := r9.at_ 8 _ rfl
 clear hA hW1 hq b1 b2 rb z1 rF rG rH B2 rb2
 go_wp2_with fail
 refine (hFa _).mono ?_; rintro e w4 ⟨rfl, b4⟩
 have B4 : Below q w w4 := B3.trans (b4.mono (by omega))
 have rb4 := rb3.below (by omega) b4
 have R4 := r9.below (by omega) b4
 have z4 : p + 1 <= w4.heap.size := by have := b4.size; omega
 clear hFa x0 x1 x2 x3 x4 x5 x6 x7 x8 c0 c1 c2 c3 c4 c5 c6 c7 c8 B3 rb3 r9 b4 b3 hW3
 have zp : q + 4 <= p := by omega
 clear z2 z3
 by_cases q1 : N = 0
 rotate_left
 ·have HC : Hid (Z = (N, [], [], [])) := hZ.symm.trans (if_pos q1)
  have qn : (N != 0) = true := by simpa using q1
  have zz : q + 4 <= w4.heap.size := by omega
  clear q1 hZ hfin hMg R4
  have yy0 := rb4.at_ 0 _ rfl
  have kk0 := rb4.fz 0
  have yy1 := rb4.at_ 1 _ rfl
  have kk1 := rb4.fz 1
  have yy2 := rb4.at_ 2 _ rfl
  have kk2 := rb4.fz 2
  have yy3 := rb4.at_ 3 _ rfl
  have kk3 := rb4.fz 3
  have RV := (((rb4.set (o := 0) (by simp) (.int .i64 N)).set (o := 1) (by simp) (.slice none 0 0)).set (o := 2) (by simp) (.slice none 0 0)).set (o := 3) (by simp) (.slice none 0 0)
  have FV := Ry.frSet4 w4 (q + 3) (.int .i64 N) (.slice none 0 0) (.slice none 0 0) (.slice none 0 0)
  obtain ⟨V, hV⟩ : ∃ V, (((w4.setCell ⟨q + 3, 0, none⟩ (.int .i64 N)).setCell ⟨q + 3, 1, none⟩ (.slice none 0 0)).setCell ⟨q + 3, 2, none⟩ (.slice none 0 0)).setCell ⟨q + 3, 3, none⟩ (.slice none 0 0) = V := ⟨_, rfl⟩
  rw [hV] at RV FV
  have HVV : Hid (_ = V) := hV
  have BV : Hid (Below q w V) := FV.below B4 (by omega) (by omega)
  have v0 := RV.at_ 0 _ rfl
  have v1 := RV.at_ 1 _ rfl
  have v2 := RV.at_ 2 _ rfl
  have v3 := RV.at_ 3 _ rfl
  clear hV RV FV rb4 B4
  go_wp2
  rw [HVV.out]
  refine bodyPost_ret (v := .agg #[.int .i64 N, .slice none 0 0, .slice none 0 0, .slice none 0 0]) (by simp [results, Tryz.results9, go_sem, v0, v1, v2, v3]) rfl ?_
  exact mp_nil HQ.out HC.out BV.out
 rw [if_neg (by simpa using q1)] at hZ
 subst q1
 have hSh := shelfOfC a1 cc1 st w4 (HRR.out w4 B4) q0
 obtain ⟨P, hP⟩ : ∃ P, w4.heap.size = P := ⟨_, rfl⟩
 rw [hP] at hSh
 go_wp2_with fail
 refine hSh.mono ?_; rintro e w5 ⟨rfl, r5, s5, b5, zz5⟩
 have b5' : Below w4.heap.size w4 w5 := by rw [hP]; exact b5
 have B5 : Below q w w5 := B4.trans (b5'.mono (by omega))
 have rb5 := rb4.below (by omega) b5'
 have R5 := R4.below (by omega) b5'
 have hTm := treeMergeOnC P st w5 r5 s5 zz5
 clear hSh b5 b5' B4 rb4 R4 r5 s5
 go_wp2_with fail
 refine hTm.mono ?_; rintro e w6 ⟨Q, Pm, vE, rfl, T6, b6, hQ⟩
 have B6 : Below q w w6 := B5.trans (b6.mono (by omega))
 have rb6 := rb5.below (by omega) b6
 have R6 := R5.below (by omega) b6
 have hqm := T6.qm
 have hlt := T6.lt
 clear hTm b6 B5 rb5 R5
 have z6 : q + 4 <= w6.heap.size := by omega
 have TD := T6.below (below_drew (Below.refl _ _))
 have hHb := fun W fa fc x y z => hasBlobsC (P + 1) P st (.int .i64 (st.length : Int)) fa fc SM W q0 x y z
 have RD : Rf w6.drew p [.string f0, .int .i64 f1, .string f2, .string g0, .int .i64 g1, .string g2, .string h0, .int .i64 h1, .string h2] := R6.below (by omega) (below_drew (Below.refl _ _))
 have aD : w6.drew.cell? ⟨Pm, 0, none⟩ = some (.pointer (some ⟨P + 1, 0, none⟩)) := TD.rm.at_ 0 _ rfl
 have lpD : p < w6.drew.heap.size := by show p < w6.heap.size; omega
 have lPD : P + 1 < w6.drew.heap.size := by show P + 1 < w6.heap.size; omega
 have rbD : Rf w6.drew (q + 3) [.int .i64 0, .slice none 0 0, .slice none 0 0, .slice none 0 0] := rb6.below (by omega) (below_drew (Below.refl _ _))
 have lbD : q + 3 < w6.drew.heap.size := by show q + 3 < w6.heap.size; omega
 have BD : Below q w w6.drew := B6.drew
 have lwD : q <= w6.drew.heap.size := by show q <= w6.heap.size; omega
 clear T6 R6 rb6 B6
 go_wp2
 go_region_held (fun w' => w'.cell? ⟨Pm, 0, none⟩ = some (.pointer (some ⟨P + 1, 0, none⟩)) /\ w'.cell? ⟨p, 0, none⟩ = some (.string f0) /\ w'.cell? ⟨p, 1, none⟩ = some (.int .i64 f1) /\ w'.cell? ⟨p, 2, none⟩ = some (.string f2) /\ w'.cell? ⟨p, 3, none⟩ = some (.string g0) /\ w'.cell? ⟨p, 4, none⟩ = some (.int .i64 g1) /\ w'.cell? ⟨p, 5, none⟩ = some (.string g2) /\ w'.cell? ⟨p, 6, none⟩ = some (.string h0) /\ w'.cell? ⟨p, 7, none⟩ = some (.int .i64 h1) /\ w'.cell? ⟨p, 8, none⟩ = some (.string h2)) (first | with_reducible exact s11 RD aD | with_reducible exact s11 RA aA | with_reducible exact s11 RB aB | exact s11 RD aD)
  ((first
   | (go_at_call 28; refine (hFi _).mono ?_; rintro e wa ⟨va, rfl, oa, ba⟩; obtain ⟨vo, vc, rfl⟩ := En.shapeK3 oa; have TA := TD.below ba; have RA := RD.below lpD ba; have aA := zS ba aD; have zA : w6.drew.heap.size <= wa.heap.size := ba.size; have OA := Fl.OB.of oa)
   | (go_at_call 27; refine (hHb _ _ _ TA.rp (by omega) TA.sh OA (by omega)).mono ?_; rintro e wb ⟨rfl, bb⟩; have TB := TA.below bb; have RB := RA.below (by omega) bb; have aB := zS bb aA; have zB : wa.heap.size <= wb.heap.size := bb.size)))
 all_goals
  have rbB := (rbD.below lbD ba).below (by omega) bb
  have BB : Below q w wb := (BD.trans (ba.mono lwD)).trans (bb.mono (by omega))
  have zb : q + 4 <= wb.heap.size := by omega
  clear RD aD TD TA RA aA OA oa aB rbD BD ba bb hHb hFi
  cases q2 : hbF st SM with
  | false =>
   have HC : Hid (Z = (4, [], [], [])) := hZ.symm.trans (if_pos q2)
   clear hZ hfin hMg RB TB
   have yy0 := rbB.at_ 0 _ rfl
   have kk0 := rbB.fz 0
   have yy1 := rbB.at_ 1 _ rfl
   have kk1 := rbB.fz 1
   have yy2 := rbB.at_ 2 _ rfl
   have kk2 := rbB.fz 2
   have yy3 := rbB.at_ 3 _ rfl
   have kk3 := rbB.fz 3
   have RV := (((rbB.set (o := 0) (by simp) (.int .i64 4)).set (o := 1) (by simp) (.slice none 0 0)).set (o := 2) (by simp) (.slice none 0 0)).set (o := 3) (by simp) (.slice none 0 0)
   have FV := Ry.frSet4 wb (q + 3) (.int .i64 4) (.slice none 0 0) (.slice none 0 0) (.slice none 0 0)
   obtain ⟨V, hV⟩ : ∃ V, (((wb.setCell ⟨q + 3, 0, none⟩ (.int .i64 4)).setCell ⟨q + 3, 1, none⟩ (.slice none 0 0)).setCell ⟨q + 3, 2, none⟩ (.slice none 0 0)).setCell ⟨q + 3, 3, none⟩ (.slice none 0 0) = V := ⟨_, rfl⟩
   rw [hV] at RV FV
   have HVV : Hid (_ = V) := hV
   have BV : Hid (Below q w V) := FV.below BB (by omega) (by omega)
   have v0 := RV.at_ 0 _ rfl
   have v1 := RV.at_ 1 _ rfl
   have v2 := RV.at_ 2 _ rfl
   have v3 := RV.at_ 3 _ rfl
   clear hV RV FV rbB BB
   go_wp2
   rw [HVV.out]
   refine bodyPost_ret (v := .agg #[.int .i64 4, .slice none 0 0, .slice none 0 0, .slice none 0 0]) (by simp [results, Tryz.results9, go_sem, v0, v1, v2, v3]) rfl ?_
   exact mp_nil HQ.out HC.out BV.out
  | true =>
   rw [if_neg (by rw [q2]; simp)] at hZ
   have hM := hMg P Q Pm vE (.slice none 0 0) wb TB q0 (by first | trivial | rfl)
   obtain ⟨o0, o1, o2, o3, o4, o5, o6, o7, o8⟩ := s10 RB
   go_wp2_with fail
   refine hM.mono ?_; rintro e w7 ⟨rfl, v7, u7, F7, T7⟩
   have hvE : ∀ j, vE.ownBlock = some j -> Q + 1 <= j := fun j hj => (TB.sl.own.lt j hj).1
   have rb7 := rbB.ofBlock (F7.block (q + 3) (by omega) (by omega) (by omega) (by omega) (by omega) (fun e => by have := hvE _ e; omega) (fun e => by cases e))
   have B7 : Below q w w7 := BB.trans (F7.belowAt (by omega) (by omega) (by omega) (by omega) (fun j hj => by have := hvE j hj; omega) (fun j hj => by cases hj))
   have z7 : q + 4 <= w7.heap.size := Nat.le_trans zb F7.size
   have hv7 : ∀ j, v7.ownBlock = some j -> q <= j := fun j hj => by
    rcases F7.fE with c | ⟨i, c, hi⟩
    ·rw [c] at hj; have := hvE j hj; omega
    ·rw [c] at hj; cases hj; omega
   have hu7 : ∀ j, u7.ownBlock = some j -> q <= j := fun j hj => by
    rcases F7.fW with c | ⟨i, c, hi⟩
    ·rw [c] at hj; cases hj
    ·rw [c] at hj; cases hj; omega
   clear hM hMg F7 TB RB o0 o1 o2 o3 o4 o5 o6 o7 o8 rbB BB hvE
   by_cases q3 : pc = 0
   ·rw [if_neg (by simpa using q3)] at hZ
    subst q3
    obtain ⟨n1', n2', n3', n4', n5'⟩ := hfin q0 (by first | trivial | rfl) q2 (by first | trivial | rfl)
    have T8 := T7 (by first | trivial | rfl)
    have hRe := resultC P Q Pm pm L pe pk v7 u7 w7 T8 n1' n2' n3' n4' n5'
    have HT8 : Hid (TS P Q Pm pm pe pk v7 u7 w7) := T8
    have HZ : Hid (Z = (0, L, pe, pk)) := hZ.symm
    clear hfin T7 n1' n2' n3' n4' n5' T8 hZ
    go_wp2_with fail
    refine hRe.mono ?_; rintro e w8 ⟨vS, rfl, oS, T9, b9⟩
    obtain ⟨sa, sc, rfl⟩ := En.shapeK3 oS
    obtain ⟨ea, ec, rfl⟩ := En.shapeK3 T9.sl.own
    obtain ⟨ka, kc, rfl⟩ := En.shapeK3 T9.ow
    have rb8 := rb7.below (by omega) b9
    have B8 : Below q w w8 := B7.trans (b9.mono (by omega))
    have z8 : q + 4 <= w8.heap.size := Nat.le_trans z7 b9.size
    have g := grownTrans (grownTrans (grownTrans (grownSet w8 (q + 3) 0 (.int .i64 0)) (grownSet _ (q + 3) 1 (.slice sa L.length sc))) (grownSet _ (q + 3) 2 (.slice ea pe.length ec))) (grownSet _ (q + 3) 3 (.slice ka pk.length kc))
    have o1 := En.ownMonoF (oS.kept g (blockCases _ _ fun j c1 c2 => by cases c2; have := (oS.lt _ c1).1; omega)) (b := q) (by omega)
    have o2 := En.ownMonoF (T9.sl.own.kept g (blockCases _ _ fun j c1 c2 => by cases c2; have := (T9.sl.own.lt _ c1).1; omega)) (b := q) (by omega)
    have o3 := En.ownMonoF (T9.ow.kept g (blockCases _ _ fun j c1 c2 => by cases c2; have := (T9.ow.lt _ c1).1; omega)) (b := q) (by omega)
    have RV := (((rb8.set (o := 0) (by simp) (.int .i64 0)).set (o := 1) (by simp) (.slice sa L.length sc)).set (o := 2) (by simp) (.slice ea pe.length ec)).set (o := 3) (by simp) (.slice ka pk.length kc)
    have FV := Ry.frSet4 w8 (q + 3) (.int .i64 0) (.slice sa L.length sc) (.slice ea pe.length ec) (.slice ka pk.length kc)
    have hd1 : ∀ j, (Value.slice sa L.length sc).ownBlock = some j -> (Value.slice ea pe.length ec).ownBlock ≠ some j /\ (Value.slice ka pk.length kc).ownBlock ≠ some j := fun j hj => ⟨fun c => by have := (oS.lt _ hj).1; have := (HT8.out.sl.own.lt _ c).2; omega, fun c => by have := (oS.lt _ hj).1; have := (HT8.out.ow.lt _ c).2; omega⟩
    have hd2 : ∀ j, (Value.slice ea pe.length ec).ownBlock = some j -> (Value.slice ka pk.length kc).ownBlock ≠ some j := fun j hj c => T9.we j c hj
    have yy0 := rb8.at_ 0 _ rfl
    have yy1 := rb8.at_ 1 _ rfl
    have yy2 := rb8.at_ 2 _ rfl
    have yy3 := rb8.at_ 3 _ rfl
    have kk0 := rb8.fz 0
    have kk1 := rb8.fz 1
    have kk2 := rb8.fz 2
    have kk3 := rb8.fz 3
    obtain ⟨V, hV⟩ : ∃ V, (((w8.setCell ⟨q + 3, 0, none⟩ (.int .i64 0)).setCell ⟨q + 3, 1, none⟩ (.slice sa L.length sc)).setCell ⟨q + 3, 2, none⟩ (.slice ea pe.length ec)).setCell ⟨q + 3, 3, none⟩ (.slice ka pk.length kc) = V := ⟨_, rfl⟩
    rw [hV] at RV FV o1 o2 o3
    have HVV : Hid (_ = V) := hV
    have BV : Below q w V := FV.below B8 (by omega) (by omega)
    have v0 := RV.at_ 0 _ rfl
    have v1 := RV.at_ 1 _ rfl
    have v2 := RV.at_ 2 _ rfl
    have v3 := RV.at_ 3 _ rfl
    have HX : Hid (MP Z w (.returned (.agg #[.int .i64 0, .slice sa L.length sc, .slice ea pe.length ec, .slice ka pk.length kc])) V) := by
     show MP _ _ _ _
     rw [HZ.out]
     exact ⟨_, _, _, rfl, by rw [HQ.out]; exact o1, by rw [HQ.out]; exact o2, by rw [HQ.out]; exact o3, hd1, hd2, by rw [HQ.out]; exact BV⟩
    clear hV RV FV rb8 B8 o1 o2 o3 g hd1 hd2 oS T9 b9 rb7 B7 hRe HT8 BV hv7 hu7
    go_wp2
    rw [HVV.out]
    refine bodyPost_ret (v := .agg #[.int .i64 0, .slice sa L.length sc, .slice ea pe.length ec, .slice ka pk.length kc]) (by simp [results, Tryz.results9, go_sem, v0, v1, v2, v3]) rfl ?_
    exact HX.out
   ·have HC : Hid (Z = (pc, [], [], [])) := hZ.symm.trans (if_pos q3)
    have qn : (pc != 0) = true := by simpa using q3
    clear hZ hfin T7 q3
    have yy0 := rb7.at_ 0 _ rfl
    have kk0 := rb7.fz 0
    have yy1 := rb7.at_ 1 _ rfl
    have kk1 := rb7.fz 1
    have yy2 := rb7.at_ 2 _ rfl
    have kk2 := rb7.fz 2
    have yy3 := rb7.at_ 3 _ rfl
    have kk3 := rb7.fz 3
    have RV := (((rb7.set (o := 0) (by simp) (.int .i64 pc)).set (o := 1) (by simp) (.slice none 0 0)).set (o := 2) (by simp) (.slice none 0 0)).set (o := 3) (by simp) (.slice none 0 0)
    have FV := Ry.frSet4 w7 (q + 3) (.int .i64 pc) (.slice none 0 0) (.slice none 0 0) (.slice none 0 0)
    obtain ⟨V, hV⟩ : ∃ V, (((w7.setCell ⟨q + 3, 0, none⟩ (.int .i64 pc)).setCell ⟨q + 3, 1, none⟩ (.slice none 0 0)).setCell ⟨q + 3, 2, none⟩ (.slice none 0 0)).setCell ⟨q + 3, 3, none⟩ (.slice none 0 0) = V := ⟨_, rfl⟩
    rw [hV] at RV FV
    have HVV : Hid (_ = V) := hV
    have BV : Hid (Below q w V) := FV.below B7 (by omega) (by omega)
    have v0 := RV.at_ 0 _ rfl
    have v1 := RV.at_ 1 _ rfl
    have v2 := RV.at_ 2 _ rfl
    have v3 := RV.at_ 3 _ rfl
    clear hV RV FV rb7 B7
    go_wp2
    rw [HVV.out]
    refine bodyPost_ret (v := .agg #[.int .i64 pc, .slice none 0 0, .slice none 0 0, .slice none 0 0]) (by simp [results, Tryz.results9, go_sem, v0, v1, v2, v3]) rfl ?_
    exact mp_nil HQ.out HC.out BV.out
end Go.Proofs.YtcfnkndbhpdfnaaGreatDoor.Tm
set_option linter.unusedVariables false
namespace Go.Proofs.YtcfnkndbhpdfnaaGreatDoor.Pv
open Go.ChangeShapes Go.WideShapes Go.ChangeAt Go.RowKit
theorem rowFl (f0 f2 g0 g2 h0 h2 : ByteArray) (f1 g1 h1 : Int) (w : World) : Fl.OB (w.alloc (.cells #[.string f0, .int .i64 f1, .string f2, .string g0, .int .i64 g1, .string g2, .string h0, .int .i64 h1, .string h2] 34)).heap.size (w.alloc (.cells #[.string f0, .int .i64 f1, .string f2, .string g0, .int .i64 g1, .string g2, .string h0, .int .i64 h1, .string h2] 34)) (some ⟨w.heap.size, 0, none⟩) [((f0, f1, f2) : Fl.Ob), (g0, g1, g2), (h0, h1, h2)] := by
 have R := Rs.new w #[.string f0, .int .i64 f1, .string f2, .string g0, .int .i64 g1, .string g2, .string h0, .int .i64 h1, .string h2] 34
 have hs : w.heap.size < (w.alloc (.cells #[.string f0, .int .i64 f1, .string f2, .string g0, .int .i64 g1, .string g2, .string h0, .int .i64 h1, .string h2] 34)).heap.size := by simp
 intro k hk
 have e : k = 0 \/ k = 1 \/ k = 2 := by
  have : k < 3 := hk
  omega
 rcases e with rfl | rfl | rfl
 ·exact ⟨w.heap.size, 0, rfl, hs, R 0 _ rfl, R 1 _ rfl, R 2 _ rfl⟩
 ·exact ⟨w.heap.size, 0, rfl, hs, R 3 _ rfl, R 4 _ rfl, R 5 _ rfl⟩
 ·exact ⟨w.heap.size, 0, rfl, hs, R 6 _ rfl, R 7 _ rfl, R 8 _ rfl⟩
end Go.Proofs.YtcfnkndbhpdfnaaGreatDoor.Pv
