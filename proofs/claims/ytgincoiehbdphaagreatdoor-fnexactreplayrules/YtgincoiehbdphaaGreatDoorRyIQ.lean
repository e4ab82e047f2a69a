/- ReplayRules of the program: the answer. No statement is proved here. -/
import Derived.Test.YtgincoiehbdphaaGreatDoorPvDQ
import Derived.Test.YtgincoiehbdphaaGreatDoorRyMQ
set_option linter.unusedVariables false
namespace Go.Proofs.YtgincoiehbdphaaGreatDoor.Ry
open Go.ChangeShapes Go.WideShapes Go.ChangeAt Go.RowKit
open Go.Proofs.YtgincoiehbdphaaGreatDoor.Pv
theorem frSet4 (w : World) (q : Nat) (a b c d : Value) : Fr q (q + 1) w ((((w.setCell ⟨q, 0, none⟩ a).setCell ⟨q, 1, none⟩ b).setCell ⟨q, 2, none⟩ c).setCell ⟨q, 3, none⟩ d) := by
 have one : ∀ (w : World) (o : Nat) (v : Value), Fr q (q + 1) w (w.setCell ⟨q, o, none⟩ v) := fun w o v => Fr.ofGrown (grownSet w q o v) (fun j hj => by cases hj; omega)
 exact (((one _ _ _).trans (one _ _ _)).trans (one _ _ _)).trans (one _ _ _)
theorem ob_memR (l : List Ru.Ob) (k : Nat) (h : k < l.length) : l.getD k Ru.onil ∈ l := by
 rw [List.getD, List.getElem?_eq_getElem h]; exact List.getElem_mem h
theorem shapeY {w : World} {base : Nat} {e : TypeId} {s : Nat} {v : Value} {n : Nat} {xs : List Value} (h : w.ownsRow base e s v n xs) : ∃ a c, v = .slice a n c := by
 rcases h.2 with ⟨h', h0⟩ | ⟨g, c, cur, h', _⟩
 ·exact ⟨none, 0, by rw [h', h0]⟩
 ·exact ⟨_, _, h'⟩
structure St (B P2 : Nat) (st : List Ob) (l : List En.Ob) (R : List Ru.Ob) (c : List ByteArray) (Zr : Int × Int × List Ob × List En.Ob) (W0 : World) (k : Nat) (d : Int) (M O : List Ob) (I : List En.Ob) (vI : Value) (wr : World) : Prop where
 rf : Rf wr (P2 + 1) [.map (some P2), .int .i64 (M.length : Int)]
 sh : Sh wr P2 M
 perm : M.Perm O
 small : SmallO M
 inv : Inv l c k O I
 own : wr.ownsRow B 106 4 vI I.length (En.ocells I)
 res : ryF st l R (c.drop k) d O I = Zr
 fr : Fr P2 (P2 + 2) W0 wr
set_option maxRecDepth 20000 in
set_option maxHeartbeats 8000000 in
theorem implReplayRules (a1 : Option Addr) (c1 : Nat) (st : List Ob) (a2 : Option Addr) (c2 : Nat) (l : List En.Ob) (a3 : Option Addr) (c3 : Nat) (R : List Ru.Ob) (w : World) (h1 : OB w.heap.size w a1 st) (hs1 : SmallO st) (n1 : st.length <= 1048576) (h2 : En.OB w.heap.size w a2 l) (hs2 : En.SmallO l) (n2 : l.length <= 1048576) (h3 : Ru.OB w.heap.size w a3 R) (hs3 : Ru.SmallO R) (n3 : R.length <= 1048576) (hT : No.TaG w) (hgB : 3 < w.heap.size) :
  Calls Tryz.prog 21 #[.slice a1 st.length c1, .slice a2 l.length c2, .slice a3 R.length c3] w fun e w' => RP (rrC st l R) (rrZ st l R) w e w' := by
 obtain ⟨q, hq⟩ : ∃ q, w.heap.size = q := ⟨_, rfl⟩
 have HQ : Hid (w.heap.size = q) := hq
 obtain ⟨W1, hW1⟩ : ∃ W, w.alloc (.cells #[.int .i64 0, .int .i64 0, .slice none 0 0, .slice none 0 0] 46) = W := ⟨_, rfl⟩
 have b1 : Below q w W1 := by rw [<- hW1, <- hq]; exact (Below.refl _ _).alloc (Nat.le_refl _) _
 have rb : Rf W1 q [.int .i64 0, .int .i64 0, .slice none 0 0, .slice none 0 0] := by rw [<- hW1, <- hq]; exact Rf.new w #[.int .i64 0, .int .i64 0, .slice none 0 0, .slice none 0 0] _
 have z1 : q + 1 <= W1.heap.size := by rw [<- hW1, <- hq]; simp
 have HRR : Hid (∀ W, Below q w W -> OB W.heap.size W a1 st /\ En.OB W.heap.size W a2 l /\ Ru.OB W.heap.size W a3 R /\ No.TaG W /\ 3 < W.heap.size) := fun W bW => by
  rw [<- hq] at bW
  exact ⟨(h1.below bW).mono bW.size, (h2.below bW).mono bW.size, (h3.below bW).mono bW.size, hT.below bW hgB, Nat.lt_of_lt_of_le hgB bW.size⟩
 clear h1 h2 h3 hT hgB
 obtain ⟨x1, x2, x3, _, _⟩ := HRR.out W1 b1
 have hA := implStoreFault a1 c1 st W1 x1 hs1 n1
 clear x1 x2 x3
 by_cases e0 : sf st = 0
 rotate_left
 ·have HC : Hid (rrC st l R = sf st /\ rrZ st l R = (0, [], [])) := rr_store e0
  have qn : (sf st != 0) = true := by simpa using e0
  obtain ⟨C, hC⟩ : ∃ C, sf st = C := ⟨_, rfl⟩
  rw [hC] at hA HC qn
  clear hC e0
  go_enter Tryz.func21, Tryz.ntmps21
  go_wp2_with fail
  refine hA.mono ?_; rintro e w2 ⟨rfl, b2⟩
  have B2 : Below q w w2 := b1.trans (b2.mono (by omega))
  have rb2 := rb.below (by omega) b2
  have zz : q <= w2.heap.size := by have := b2.size; omega
  clear hA hW1 hq b1 b2 rb z1
  have y0 := rb2.at_ 0 _ rfl
  have k0 := rb2.fz 0
  have y1 := rb2.at_ 1 _ rfl
  have k1 := rb2.fz 1
  have y2 := rb2.at_ 2 _ rfl
  have k2 := rb2.fz 2
  have y3 := rb2.at_ 3 _ rfl
  have k3 := rb2.fz 3
  have RV := (((rb2.set (o := 0) (by simp) (.int .i64 C)).set (o := 1) (by simp) (.int .i64 0)).set (o := 2) (by simp) (.slice none 0 0)).set (o := 3) (by simp) (.slice none 0 0)
  have FV := frSet4 w2 q (.int .i64 C) (.int .i64 0) (.slice none 0 0) (.slice none 0 0)
  obtain ⟨V, hV⟩ : ∃ V, (((w2.setCell ⟨q, 0, none⟩ (.int .i64 C)).setCell ⟨q, 1, none⟩ (.int .i64 0)).setCell ⟨q, 2, none⟩ (.slice none 0 0)).setCell ⟨q, 3, none⟩ (.slice none 0 0) = V := ⟨_, rfl⟩
  rw [hV] at RV FV
  have HVV : Hid (_ = V) := hV
  have BV : Hid (Below q w V) := FV.below B2 (Nat.le_refl _) (by omega)
  have v0 := RV.at_ 0 _ rfl
  have v1 := RV.at_ 1 _ rfl
  have v2 := RV.at_ 2 _ rfl
  have v3 := RV.at_ 3 _ rfl
  clear hV RV rb2
  clear FV B2
  go_wp2
  rw [HVV.out]
  refine bodyPost_ret (v := .agg #[.int .i64 C, .int .i64 0, .slice none 0 0, .slice none 0 0]) (by simp [results, Tryz.results21, go_sem, v0, v1, v2, v3]) rfl ?_
  exact rp_nil HQ.out HC.out.1 HC.out.2 BV.out
 rw [e0] at hA
 go_enter Tryz.func21, Tryz.ntmps21
 go_wp2_with fail
 refine hA.mono ?_; rintro e w2 ⟨rfl, b2⟩
 have B2 : Below q w w2 := b1.trans (b2.mono (by omega))
 have rb2 := rb.below (by omega) b2
 have z2 := Nat.le_trans z1 b2.size
 obtain ⟨x1, x2, x3, _, _⟩ := HRR.out w2 B2
 have hI := En.implIndexFault a2 c2 l w2 x2 hs2 n2
 clear hA hW1 hq b1 b2 rb z1 x1 x2 x3
 by_cases e1 : En.ixf l = 0
 rotate_left
 ·have HC : Hid (rrC st l R = En.ixf l /\ rrZ st l R = (0, [], [])) := rr_index e0 e1
  have qn : (En.ixf l != 0) = true := by simpa using e1
  obtain ⟨C, hC⟩ : ∃ C, En.ixf l = C := ⟨_, rfl⟩
  rw [hC] at hI HC qn
  clear hC e0 e1
  go_wp2_with fail
  refine hI.mono ?_; rintro e w3 ⟨rfl, b3⟩
  have B3 : Below q w w3 := B2.trans (b3.mono (by omega))
  have rb3 := rb2.below (by omega) b3
  have zz : q <= w3.heap.size := by have := b3.size; omega
  clear hI B2 b3 rb2 z2
  have y0 := rb3.at_ 0 _ rfl
  have k0 := rb3.fz 0
  have y1 := rb3.at_ 1 _ rfl
  have k1 := rb3.fz 1
  have y2 := rb3.at_ 2 _ rfl
  have k2 := rb3.fz 2
  have y3 := rb3.at_ 3 _ rfl
  have k3 := rb3.fz 3
  have RV := (((rb3.set (o := 0) (by simp) (.int .i64 C)).set (o := 1) (by simp) (.int .i64 0)).set (o := 2) (by simp) (.slice none 0 0)).set (o := 3) (by simp) (.slice none 0 0)
  have FV := frSet4 w3 q (.int .i64 C) (.int .i64 0) (.slice none 0 0) (.slice none 0 0)
  obtain ⟨V, hV⟩ : ∃ V, (((w3.setCell ⟨q, 0, none⟩ (.int .i64 C)).setCell ⟨q, 1, none⟩ (.int .i64 0)).setCell ⟨q, 2, none⟩ (.slice none 0 0)).setCell ⟨q, 3, none⟩ (.slice none 0 0) = V := ⟨_, rfl⟩
  rw [hV] at RV FV
  have HVV : Hid (_ = V) := hV
  have BV : Hid (Below q w V) := FV.below B3 (Nat.le_refl _) (by omega)
  have v0 := RV.at_ 0 _ rfl
  have v1 := RV.at_ 1 _ rfl
  have v2 := RV.at_ 2 _ rfl
  have v3 := RV.at_ 3 _ rfl
  clear hV RV rb3
  clear FV B3
  go_wp2
  rw [HVV.out]
  refine bodyPost_ret (v := .agg #[.int .i64 C, .int .i64 0, .slice none 0 0, .slice none 0 0]) (by simp [results, Tryz.results21, go_sem, v0, v1, v2, v3]) rfl ?_
  exact rp_nil HQ.out HC.out.1 HC.out.2 BV.out
 rw [e1] at hI
 go_wp2_with fail
 refine hI.mono ?_; rintro e w3 ⟨rfl, b3⟩
 have B3 : Below q w w3 := B2.trans (b3.mono (by omega))
 have rb3 := rb2.below (by omega) b3
 have z3 := Nat.le_trans z2 b3.size
 obtain ⟨x1, x2, x3, _, _⟩ := HRR.out w3 B3
 have hF := Ru.implRulesFault a3 c3 R w3 x3 hs3 n3
 clear hI b3 B2 rb2 z2 x1 x2 x3
 by_cases e2 : Ru.rf R = 0
 rotate_left
 ·have HC : Hid (rrC st l R = Ru.rf R /\ rrZ st l R = (0, [], [])) := rr_rules e0 e1 e2
  have qn : (Ru.rf R != 0) = true := by simpa using e2
  obtain ⟨C, hC⟩ : ∃ C, Ru.rf R = C := ⟨_, rfl⟩
  rw [hC] at hF HC qn
  clear hC e0 e1 e2
  go_wp2_with fail
  refine hF.mono ?_; rintro e w4 ⟨rfl, b4⟩
  have B4 : Below q w w4 := B3.trans (b4.mono (by omega))
  have rb4 := rb3.below (by omega) b4
  have zz : q <= w4.heap.size := by have := b4.size; omega
  clear hF B3 b4 rb3 z3
  have y0 := rb4.at_ 0 _ rfl
  have k0 := rb4.fz 0
  have y1 := rb4.at_ 1 _ rfl
  have k1 := rb4.fz 1
  have y2 := rb4.at_ 2 _ rfl
  have k2 := rb4.fz 2
  have y3 := rb4.at_ 3 _ rfl
  have k3 := rb4.fz 3
  have RV := (((rb4.set (o := 0) (by simp) (.int .i64 C)).set (o := 1) (by simp) (.int .i64 0)).set (o := 2) (by simp) (.slice none 0 0)).set (o := 3) (by simp) (.slice none 0 0)
  have FV := frSet4 w4 q (.int .i64 C) (.int .i64 0) (.slice none 0 0) (.slice none 0 0)
  obtain ⟨V, hV⟩ : ∃ V, (((w4.setCell ⟨q, 0, none⟩ (.int .i64 C)).setCell ⟨q, 1, none⟩ (.int .i64 0)).setCell ⟨q, 2, none⟩ (.slice none 0 0)).setCell ⟨q, 3, none⟩ (.slice none 0 0) = V := ⟨_, rfl⟩
  rw [hV] at RV FV
  have HVV : Hid (_ = V) := hV
  have BV : Hid (Below q w V) := FV.below B4 (Nat.le_refl _) (by omega)
  have v0 := RV.at_ 0 _ rfl
  have v1 := RV.at_ 1 _ rfl
  have v2 := RV.at_ 2 _ rfl
  have v3 := RV.at_ 3 _ rfl
  clear hV RV rb4
  clear FV B4
  go_wp2
  rw [HVV.out]
  refine bodyPost_ret (v := .agg #[.int .i64 C, .int .i64 0, .slice none 0 0, .slice none 0 0]) (by simp [results, Tryz.results21, go_sem, v0, v1, v2, v3]) rfl ?_
  exact rp_nil HQ.out HC.out.1 HC.out.2 BV.out
 rw [e2] at hF
 go_wp2_with fail
 refine hF.mono ?_; rintro e w4 ⟨rfl, b4⟩
 have B4 : Below q w w4 := B3.trans (b4.mono (by omega))
 have rb4 := rb3.below (by omega) b4
 have z4 := Nat.le_trans z3 b4.size
 clear hF b4 B3 rb3 z3
 obtain ⟨x1, _, _, _, _⟩ := HRR.out w4 B4
 have hSh := shelfOfC a1 c1 st w4 x1 e0
 clear x1
 obtain ⟨P1, hP1⟩ : ∃ P, w4.heap.size = P := ⟨_, rfl⟩
 rw [hP1] at hSh z4
 go_wp2_with fail
 refine hSh.mono ?_; rintro e w5 ⟨rfl, r5, s5, b5, zz5⟩
 have B5 : Below q w w5 := B4.trans (b5.mono (by omega))
 have rb5 := rb4.below (by omega) (by rw [hP1]; exact b5)
 clear hSh b5 B4 rb4 hP1
 obtain ⟨x1, _, _, _, _⟩ := HRR.out w5 B5
 have hSh := shelfOfC a1 c1 st w5 x1 e0
 clear x1
 obtain ⟨P2, hP2⟩ : ∃ P, w5.heap.size = P := ⟨_, rfl⟩
 rw [hP2] at hSh zz5
 go_wp2_with fail
 refine hSh.mono ?_; rintro e w6 ⟨rfl, r6, s6, b6, zz6⟩
 have B6 : Below q w w6 := B5.trans (b6.mono (by omega))
 have b6' : Below w5.heap.size w5 w6 := by rw [hP2]; exact b6
 have rb6 := rb5.below (by omega) b6'
 have rg6 := r5.below (by omega) b6'
 have sg6 := s5.below b6'
 clear hSh b6 b6' B5 rb5 hP2 r5 s5
 obtain ⟨_, x2, _, _, _⟩ := HRR.out w6 B6
 have hIx := En.indexOfC a2 c2 l w6 x2 hs2 e1
 clear x2
 obtain ⟨P3, hP3⟩ : ∃ P, w6.heap.size = P := ⟨_, rfl⟩
 rw [hP3] at hIx zz6
 go_wp2_with fail
 refine hIx.mono ?_; rintro e w7 ⟨rfl, ⟨vI, sI⟩, b7⟩
 obtain ⟨ia, ic, ev⟩ := shapeY sI.own
 subst ev
 have b7' : Below w6.heap.size w6 w7 := by rw [hP3]; exact b7
 have B7 : Below q w w7 := B6.trans (b7.mono (by omega))
 have rb7 := rb6.below (by omega) b7'
 have rg7 := rg6.below (by omega) b7'
 have sg7 := sg6.below b7'
 have r7 := r6.below (by omega) b7'
 have s7 := s6.below b7'
 have z7 : P3 <= w7.heap.size := by rw [<- hP3]; exact b7'.size
 have i0 := sI.rf.at_ 1 _ rfl
 have oI : w7.ownsRow (P2 + 2) 106 4 (.slice ia l.length ic) l.length (En.ocells l) := ownMonoO sI.own (by omega)
 clear hIx b7 b7' B6 rb6 rg6 sg6 r6 s6 sI hP3
 obtain ⟨_, x2, _, _, _⟩ := HRR.out w7 B7
 have hCl := En.clashesInC a2 c2 l w7 x2 hs2 e1
 clear x2
 obtain ⟨c, hc⟩ : ∃ c, En.cl l = c := ⟨_, rfl⟩
 have HCL : Hid (c = En.cl l) := hc.symm
 rw [hc] at hCl
 obtain ⟨P4, hP4⟩ : ∃ P, w7.heap.size = P := ⟨_, rfl⟩
 have hCl' : Calls Tryz.prog 67 #[.slice a2 l.length c2] w7 fun e w' => e = .returned (.pointer (some ⟨P4, 0, none⟩)) /\ (∃ v, En.ST w' P4 c v) /\ Below P4 w7 w' := by rw [<- hP4]; exact hCl
 clear hCl
 go_wp2_with fail
 refine hCl'.mono ?_; rintro e w8 ⟨rfl, ⟨vC, sC⟩, b8⟩
 obtain ⟨ca, cc, ev⟩ := shapeY sC.own
 subst ev
 have b8' : Below w7.heap.size w7 w8 := by rw [hP4]; exact b8
 rw [hP4] at z7
 have B8 : Below q w w8 := B7.trans (b8.mono (by omega))
 have rb8 := rb7.below (by omega) b8'
 have rg8 := rg7.below (by omega) b8'
 have sg8 := sg7.below b8'
 have r8 := r7.below (by omega) b8'
 have s8 := s7.below b8'
 have oI8 : w8.ownsRow (P2 + 2) 106 4 (.slice ia l.length ic) l.length (En.ocells l) := (Fr.ofBelow (lo := 0) (hi := 0) b8').own oI (fun _ _ => .inr (Nat.zero_le _))
 have z8 : P4 <= w8.heap.size := by rw [<- hP4]; exact b8'.size
 have c0 := sC.rf.at_ 1 _ rfl
 have oC : w8.ownsRow (P2 + 2) 9 1 (.slice ca c.length cc) c.length (c.map Value.string) := ownMonoO sC.own (by omega)
 have cln : c.length <= 200 := by have h8 := En.cl_len l l.length; rw [List.take_length, hc] at h8; have := (En.ixf_zero e1).1; omega
 have hcs : ∀ x ∈ c, x.size <= 1048576 := fun x hx => by
  rw [<- hc] at hx
  obtain ⟨k9, hk9, _, e10⟩ := En.has_cl.1 (En.hasB_mem.2 hx)
  rw [<- e10]; exact (hs2 _ hk9).1
 obtain ⟨Zr, hZr⟩ : ∃ Z, ryF st l R c 0 st l = Z := ⟨_, rfl⟩
 have HF0 : Hid (rrC st l R = Zr.1 /\ rrZ st l R = Zr.2) := by
  have h9 := rr_ok e0 e1 e2
  rw [hc, hZr] at h9
  exact h9
 have HS0 : Hid (St (P2 + 2) P2 st l R c Zr w8 0 0 st st l (.slice ia l.length ic) w8) := ⟨r8, s8, List.Perm.refl _, hs1, by rw [<- hc]; exact Inv.start e0 e1 hs2, oI8, by rw [List.drop_zero]; exact hZr, Fr.refl _ _ _⟩
 have hgood : Hid (sf st = 0 /\ En.ixf l = 0 /\ Ru.rf R = 0) := ⟨e0, e1, e2⟩
 have hPre := fun F0 F2 G0 G2 H0 H2 F1 G1 H1 W k1 k2 k3 k4 k5 => preOfC (P1 + 1) P1 st (.int .i64 (st.length : Int)) F0 F2 G0 G2 H0 H2 F1 G1 H1 W e0 hs1 k1 k2 k3 k4 k5
 have hVe := fun p W y => versionsAtC a2 c2 l p W y e1
 have HW8 : Hid (Below q w w8 /\ Rf w8 q [.int .i64 0, .int .i64 0, .slice none 0 0, .slice none 0 0] /\ Rf w8 (P1 + 1) [.map (some P1), .int .i64 (st.length : Int)] /\ Sh w8 P1 st /\ w8.ownsRow (P2 + 2) 9 1 (.slice ca c.length cc) c.length (c.map Value.string)) := ⟨B8, rb8, rg8, sg8, oC⟩
 have zq : q + 1 <= P1 := z4
 have zq8 : P2 + 2 <= w8.heap.size := by omega
 clear hCl' b8 b8' B7 rb7 rg7 sg7 r7 s7 sC hP4 oI oI8 r8 s8 B8 rb8 rg8 sg8 oC hZr hc e0 e1 e2 z4
 go_wp2
 go_loopw [12, 13, 53] (fun vs dn i wr => ∃ (k : Nat) (M O : List Ob) (I : List En.Ob) (d : Int) (ja : Option Addr) (jc : Nat), k <= c.length /\ i = .int .i64 k /\ dn = .int .i64 d /\ 0 <= d /\ d <= (k : Int) /\ vs = .slice ja I.length jc /\ Hid (St (P2 + 2) P2 st l R c Zr w8 k d M O I (.slice ja I.length jc) wr)) (fun _ _ i _ => c.length - (intOf i).toNat)
 case atStart => exact ⟨0, st, st, l, 0, ia, ic, Nat.zero_le _, rfl, rfl, Int.le_refl _, by omega, rfl, HS0⟩
 case round =>
  clear HS0 i0 c0
  obtain ⟨k, M, O, I, d, ja, jc, hk, rfl, rfl, hd0, hd1, rfl, hS⟩ := hrel
  have S := hS.out
  clear hS
  have zr8 := S.fr.size
  obtain ⟨B8, rb8, rg8, sg8, oC8⟩ := HW8.out
  have Br : Below q w wr := S.fr.below B8 (by omega) (by omega)
  have rbr := S.fr.rf rb8 (by omega) (.inl (by omega))
  have rgr := S.fr.rf rg8 (by omega) (.inl (by omega))
  have sgr := S.fr.sh sg8 (.inl (by omega))
  have oCr := S.fr.own oC8 (fun j hj => by have := (oC8.lt j hj).1; exact .inr (by omega))
  clear B8 rb8 rg8 sg8 oC8
  by_cases hlt : k < c.length
  ·have ql : (k : Int) < (c.length : Int) := by omega
   obtain ⟨cg, ecg, cp, _⟩ := En.rowS oCr k hlt
   subst ecg
   have hps : (c.getD k ByteArray.empty).size <= 1048576 := hcs _ (by rw [getD_at c k hlt]; exact List.getElem_mem hlt)
   obtain ⟨p, hp⟩ : ∃ p, c.getD k ByteArray.empty = p := ⟨_, rfl⟩
   have HP : Hid (c.getD k ByteArray.empty = p) := hp
   rw [hp] at cp hps
   clear hp
   obtain ⟨x1, x2, x3, x4, x5⟩ := HRR.out wr Br
   have hV := hVe p wr x2
   obtain ⟨A, hA⟩ : ∃ A, ryA st l R p = A := ⟨_, rfl⟩
   have HA : Hid (ryA st l R p = A) := hA
   have hAp : Ru.fd R (pvT st (En.vf l p 1) (En.vf l p 2) (En.vf l p 3)) = A := hA
   have HM : Hid (ryOk st l R p = (!decide (A = -1) && decide ((En.vf l p 2).2.1 = (En.vf l p 3).2.1))) := by show _ = _; unfold ryOk; rw [hA]
   have HPO : Hid (ryP st l R p = (R.getD A.toNat Ru.onil).2) := by show _ = _; unfold ryP; rw [hA]
   have hAb : A = -1 \/ ∃ j : Nat, A = j /\ j < R.length := by rw [<- hA]; exact a_bd st l R p
   have hTk := fun (e8 : ryOk st l R p = true) (e9 : pC O 1 (ryP st l R p) = 0) => S.inv.take (st := st) (R := R) HCL.out hgood.out.2.1 hs2 hgood.out.2.2 hlt HP.out e8 e9
   have HTk : Hid (ryOk st l R p = true -> pC O 1 (ryP st l R p) = 0 -> Inv l c (k + 1) (pL O 1 (ryP st l R p)) (En.rsU I p (En.vf l p 2).2.1 (pS O 1 (ryP st l R p))) /\ En.rsC I p (En.vf l p 2).2.1 (pS O 1 (ryP st l R p)) = 0 /\ En.rsL I p (En.vf l p 2).2.1 (pS O 1 (ryP st l R p)) = En.rsU I p (En.vf l p 2).2.1 (pS O 1 (ryP st l R p))) := hTk
   clear hTk hA
   obtain ⟨F, hF⟩ : ∃ F, En.vf l p 1 = F := ⟨_, rfl⟩
   obtain ⟨G, hG⟩ : ∃ F, En.vf l p 2 = F := ⟨_, rfl⟩
   obtain ⟨H, hH⟩ : ∃ F, En.vf l p 3 = F := ⟨_, rfl⟩
   obtain ⟨f0, f1, f2⟩ := F
   obtain ⟨g0, g1, g2⟩ := G
   obtain ⟨h0, h1, h2⟩ := H
   have HG : Hid (En.vf l p 2 = (g0, g1, g2)) := hG
   rw [hF, hG, hH] at hV hAp
   rw [hG] at HTk
   rw [hG, hH] at HM
   unfold VQ c9 at hV
   simp only [] at hV
   have hP9 := fun W k1 k2 k3 k4 k5 => hPre f0 f2 g0 g2 h0 h2 f1 g1 h1 W k1 k2 k3 k4 k5
   obtain ⟨C9, hC9⟩ : ∃ C, pvC st (f0, f1, f2) (g0, g1, g2) (h0, h1, h2) = C := ⟨_, rfl⟩
   obtain ⟨T9, hT9⟩ : ∃ C, pvT st (f0, f1, f2) (g0, g1, g2) (h0, h1, h2) = C := ⟨_, rfl⟩
   rw [hC9, hT9] at hP9
   rw [hT9] at hAp
   clear hF hG hH hC9 hT9 x1 x2 x3 x4 x5 hPre hVe
   go_wp2_with fail
   refine hV.mono ?_; rintro e w9 ⟨rfl, b9⟩
   obtain ⟨W9, hW9⟩ : ∃ W, w9.alloc (.cells #[.string f0, .int .i64 f1, .string f2, .string g0, .int .i64 g1, .string g2, .string h0, .int .i64 h1, .string h2] 70) = W := ⟨_, rfl⟩
   have b99 : Below w9.heap.size w9 W9 := by rw [<- hW9]; exact allocBelow _ _
   have b9' : Below wr.heap.size wr W9 := b9.trans (b99.mono b9.size)
   have rv : Rf W9 w9.heap.size [.string f0, .int .i64 f1, .string f2, .string g0, .int .i64 g1, .string g2, .string h0, .int .i64 h1, .string h2] := by rw [<- hW9]; exact Rf.new w9 #[.string f0, .int .i64 f1, .string f2, .string g0, .int .i64 g1, .string g2, .string h0, .int .i64 h1, .string h2] _
   have zv : w9.heap.size < W9.heap.size := by rw [<- hW9]; simp
   obtain ⟨vb, hvb⟩ : ∃ b, w9.heap.size = b := ⟨_, rfl⟩
   have zvb : wr.heap.size <= vb := by rw [<- hvb]; exact b9.size
   rw [hvb] at rv zv
   have B9 : Below q w W9 := Br.trans (b9'.mono (by omega))
   have rb9 := rbr.below (by omega) b9'
   have rg9 := rgr.below (by omega) b9'
   have sg9 := sgr.below b9'
   have z9 := b9'.size
   obtain ⟨_, _, x3, x4, x5⟩ := HRR.out W9 B9
   have hP := hP9 W9 rg9 (by omega) sg9 x4 x5
   have q0 := rv.at_ 0 _ rfl
   have q1 := rv.at_ 1 _ rfl
   have q2 := rv.at_ 2 _ rfl
   have q3 := rv.at_ 3 _ rfl
   have q4 := rv.at_ 4 _ rfl
   have q5 := rv.at_ 5 _ rfl
   have q6 := rv.at_ 6 _ rfl
   have q7 := rv.at_ 7 _ rfl
   have q8 := rv.at_ 8 _ rfl
   clear hV b9 b99 hP9 x3 x4 x5 cp Br rbr rgr sgr rg9 sg9
   go_wp2_with fail
   refine hP.mono ?_; rintro e w10 ⟨rfl, b10⟩
   clear q0 q1 q2 q3 q4 q5 q6 q7 q8 hW9 hvb
   have B10 : Below q w w10 := B9.trans (b10.mono (by omega))
   have b10' : Below wr.heap.size wr w10 := b9'.trans (b10.mono z9)
   have rb10 := rb9.below (by omega) b10
   have rv10 := rv.below zv b10
   have z10 := b10'.size
   have zv10 : vb < w10.heap.size := by have := b10.size; omega
   obtain ⟨_, _, x3, _, _⟩ := HRR.out w10 B10
   have hRu := Ru.ruleAt a3 c3 R T9 w10 x3 n3
   rw [hAp] at hRu
   clear hP b9' b10 B9 rb9 rv zv z9 x3 hAp
   have q4 := rv10.at_ 4 _ rfl
   have q7 := rv10.at_ 7 _ rfl
   have fl1 : ∀ W : World, (Instr.field 98 (.agg #[.int .i64 C9, .string T9]) 1).run Tryz.prog W = .ok (.string T9) W := fun W => by kernel_rfl
   go_wp2_with fail
   refine hRu.mono ?_; rintro e w11 ⟨rfl, rfl⟩
   clear hRu
   have hskip : Hid (ryOk st l R p = false -> St (P2 + 2) P2 st l R c Zr w8 (k + 1) d M O I (.slice ja I.length jc) w11) := fun e8 =>
    have F11 : Fr P2 (P2 + 2) wr w11 := Fr.ofBelow b10'
    ⟨S.rf.below (by omega) b10', S.sh.below b10', S.perm, S.small, S.inv.skip, F11.own S.own (fun j hj => .inr (S.own.lt j hj).1), by rw [<- ry_skip hlt HP.out e8]; exact S.res, S.fr.trans F11⟩
   by_cases eA : A = -1
   ·have hn := hskip.out (by rw [HM.out, eA]; rfl)
    have HN : Hid (St (P2 + 2) P2 st l R c Zr w8 (k + 1) d M O I (.slice ja I.length jc) w11) := hn
    subst eA
    clear hskip hn S HTk HM HPO HA hAb B10 b10' rb10 rv10 oCr
    go_wp2
    go_roundw
    case rel => exact ⟨k + 1, M, O, I, d, ja, jc, by omega, by go_num, rfl, hd0, by omega, rfl, HN⟩
    case measure => first | (simp [intOf]; omega) | simp [intOf]
   have qA : (A == -1) = false := by simpa using eA
   by_cases eg : g1 = h1
   rotate_left
   ·have qg : (g1 != h1) = true := by simpa using eg
    have HN : Hid (St (P2 + 2) P2 st l R c Zr w8 (k + 1) d M O I (.slice ja I.length jc) w11) := hskip.out (by rw [HM.out]; simp [eg])
    clear hskip S HTk HM HPO HA hAb B10 b10' rb10 rv10 oCr eg
    go_wp2
    go_roundw
    case rel => exact ⟨k + 1, M, O, I, d, ja, jc, by omega, by go_num, rfl, hd0, by omega, rfl, HN⟩
    case measure => first | (simp [intOf]; omega) | simp [intOf]
   have HOK : Hid (ryOk st l R p = true) := by show _ = _; rw [HM.out]; simp [eA, eg]
   clear hskip HM
   subst eg
   have qg : (g1 != g1) = false := by simp
   rcases hAb with hx | ⟨j, rfl, hj⟩
   ·exact absurd hx eA
   obtain ⟨_, _, x3, _, _⟩ := HRR.out w11 B10
   obtain ⟨rg, ro, e3, _, d0, d1⟩ := x3 j hj
   have hpost : tf (R.getD j Ru.onil).2 = 0 := post_tf hgood.out.2.2 hj
   have hjn : ((j : Int)).toNat = j := by simp
   rw [hjn] at HPO
   have hPOs : (R.getD j Ru.onil).2.size <= 1048576 := (hs3 _ (ob_memR R j hj)).2
   obtain ⟨X, hX⟩ : ∃ X, (R.getD j Ru.onil).2 = X := ⟨_, rfl⟩
   rw [hX] at d1 hpost HPO hPOs
   have hik : idK 1 X = 0 := by unfold idK; rw [if_pos (by decide), hpost]
   have Rf11 := S.rf.below (by omega) b10'
   have Sh11 := S.sh.below b10'
   have F11 : Fr P2 (P2 + 2) wr w11 := Fr.ofBelow b10'
   have own11 := F11.own S.own (fun j hj => .inr (S.own.lt j hj).1)
   have fr11 := S.fr.trans F11
   have hpe : pC M 1 X = pC O 1 X := pC_perm S.perm (asc_ids S.inv.asc)
   have hAd := addC (P2 + 1) P2 M 1 X w11 Rf11 (by omega) (by omega) Sh11 hPOs
   obtain ⟨k1, k2, k3⟩ := a_ok (l := M) hik
   have hSS : pS M 1 X = pS O 1 X := by unfold pS; rw [hpe]
   rw [k1, k2, k3, hpe, hSS] at hAd
   have hQs : SmallO (qL M 1 X) := q_small S.small hPOs
   have hQp : pC O 1 X = 0 -> (qL M 1 X).Perm (pL O 1 X) := fun e9 => (qL_perm S.perm).trans (q_perm S.inv.asc e9).2.symm
   have HQp : Hid (pC O 1 X = 0 -> (qL M 1 X).Perm (pL O 1 X)) := hQp
   have HFull : Hid (¬ pC O 1 X = 0 -> Zr = (pC O 1 X, 0, [], [])) := fun e9 => by
    have := ry_full (st := st) (l := l) (R := R) hlt HP.out HOK.out (d := d) (O := O) (I := I) (by rw [HPO.out]; exact e9)
    rw [HPO.out] at this
    exact S.res.symm.trans this
   have HNext : Hid (pC O 1 X = 0 -> ryF st l R (c.drop (k + 1)) (d + 1) (pL O 1 X) (En.rsU I p g1 (pS O 1 X)) = Zr) := fun e9 => by
    have h7 := ry_take (st := st) (l := l) (R := R) hlt HP.out HOK.out (d := d) (O := O) (I := I) (by rw [HPO.out]; exact e9)
    rw [HPO.out, HG.out] at h7
    exact h7.symm.trans S.res
   have HTk2 : Hid (pC O 1 X = 0 -> Inv l c (k + 1) (pL O 1 X) (En.rsU I p g1 (pS O 1 X)) /\ En.rsC I p g1 (pS O 1 X) = 0 /\ En.rsL I p g1 (pS O 1 X) = En.rsU I p g1 (pS O 1 X)) := fun e9 => by
    have h7 := HTk.out HOK.out
    rw [HPO.out] at h7
    exact h7 e9
   have hixI : Hid (En.ixf I = 0 /\ En.SmallO I) := ⟨S.inv.ix, S.inv.small⟩
   obtain ⟨P, hPe⟩ : ∃ P, pC O 1 X = P := ⟨_, rfl⟩
   obtain ⟨Q, hQe⟩ : ∃ Q, pL O 1 X = Q := ⟨_, rfl⟩
   obtain ⟨T, hTe⟩ : ∃ T, pS O 1 X = T := ⟨_, rfl⟩
   obtain ⟨N, hNe⟩ : ∃ T, qL M 1 X = T := ⟨_, rfl⟩
   have hTs : T.size <= 1048576 := by
    rw [<- hTe]; unfold pS; split
    ·rw [idN_size]; omega
    ·simp
   rw [hPe, hTe, hNe] at hAd
   rw [hPe, hQe, hNe] at HQp
   rw [hNe] at hQs
   rw [hPe] at HFull
   rw [hPe, hQe, hTe] at HNext HTk2
   clear HG hPe hQe hTe hNe hX hik hpe k1 k2 k3 hSS hQp HTk HPO HA x3 S F11 Rf11 Sh11 hpost hPOs b10' d0 hjn
   subst e3
   have qj : (0 : Int) <= (j : Int) := by omega
   have qj2 : (j : Int) < (R.length : Int) := by omega
   go_wp2_with fail
   refine hAd.mono ?_; rintro e w12 ⟨rfl, r12, s12, b12, z12, p12⟩
   have F12 := frAdd b12 z12 p12
   have fr12 := fr11.trans F12
   have own12 := F12.own own11 (fun j hj => .inr (own11.lt j hj).1)
   have rb12 := F12.rf rb10 (by omega) (.inl (by omega))
   have rv12 := F12.rf rv10 (by omega) (.inr (by omega))
   have B12 : Below q w w12 := F12.below B10 (by omega) (by omega)
   clear hAd b12 p12 F12 fr11 own11 rb10 rv10 B10 d1
   by_cases eP : P = 0
   rotate_left
   ·have qP : (P != 0) = true := by simpa using eP
    have HC : Hid (rrC st l R = P /\ rrZ st l R = (0, [], [])) := by
     have h7 := HFull.out eP
     have h8 := HF0.out
     rw [h7] at h8
     exact h8
    clear HFull HNext HTk2 HQp hQs eP
    have y0 := rb12.at_ 0 _ rfl
    have k0 := rb12.fz 0
    have y1 := rb12.at_ 1 _ rfl
    have k1 := rb12.fz 1
    have y2 := rb12.at_ 2 _ rfl
    have k2 := rb12.fz 2
    have y3 := rb12.at_ 3 _ rfl
    have k3 := rb12.fz 3
    have RV := (((rb12.set (o := 0) (by simp) (.int .i64 P)).set (o := 1) (by simp) (.int .i64 0)).set (o := 2) (by simp) (.slice none 0 0)).set (o := 3) (by simp) (.slice none 0 0)
    have FV := frSet4 w12 q (.int .i64 P) (.int .i64 0) (.slice none 0 0) (.slice none 0 0)
    obtain ⟨V, hV⟩ : ∃ V, (((w12.setCell ⟨q, 0, none⟩ (.int .i64 P)).setCell ⟨q, 1, none⟩ (.int .i64 0)).setCell ⟨q, 2, none⟩ (.slice none 0 0)).setCell ⟨q, 3, none⟩ (.slice none 0 0) = V := ⟨_, rfl⟩
    rw [hV] at RV FV
    have HVV : Hid (_ = V) := hV
    have BV : Hid (Below q w V) := FV.below B12 (Nat.le_refl _) (by omega)
    have v0 := RV.at_ 0 _ rfl
    have v1 := RV.at_ 1 _ rfl
    have v2 := RV.at_ 2 _ rfl
    have v3 := RV.at_ 3 _ rfl
    clear hV RV rb12
    clear FV B12 r12 s12 own12 fr12 rv12 q4 q7
    go_wp2
    rw [HVV.out]
    refine bodyPost_ret (v := .agg #[.int .i64 P, .int .i64 0, .slice none 0 0, .slice none 0 0]) (by simp [results, Tryz.results21, go_sem, v0, v1, v2, v3]) rfl ?_
    exact rp_nil HQ.out HC.out.1 HC.out.2 BV.out
   subst eP
   obtain ⟨inv', hc0, hl0⟩ := HTk2.out rfl
   have HPm := HQp.out rfl
   have HN' := HNext.out rfl
   have HI : Hid (Inv l c (k + 1) Q (En.rsU I p g1 T) /\ N.Perm Q /\ ryF st l R (c.drop (k + 1)) (d + 1) Q (En.rsU I p g1 T) = Zr) := ⟨inv', HPm, HN'⟩
   have hRs := En.implResolvePath ja jc I p g1 T w12 (En.OB.of own12) hixI.out.2 (by have := (En.ixf_zero hixI.out.1).1; omega) hps hTs
   rw [hc0, hl0] at hRs
   obtain ⟨J, hJ⟩ : ∃ J, En.rsU I p g1 T = J := ⟨_, rfl⟩
   rw [hJ] at hRs HI
   have q4 := rv12.at_ 4 _ rfl
   clear HFull HNext HTk2 HQp inv' hc0 hl0 HPm HN' hJ hixI own12 q7
   go_wp2_with fail
   refine hRs.mono ?_; rintro e w13 ⟨vJ, rfl, oJ, b13⟩
   obtain ⟨ka, kc, ev⟩ := shapeY oJ
   subst ev
   have fl2 : ∀ W : World, (Instr.field 123 (.agg #[.int .i64 0, .int .i64 0, .slice ka J.length kc]) 2).run Tryz.prog W = .ok (.slice ka J.length kc) W := fun W => by kernel_rfl
   have HN : Hid (St (P2 + 2) P2 st l R c Zr w8 (k + 1) (d + 1) N Q J (.slice ka J.length kc) w13) :=
    ⟨r12.below (by omega) b13, s12.below b13, HI.out.2.1, hQs, HI.out.1, ownMonoO oJ (by omega), HI.out.2.2, fr12.trans (Fr.ofBelow b13)⟩
   have qd : (0 : Int) <= d := hd0
   have qd2 : d <= 200 := by omega
   clear hRs r12 s12 hQs HI oJ fr12 b13 rb12 rv12 B12 q4
   go_wp2
   go_roundw
   case rel => exact ⟨k + 1, N, Q, J, d + 1, ka, kc, by omega, by go_num, by first | rfl | go_num, by omega, by omega, rfl, HN⟩
   case measure => first | (simp [intOf]; omega) | simp [intOf]
  ·have ql : ¬ (k : Int) < (c.length : Int) := by omega
   have hE : Zr = (0, d, O, I) := by rw [<- S.res, ry_end hlt]
   have HE : Hid (rrC st l R = 0 /\ rrZ st l R = (d, O, I)) := by
    have h8 := HF0.out
    rw [hE] at h8
    exact h8
   have hMl : M.length <= 200 := by rw [S.perm.length_eq]; exact S.inv.len
   have hLi := listC (P2 + 1) P2 M O _ wr S.rf S.sh ((S.perm.map (fun o : Ob => o.1)).nodup_iff.2 (asc_ids S.inv.asc)) hMl S.small S.inv.asc S.perm.symm
   have ownr := S.own
   clear hE S oCr rgr sgr hMl
   go_wp2_with fail
   refine hLi.mono ?_; rintro e w14 ⟨v5, rfl, o5, b14⟩
   obtain ⟨va, vc, ev⟩ := shapeY o5
   subst ev
   have F14 : Fr 0 0 wr w14 := Fr.ofBelow b14
   have ow14 := F14.own ownr (fun _ _ => .inr (Nat.zero_le _))
   have rb14 := rbr.below (by omega) b14
   have B14 : Below q w w14 := Br.trans (b14.mono (by omega))
   have z14 := b14.size
   have hdd : Hid (∀ j, (Value.slice va O.length vc).ownBlock = some j -> (Value.slice ja I.length jc).ownBlock ≠ some j) := fun j h7 h8 => by
    have := (o5.lt j h7).1
    have := (ownr.lt j h8).2
    omega
   clear hLi F14 b14 Br rbr
   have y0 := rb14.at_ 0 _ rfl
   have k0 := rb14.fz 0
   have y1 := rb14.at_ 1 _ rfl
   have k1 := rb14.fz 1
   have y2 := rb14.at_ 2 _ rfl
   have k2 := rb14.fz 2
   have y3 := rb14.at_ 3 _ rfl
   have k3 := rb14.fz 3
   have RV := (((rb14.set (o := 0) (by simp) (.int .i64 0)).set (o := 1) (by simp) (.int .i64 d)).set (o := 2) (by simp) (.slice va O.length vc)).set (o := 3) (by simp) (.slice ja I.length jc)
   have FV := frSet4 w14 q (.int .i64 0) (.int .i64 d) (.slice va O.length vc) (.slice ja I.length jc)
   obtain ⟨V, hV⟩ : ∃ V, (((w14.setCell ⟨q, 0, none⟩ (.int .i64 0)).setCell ⟨q, 1, none⟩ (.int .i64 d)).setCell ⟨q, 2, none⟩ (.slice va O.length vc)).setCell ⟨q, 3, none⟩ (.slice ja I.length jc) = V := ⟨_, rfl⟩
   rw [hV] at RV FV
   have HVV : Hid (_ = V) := hV
   have BV : Hid (Below q w V) := FV.below B14 (Nat.le_refl _) (by omega)
   have v0 := RV.at_ 0 _ rfl
   have v1 := RV.at_ 1 _ rfl
   have v2 := RV.at_ 2 _ rfl
   have v3 := RV.at_ 3 _ rfl
   clear hV RV rb14
   have HOS : Hid (V.ownsRow q 67 3 (.slice va O.length vc) O.length (ocells O)) := ownMonoO (FV.own o5 (fun j hj => .inr (by have := (o5.lt j hj).1; omega))) (by omega)
   have HOE : Hid (V.ownsRow q 106 4 (.slice ja I.length jc) I.length (En.ocells I)) := ownMonoO (FV.own ow14 (fun j hj => .inr (by have := (ow14.lt j hj).1; omega))) (by omega)
   clear FV B14 o5 ow14 ownr
   go_wp2
   rw [HVV.out]
   refine bodyPost_ret (v := .agg #[.int .i64 0, .int .i64 d, .slice va O.length vc, .slice ja I.length jc]) (by simp [results, Tryz.results21, go_sem, v0, v1, v2, v3]) rfl ?_
   exact rp_of HQ.out HE.out.1 HE.out.2 HOS.out HOE.out hdd.out BV.out
end Go.Proofs.YtgincoiehbdphaaGreatDoor.Ry
