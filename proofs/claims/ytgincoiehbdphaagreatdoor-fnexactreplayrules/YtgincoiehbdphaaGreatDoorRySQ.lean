/- ReplayRules of the specification: the answer. No statement is proved here. -/
import Derived.Test.YtgincoiehbdphaaGreatDoorClPQ
import Derived.Test.YtgincoiehbdphaaGreatDoorPvTQ
import Derived.Test.YtgincoiehbdphaaGreatDoorRyMQ
set_option linter.unusedVariables false
namespace Go.Proofs.YtgincoiehbdphaaGreatDoor.Ry
open Go.ChangeShapes Go.WideShapes Go.ChangeAt Go.RowKit
open Go.Proofs.YtgincoiehbdphaaGreatDoor.Pv
theorem sSet4 (w : World) (q : Nat) (a b c d : Value) : Fr q (q + 1) w ((((w.setCell ⟨q, 0, none⟩ a).setCell ⟨q, 1, none⟩ b).setCell ⟨q, 2, none⟩ c).setCell ⟨q, 3, none⟩ d) := by
 have one : ∀ (w : World) (o : Nat) (v : Value), Fr q (q + 1) w (w.setCell ⟨q, o, none⟩ v) := fun w o v => Fr.ofGrown (grownSet w q o v) (fun j hj => by cases hj; omega)
 exact (((one _ _ _).trans (one _ _ _)).trans (one _ _ _)).trans (one _ _ _)
theorem sSet1 (w : World) (q o : Nat) (v : Value) : Fr q (q + 1) w (w.setCell ⟨q, o, none⟩ v) := Fr.ofGrown (grownSet w q o v) (fun j hj => by cases hj; omega)
theorem sshape {w : World} {base : Nat} {e : TypeId} {s : Nat} {v : Value} {n : Nat} {xs : List Value} (h : w.ownsRow base e s v n xs) : ∃ a c, v = .slice a n c := by
 rcases h.2 with ⟨h', h0⟩ | ⟨g, c, cur, h', _⟩
 ·exact ⟨none, 0, by rw [h', h0]⟩
 ·exact ⟨_, _, h'⟩
theorem obS (l : List Ru.Ob) (k : Nat) (h : k < l.length) : l.getD k Ru.onil ∈ l := by
 rw [List.getD, List.getElem?_eq_getElem h]; exact List.getElem_mem h
theorem newsEn {B : Nat} {w : World} {g off : Nat} {l : List En.Ob} (h : En.OB B w (some ⟨g, off, none⟩) l) : ∀ j u, (En.ocells l)[j]? = some u -> w.cell? ((⟨g, off, none⟩ : Addr).add j) = some u := by
 intro j u hj
 have hl : j < l.length * 4 := by
  have := (List.getElem?_eq_some_iff.1 hj).1
  rw [En.ocells_length] at this; exact this
 obtain ⟨g', off', e, _, d0, d1, d2, d3⟩ := h (j / 4) (by omega)
 simp only [Option.some.injEq, Addr.mk.injEq] at e
 obtain ⟨rfl, rfl, _⟩ := e
 rw [add_plain]
 rw [En.ocells, En.rowG_at _ _ _ hl] at hj
 have hm : j % 4 = 0 \/ j % 4 = 1 \/ j % 4 = 2 \/ j % 4 = 3 := by omega
 rcases hm with e | e | e | e
 ·rw [show j = j / 4 * 4 by omega, En.ocell0] at hj
  rw [show off + j = off + j / 4 * 4 by omega, d0]; exact hj
 ·rw [show j = j / 4 * 4 + 1 by omega, En.ocell1] at hj
  rw [show off + j = off + j / 4 * 4 + 1 by omega, d1]; exact hj
 ·rw [show j = j / 4 * 4 + 2 by omega, En.ocell2] at hj
  rw [show off + j = off + j / 4 * 4 + 2 by omega, d2]; exact hj
 ·rw [show j = j / 4 * 4 + 3 by omega, En.ocell3] at hj
  rw [show off + j = off + j / 4 * 4 + 3 by omega, d3]; exact hj
theorem litE (w : World) : (w.alloc (.cells #[] 106)).ownsRow w.heap.size 106 4 (.slice (some ⟨w.heap.size, 0, none⟩) 0 0) ([] : List En.Ob).length (En.ocells []) := World.ownsRow_lit w #[] 0 (Nat.le_refl _) (Nat.zero_le _) rfl
structure Sp (B ob : Nat) (st : List Ob) (l : List En.Ob) (R : List Ru.Ob) (c : List ByteArray) (Zr : Int × Int × List Ob × List En.Ob) (W0 : World) (k : Nat) (d : Int) (O : List Ob) (I : List En.Ob) (sg sc : Nat) (ea : Option Addr) (ec : Nat) (wr : World) : Prop where
 rf : Rf wr ob [.int .i64 0, .int .i64 d, .slice (some ⟨sg, 0, none⟩) O.length sc, .slice ea I.length ec]
 oS : wr.ownsRow B 67 3 (.slice (some ⟨sg, 0, none⟩) O.length sc) O.length (ocells O)
 oE : wr.ownsRow B 106 4 (.slice ea I.length ec) I.length (En.ocells I)
 cap : O.length <= sc
 nS : ∀ j, (Value.slice (some ⟨sg, 0, none⟩) O.length sc).ownBlock = some j -> j ≠ ob
 nE : ∀ j, (Value.slice ea I.length ec).ownBlock = some j -> j ≠ ob
 dj : ∀ j, (Value.slice (some ⟨sg, 0, none⟩) O.length sc).ownBlock = some j -> (Value.slice ea I.length ec).ownBlock ≠ some j
 inv : Inv l c k O I
 res : ryF st l R (c.drop k) d O I = Zr
 fr : Fr ob (ob + 1) W0 wr
theorem Sp.step {B ob : Nat} {st : List Ob} {l : List En.Ob} {R : List Ru.Ob} {c : List ByteArray} {Zr : Int × Int × List Ob × List En.Ob} {W0 : World} {k : Nat} {d : Int} {O : List Ob} {I : List En.Ob} {sg sc : Nat} {ea : Option Addr} {ec : Nat} {wr W : World} (h : Sp B ob st l R c Zr W0 k d O I sg sc ea ec wr) (hob : ob < wr.heap.size) (hb : Below wr.heap.size wr W) : Sp B ob st l R c Zr W0 k d O I sg sc ea ec W :=
 have F : Fr 0 0 wr W := Fr.ofBelow hb
 ⟨h.rf.below hob hb, F.own h.oS (fun _ _ => .inr (Nat.zero_le _)), F.own h.oE (fun _ _ => .inr (Nat.zero_le _)), h.cap, h.nS, h.nE, h.dj, h.inv, h.res, h.fr.trans (Fr.ofBelow hb)⟩
theorem Sp.skip {B ob : Nat} {st : List Ob} {l : List En.Ob} {R : List Ru.Ob} {c : List ByteArray} {Zr : Int × Int × List Ob × List En.Ob} {W0 : World} {k : Nat} {d : Int} {O : List Ob} {I : List En.Ob} {sg sc : Nat} {ea : Option Addr} {ec : Nat} {wr : World} (h : Sp B ob st l R c Zr W0 k d O I sg sc ea ec wr) (hlt : k < c.length) {p : ByteArray} (hp : c.getD k ByteArray.empty = p) (e : ryOk st l R p = false) : Sp B ob st l R c Zr W0 (k + 1) d O I sg sc ea ec wr :=
 ⟨h.rf, h.oS, h.oE, h.cap, h.nS, h.nE, h.dj, h.inv.skip, by rw [<- ry_skip hlt hp e]; exact h.res, h.fr⟩
set_option maxRecDepth 20000 in
set_option maxHeartbeats 8000000 in
theorem specReplayRules (g1 c1 : Nat) (st : List Ob) (g2 c2 : Nat) (l : List En.Ob) (g3 c3 : Nat) (R : List Ru.Ob) (w : World) (h1 : OB w.heap.size w (some ⟨g1, 0, none⟩) st) (hs1 : SmallO st) (n1 : st.length <= 1048576) (h2 : En.OB w.heap.size w (some ⟨g2, 0, none⟩) l) (hs2 : En.SmallO l) (n2 : l.length <= 1048576) (h3 : Ru.OB w.heap.size w (some ⟨g3, 0, none⟩) R) (hs3 : Ru.SmallO R) (n3 : R.length <= 1048576) :
  Calls Tryz.prog 18 #[.slice (some ⟨g1, 0, none⟩) st.length c1, .slice (some ⟨g2, 0, none⟩) l.length c2, .slice (some ⟨g3, 0, none⟩) R.length c3] w fun e w' => RP (rrC st l R) (rrZ st l R) w e w' := by
 obtain ⟨q, hq⟩ : ∃ q, w.heap.size = q := ⟨_, rfl⟩
 have HQ : Hid (w.heap.size = q) := hq
 obtain ⟨W1, hW1⟩ : ∃ W, w.alloc (.cells #[.int .i64 0, .int .i64 0, .slice none 0 0, .slice none 0 0] 46) = W := ⟨_, rfl⟩
 have b1 : Below q w W1 := by rw [<- hW1, <- hq]; exact (Below.refl _ _).alloc (Nat.le_refl _) _
 have rb : Rf W1 q [.int .i64 0, .int .i64 0, .slice none 0 0, .slice none 0 0] := by rw [<- hW1, <- hq]; exact Rf.new w #[.int .i64 0, .int .i64 0, .slice none 0 0, .slice none 0 0] _
 have z1 : q + 1 <= W1.heap.size := by rw [<- hW1, <- hq]; simp
 have HRR : Hid (∀ W, Below q w W -> OB W.heap.size W (some ⟨g1, 0, none⟩) st /\ En.OB W.heap.size W (some ⟨g2, 0, none⟩) l /\ Ru.OB W.heap.size W (some ⟨g3, 0, none⟩) R) := fun W bW => by
  rw [<- hq] at bW
  exact ⟨(h1.below bW).mono bW.size, (h2.below bW).mono bW.size, (h3.below bW).mono bW.size⟩
 clear h1 h2 h3
 obtain ⟨x1, x2, x3⟩ := HRR.out W1 b1
 have hA := specStoreFault (some ⟨g1, 0, none⟩) c1 st W1 x1 hs1 n1
 clear x1 x2 x3
 by_cases e0 : sf st = 0
 rotate_left
 ·have HC : Hid (rrC st l R = sf st /\ rrZ st l R = (0, [], [])) := rr_store e0
  have qn : (sf st != 0) = true := by simpa using e0
  obtain ⟨C, hC⟩ : ∃ C, sf st = C := ⟨_, rfl⟩
  rw [hC] at hA HC qn
  clear hC e0
  go_enter Tryz.func18, Tryz.ntmps18
  go_wp2_with fail
  refine hA.mono ?_; rintro e w2 ⟨rfl, b2⟩
  have B2 : Below q w w2 := b1.trans (b2.mono (by omega))
  have rb2 := rb.below (by omega) b2
  have zz : q <= w2.heap.size := by have := b2.size; omega
  clear hA hW1 hq b1 b2 rb z1
  have y0 := rb2.at_ 0 _ rfl
  have k0 := rb2.fz 0
  have y1 := rb2.at_ 1 _ rfl
  have k1 := rb2.fz 1
  have y2 := rb2.at_ 2 _ rfl
  have k2 := rb2.fz 2
  have y3 := rb2.at_ 3 _ rfl
  have k3 := rb2.fz 3
  have RV := (((rb2.set (o := 0) (by simp) (.int .i64 C)).set (o := 1) (by simp) (.int .i64 0)).set (o := 2) (by simp) (.slice none 0 0)).set (o := 3) (by simp) (.slice none 0 0)
  have FV := sSet4 w2 q (.int .i64 C) (.int .i64 0) (.slice none 0 0) (.slice none 0 0)
  obtain ⟨V, hV⟩ : ∃ V, (((w2.setCell ⟨q, 0, none⟩ (.int .i64 C)).setCell ⟨q, 1, none⟩ (.int .i64 0)).setCell ⟨q, 2, none⟩ (.slice none 0 0)).setCell ⟨q, 3, none⟩ (.slice none 0 0) = V := ⟨_, rfl⟩
  rw [hV] at RV FV
  have HVV : Hid (_ = V) := hV
  have BV : Hid (Below q w V) := FV.below B2 (Nat.le_refl _) (by omega)
  have v0 := RV.at_ 0 _ rfl
  have v1 := RV.at_ 1 _ rfl
  have v2 := RV.at_ 2 _ rfl
  have v3 := RV.at_ 3 _ rfl
  clear hV RV rb2
  clear FV B2
  go_wp2
  rw [HVV.out]
  refine bodyPost_ret (v := .agg #[.int .i64 C, .int .i64 0, .slice none 0 0, .slice none 0 0]) (by simp [results, Tryz.results18, go_sem, v0, v1, v2, v3]) rfl ?_
  exact rp_nil HQ.out HC.out.1 HC.out.2 BV.out
 rw [e0] at hA
 go_enter Tryz.func18, Tryz.ntmps18
 go_wp2_with fail
 refine hA.mono ?_; rintro e w2 ⟨rfl, b2⟩
 have B2 : Below q w w2 := b1.trans (b2.mono (by omega))
 have rb2 := rb.below (by omega) b2
 have z2 := Nat.le_trans z1 b2.size
 obtain ⟨x1, x2, x3⟩ := HRR.out w2 B2
 have hI := En.specIndexFault (some ⟨g2, 0, none⟩) c2 l w2 x2 hs2 n2
 clear hA hW1 hq b1 b2 rb z1 x1 x2 x3
 by_cases e1 : En.ixf l = 0
 rotate_left
 ·have HC : Hid (rrC st l R = En.ixf l /\ rrZ st l R = (0, [], [])) := rr_index e0 e1
  have qn : (En.ixf l != 0) = true := by simpa using e1
  obtain ⟨C, hC⟩ : ∃ C, En.ixf l = C := ⟨_, rfl⟩
  rw [hC] at hI HC qn
  clear hC e0 e1
  go_wp2_with fail
  refine hI.mono ?_; rintro e w3 ⟨rfl, b3⟩
  have B3 : Below q w w3 := B2.trans (b3.mono (by omega))
  have rb3 := rb2.below (by omega) b3
  have zz : q <= w3.heap.size := by have := b3.size; omega
  clear hI B2 b3 rb2 z2
  have y0 := rb3.at_ 0 _ rfl
  have k0 := rb3.fz 0
  have y1 := rb3.at_ 1 _ rfl
  have k1 := rb3.fz 1
  have y2 := rb3.at_ 2 _ rfl
  have k2 := rb3.fz 2
  have y3 := rb3.at_ 3 _ rfl
  have k3 := rb3.fz 3
  have RV := (((rb3.set (o := 0) (by simp) (.int .i64 C)).set (o := 1) (by simp) (.int .i64 0)).set (o := 2) (by simp) (.slice none 0 0)).set (o := 3) (by simp) (.slice none 0 0)
  have FV := sSet4 w3 q (.int .i64 C) (.int .i64 0) (.slice none 0 0) (.slice none 0 0)
  obtain ⟨V, hV⟩ : ∃ V, (((w3.setCell ⟨q, 0, none⟩ (.int .i64 C)).setCell ⟨q, 1, none⟩ (.int .i64 0)).setCell ⟨q, 2, none⟩ (.slice none 0 0)).setCell ⟨q, 3, none⟩ (.slice none 0 0) = V := ⟨_, rfl⟩
  rw [hV] at RV FV
  have HVV : Hid (_ = V) := hV
  have BV : Hid (Below q w V) := FV.below B3 (Nat.le_refl _) (by omega)
  have v0 := RV.at_ 0 _ rfl
  have v1 := RV.at_ 1 _ rfl
  have v2 := RV.at_ 2 _ rfl
  have v3 := RV.at_ 3 _ rfl
  clear hV RV rb3
  clear FV B3
  go_wp2
  rw [HVV.out]
  refine bodyPost_ret (v := .agg #[.int .i64 C, .int .i64 0, .slice none 0 0, .slice none 0 0]) (by simp [results, Tryz.results18, go_sem, v0, v1, v2, v3]) rfl ?_
  exact rp_nil HQ.out HC.out.1 HC.out.2 BV.out
 rw [e1] at hI
 go_wp2_with fail
 refine hI.mono ?_; rintro e w3 ⟨rfl, b3⟩
 have B3 : Below q w w3 := B2.trans (b3.mono (by omega))
 have rb3 := rb2.below (by omega) b3
 have z3 := Nat.le_trans z2 b3.size
 obtain ⟨x1, x2, x3⟩ := HRR.out w3 B3
 have hF := Ru.specRulesFault (some ⟨g3, 0, none⟩) c3 R w3 x3 hs3 n3
 clear hI b3 B2 rb2 z2 x1 x2 x3
 by_cases e2 : Ru.rf R = 0
 rotate_left
 ·have HC : Hid (rrC st l R = Ru.rf R /\ rrZ st l R = (0, [], [])) := rr_rules e0 e1 e2
  have qn : (Ru.rf R != 0) = true := by simpa using e2
  obtain ⟨C, hC⟩ : ∃ C, Ru.rf R = C := ⟨_, rfl⟩
  rw [hC] at hF HC qn
  clear hC e0 e1 e2
  go_wp2_with fail
  refine hF.mono ?_; rintro e w4 ⟨rfl, b4⟩
  have B4 : Below q w w4 := B3.trans (b4.mono (by omega))
  have rb4 := rb3.below (by omega) b4
  have zz : q <= w4.heap.size := by have := b4.size; omega
  clear hF B3 b4 rb3 z3
  have y0 := rb4.at_ 0 _ rfl
  have k0 := rb4.fz 0
  have y1 := rb4.at_ 1 _ rfl
  have k1 := rb4.fz 1
  have y2 := rb4.at_ 2 _ rfl
  have k2 := rb4.fz 2
  have y3 := rb4.at_ 3 _ rfl
  have k3 := rb4.fz 3
  have RV := (((rb4.set (o := 0) (by simp) (.int .i64 C)).set (o := 1) (by simp) (.int .i64 0)).set (o := 2) (by simp) (.slice none 0 0)).set (o := 3) (by simp) (.slice none 0 0)
  have FV := sSet4 w4 q (.int .i64 C) (.int .i64 0) (.slice none 0 0) (.slice none 0 0)
  obtain ⟨V, hV⟩ : ∃ V, (((w4.setCell ⟨q, 0, none⟩ (.int .i64 C)).setCell ⟨q, 1, none⟩ (.int .i64 0)).setCell ⟨q, 2, none⟩ (.slice none 0 0)).setCell ⟨q, 3, none⟩ (.slice none 0 0) = V := ⟨_, rfl⟩
  rw [hV] at RV FV
  have HVV : Hid (_ = V) := hV
  have BV : Hid (Below q w V) := FV.below B4 (Nat.le_refl _) (by omega)
  have v0 := RV.at_ 0 _ rfl
  have v1 := RV.at_ 1 _ rfl
  have v2 := RV.at_ 2 _ rfl
  have v3 := RV.at_ 3 _ rfl
  clear hV RV rb4
  clear FV B4
  go_wp2
  rw [HVV.out]
  refine bodyPost_ret (v := .agg #[.int .i64 C, .int .i64 0, .slice none 0 0, .slice none 0 0]) (by simp [results, Tryz.results18, go_sem, v0, v1, v2, v3]) rfl ?_
  exact rp_nil HQ.out HC.out.1 HC.out.2 BV.out
 rw [e2] at hF
 go_wp2_with fail
 refine hF.mono ?_; rintro e w4 ⟨rfl, b4⟩
 have B4 : Below q w w4 := B3.trans (b4.mono (by omega))
 have rb4 := rb3.below (by omega) b4
 have z4 := Nat.le_trans z3 b4.size
 clear hF b4 B3 rb3 z3
 obtain ⟨x1, _, _⟩ := HRR.out w4 B4
 have hCo := l5Copy g1 0 c1 st w4 x1 n1
 clear x1
 go_wp2_with fail
 refine hCo.mono ?_; rintro e w5 ⟨v5, rfl, n5, o5, b5⟩
 obtain ⟨sg, sc, ev, hsc⟩ := notNil o5 n5
 subst ev
 have B5 : Below q w w5 := B4.trans (b5.mono (by omega))
 have rb5 := rb4.below (by omega) b5
 have z5 : q + 1 <= w5.heap.size := Nat.le_trans z4 b5.size
 have o5' : w5.ownsRow (q + 1) 67 3 (.slice (some ⟨sg, 0, none⟩) st.length sc) st.length (ocells st) := ownMonoO o5 z4
 clear hCo b5 B4 rb4 n5 o5 z4
 obtain ⟨WL, hWL⟩ : ∃ W, w5.alloc (.cells #[] 106) = W := ⟨_, rfl⟩
 have bL : Below w5.heap.size w5 WL := by rw [<- hWL]; exact allocBelow _ _
 have o1 := litE w5
 rw [hWL] at o1
 have BL : Below q w WL := B5.trans (bL.mono (by omega))
 have rbL := rb5.below (by omega) bL
 have oSL : WL.ownsRow (q + 1) 67 3 (.slice (some ⟨sg, 0, none⟩) st.length sc) st.length (ocells st) := (Fr.ofBelow (lo := 0) (hi := 0) bL).own o5' (fun _ _ => .inr (Nat.zero_le _))
 have zSL := fun j hj => (o5'.lt j hj).2
 obtain ⟨_, x2, _⟩ := HRR.out WL BL
 have s1 := newsEn x2
 have zL := bL.size
 clear bL x2 B5 rb5 o5'
 go_wp2_with (at_builtin; refine En.wpList_appE rfl (.tmp 39) (.tmp 40) rfl w5.heap.size _ _ rfl o1 _ _ _ rfl s1 (by simp; omega) (by omega) ?_; intro v6 w6 o6 g6 n6 k6; simp only [List.nil_append] at o6; obtain ⟨ea, ec, rfl⟩ := sshape o6)
 have B6 : Below q w w6 := BL.grown g6 (by omega) (fun j hj => by have := (o1.lt j hj).1; omega)
 have rb6 : Rf w6 q [.int .i64 0, .int .i64 0, .slice none 0 0, .slice none 0 0] := rbL.ofBlock (g6.block q (by omega) (fun e => by have := (o1.lt _ e.symm).1; omega))
 have oS6 : w6.ownsRow (q + 1) 67 3 (.slice (some ⟨sg, 0, none⟩) st.length sc) st.length (ocells st) := oSL.kept g6 (blockCases _ _ fun b h8 h9 => by have := zSL b h8; have := (o1.lt b h9).1; omega)
 have oE6 : w6.ownsRow (q + 1) 106 4 (.slice ea l.length ec) l.length (En.ocells l) := ownMonoO o6 (by omega)
 have zE6 := fun j hj => (o6.lt j hj).1
 have zw6 : w5.heap.size <= w6.heap.size := Nat.le_trans zL g6.size
 clear hWL o1 s1 g6 n6 k6 o6 BL rbL oSL zL
 obtain ⟨W7, hW7⟩ : ∃ W, w6.alloc (.cells #[.int .i64 0, .int .i64 0, .slice (some ⟨sg, 0, none⟩) st.length sc, .slice ea l.length ec] 46) = W := ⟨_, rfl⟩
 have b7 : Below w6.heap.size w6 W7 := by rw [<- hW7]; exact allocBelow _ _
 have ro7 : Rf W7 w6.heap.size [.int .i64 0, .int .i64 0, .slice (some ⟨sg, 0, none⟩) st.length sc, .slice ea l.length ec] := by rw [<- hW7]; exact Rf.new _ #[.int .i64 0, .int .i64 0, .slice (some ⟨sg, 0, none⟩) st.length sc, .slice ea l.length ec] _
 have z7 : w6.heap.size < W7.heap.size := by rw [<- hW7]; simp
 obtain ⟨ob, hob⟩ : ∃ b, w6.heap.size = b := ⟨_, rfl⟩
 have B7 : Below q w W7 := B6.trans (b7.mono (by omega))
 have rb7 := rb6.below (by omega) b7
 have F7 : Fr 0 0 w6 W7 := Fr.ofBelow b7
 have oS7 := F7.own oS6 (fun _ _ => .inr (Nat.zero_le _))
 have oE7 := F7.own oE6 (fun _ _ => .inr (Nat.zero_le _))
 have nS7 : ∀ j, (Value.slice (some ⟨sg, 0, none⟩) st.length sc).ownBlock = some j -> j ≠ ob := fun j hj => by have := (oS6.lt j hj).2; omega
 have nE7 : ∀ j, (Value.slice ea l.length ec).ownBlock = some j -> j ≠ ob := fun j hj => by have := (oE6.lt j hj).2; omega
 have dj7 : ∀ j, (Value.slice (some ⟨sg, 0, none⟩) st.length sc).ownBlock = some j -> (Value.slice ea l.length ec).ownBlock ≠ some j := fun j h8 h9 => by have := zSL j h8; have := zE6 j h9; omega
 rw [hob] at ro7 z7
 rw [hW7, hob]
 have zob : q < ob := by omega
 clear b7 B6 rb6 oS6 oE6 F7 zSL zE6 zw6 z5
 obtain ⟨_, x2, _⟩ := HRR.out W7 B7
 have hCl := En.l10ClashesC (some ⟨g2, 0, none⟩) c2 l W7 x2 e1
 clear x2 hob
 obtain ⟨c, hc⟩ : ∃ c, En.cl l = c := ⟨_, rfl⟩
 have HCL : Hid (c = En.cl l) := hc.symm
 rw [hc] at hCl
 go_wp2_with fail
 refine hCl.mono ?_; rintro e w8 ⟨cg, cc, rfl, oC, b8⟩
 have B8 : Below q w w8 := B7.trans (b8.mono (by omega))
 have rb8 := rb7.below (by omega) b8
 have ro8 := ro7.below z7 b8
 have F8 : Fr 0 0 W7 w8 := Fr.ofBelow b8
 have oS8 := F8.own oS7 (fun _ _ => .inr (Nat.zero_le _))
 have oE8 := F8.own oE7 (fun _ _ => .inr (Nat.zero_le _))
 have z8 := b8.size
 have zC := fun j hj => (oC.lt j hj).1
 have oC8 : w8.ownsRow (q + 1) 9 1 (.slice (some ⟨cg, 0, none⟩) c.length cc) c.length (c.map Value.string) := ownMonoO oC (by omega)
 have zC8 : ∀ j, (Value.slice (some ⟨cg, 0, none⟩) c.length cc).ownBlock = some j -> j ≠ ob := fun j hj => by have := zC j hj; omega
 have cln : c.length <= 200 := by have h8 := En.cl_len l l.length; rw [List.take_length, hc] at h8; have := (En.ixf_zero e1).1; omega
 have hcs : ∀ x ∈ c, x.size <= 1048576 := fun x hx => by
  rw [<- hc] at hx
  obtain ⟨k9, hk9, _, e10⟩ := En.has_cl.1 (En.hasB_mem.2 hx)
  rw [<- e10]; exact (hs2 _ hk9).1
 obtain ⟨Zr, hZr⟩ : ∃ Z, ryF st l R c 0 st l = Z := ⟨_, rfl⟩
 have HF0 : Hid (rrC st l R = Zr.1 /\ rrZ st l R = Zr.2) := by
  have h9 := rr_ok e0 e1 e2
  rw [hc, hZr] at h9
  exact h9
 have HS0 : Hid (Sp (q + 1) ob st l R c Zr w8 0 0 st l sg sc ea ec w8) := ⟨ro8, oS8, oE8, hsc, nS7, nE7, dj7, by rw [<- hc]; exact Inv.start e0 e1 hs2, by rw [List.drop_zero]; exact hZr, Fr.refl _ _ _⟩
 have hgood : Hid (sf st = 0 /\ En.ixf l = 0 /\ Ru.rf R = 0) := ⟨e0, e1, e2⟩
 have HW8 : Hid (Below q w w8 /\ Rf w8 q [.int .i64 0, .int .i64 0, .slice none 0 0, .slice none 0 0] /\ w8.ownsRow (q + 1) 9 1 (.slice (some ⟨cg, 0, none⟩) c.length cc) c.length (c.map Value.string)) := ⟨B8, rb8, oC8⟩
 have HZC : Hid (∀ j, (Value.slice (some ⟨cg, 0, none⟩) c.length cc).ownBlock = some j -> j ≠ ob) := zC8
 have zob8 : ob < w8.heap.size := by omega
 clear hCl b8 B7 rb7 ro7 oS7 oE7 hW7 nS7 nE7 dj7 F8 oS8 oE8 ro8 oC B8 rb8 oC8 zC zC8 hZr hc e0 e1 e2 z7 z8 hsc
 go_wp2
 go_loopw [12] (fun i wr => ∃ (k : Nat) (O : List Ob) (I : List En.Ob) (d : Int) (ug uc : Nat) (ja : Option Addr) (jc : Nat), k <= c.length /\ i = .int .i64 k /\ 0 <= d /\ d <= (k : Int) /\ Hid (Sp (q + 1) ob st l R c Zr w8 k d O I ug uc ja jc wr)) (fun i _ => c.length - (intOf i).toNat)
 case atStart => exact ⟨0, st, l, 0, sg, sc, ea, ec, Nat.zero_le _, rfl, Int.le_refl _, by omega, HS0⟩
 case round =>
  clear HS0
  obtain ⟨k, O, I, d, ug, uc, ja, jc, hk, rfl, hd0, hd1, hS⟩ := hrel
  have S := hS.out
  clear hS
  have zr8 := S.fr.size
  obtain ⟨B8, rb8, oC8⟩ := HW8.out
  have Br : Below q w wr := S.fr.below B8 (by omega) (by omega)
  have rbr := S.fr.rf rb8 (by omega) (.inl (by omega))
  have oCr := S.fr.own oC8 (fun j hj => by have := HZC.out j hj; omega)
  clear B8 rb8 oC8
  by_cases hlt : k < c.length
  ·have ql : (k : Int) < (c.length : Int) := by omega
   have cp := oCr.cellAt k (by omega)
   rw [List.getElem?_map, List.getElem?_eq_getElem hlt, Option.map_some, <- getD_at c k hlt] at cp
   have hps : (c.getD k ByteArray.empty).size <= 1048576 := hcs _ (by rw [getD_at c k hlt]; exact List.getElem_mem hlt)
   obtain ⟨p, hp⟩ : ∃ p, c.getD k ByteArray.empty = p := ⟨_, rfl⟩
   have HP : Hid (c.getD k ByteArray.empty = p) := hp
   rw [hp] at cp hps
   clear hp
   obtain ⟨x1, x2, x3⟩ := HRR.out wr Br
   have hPr := l13PreOfC (some ⟨g1, 0, none⟩) c1 st (some ⟨g2, 0, none⟩) c2 l p wr x1 hgood.out.1 hs1 n1 x2 n2
   have hS2 := fun W y => l13StageC (some ⟨g2, 0, none⟩) c2 l p 2 W y n2
   have hS3 := fun W y => l13StageC (some ⟨g2, 0, none⟩) c2 l p 3 W y n2
   obtain ⟨A, hA⟩ : ∃ A, ryA st l R p = A := ⟨_, rfl⟩
   have hAp : Ru.fd R (pvT st (En.vf l p 1) (En.vf l p 2) (En.vf l p 3)) = A := hA
   have HM : Hid (ryOk st l R p = (!decide (A = -1) && decide ((En.vf l p 2).2.1 = (En.vf l p 3).2.1))) := by show _ = _; unfold ryOk; rw [hA]
   have HPO : Hid (ryP st l R p = (R.getD A.toNat Ru.onil).2) := by show _ = _; unfold ryP; rw [hA]
   have hAb : A = -1 \/ ∃ j : Nat, A = j /\ j < R.length := by rw [<- hA]; exact a_bd st l R p
   have hCN : ¬ pvC st (En.vf l p 1) (En.vf l p 2) (En.vf l p 3) = 0 -> A = -1 := fun e9 => by rw [<- hA]; exact code_none hgood.out.2.2 e9
   have HTk : Hid (ryOk st l R p = true -> pC O 1 (ryP st l R p) = 0 -> Inv l c (k + 1) (pL O 1 (ryP st l R p)) (En.rsU I p (En.vf l p 2).2.1 (pS O 1 (ryP st l R p))) /\ En.rsC I p (En.vf l p 2).2.1 (pS O 1 (ryP st l R p)) = 0 /\ En.rsL I p (En.vf l p 2).2.1 (pS O 1 (ryP st l R p)) = En.rsU I p (En.vf l p 2).2.1 (pS O 1 (ryP st l R p))) := fun e8 e9 => S.inv.take (st := st) (R := R) HCL.out hgood.out.2.1 hs2 hgood.out.2.2 hlt HP.out e8 e9
   clear hA
   obtain ⟨C9, hC9⟩ : ∃ C, pvC st (En.vf l p 1) (En.vf l p 2) (En.vf l p 3) = C := ⟨_, rfl⟩
   obtain ⟨T9, hT9⟩ : ∃ C, pvT st (En.vf l p 1) (En.vf l p 2) (En.vf l p 3) = C := ⟨_, rfl⟩
   obtain ⟨G, hG⟩ : ∃ F, En.vf l p 2 = F := ⟨_, rfl⟩
   obtain ⟨H, hH⟩ : ∃ F, En.vf l p 3 = F := ⟨_, rfl⟩
   obtain ⟨m0, m1, m2⟩ := G
   obtain ⟨h0, h1, h2⟩ := H
   rw [hC9] at hPr hCN
   rw [hT9] at hPr hAp
   have HG : Hid (En.vf l p 2 = (m0, m1, m2)) := hG
   rw [hG] at HTk
   rw [hG, hH] at HM
   unfold FQ at hS2 hS3
   rw [hG] at hS2
   rw [hH] at hS3
   simp only [] at hS2 hS3
   clear hC9 hT9 hG hH x1 x2 x3
   go_wp2_with fail
   refine hPr.mono ?_; rintro e w9 ⟨rfl, b9⟩
   obtain ⟨W9, hW9⟩ : ∃ W, w9.alloc (.cells #[.int .i64 C9, .string T9] 98) = W := ⟨_, rfl⟩
   have b99 : Below w9.heap.size w9 W9 := by rw [<- hW9]; exact allocBelow _ _
   have b9' : Below wr.heap.size wr W9 := b9.trans (b99.mono b9.size)
   have rt : Rf W9 w9.heap.size [.int .i64 C9, .string T9] := by rw [<- hW9]; exact Rf.new w9 #[.int .i64 C9, .string T9] _
   have zt : w9.heap.size < W9.heap.size := by rw [<- hW9]; simp
   obtain ⟨tb, htb⟩ : ∃ b, w9.heap.size = b := ⟨_, rfl⟩
   have ztb : wr.heap.size <= tb := by rw [<- htb]; exact b9.size
   rw [htb] at rt zt
   have B9 : Below q w W9 := Br.trans (b9'.mono (by omega))
   have F9 : Fr 0 0 wr W9 := Fr.ofBelow b9'
   have cp9 := F9.cell cp (.inr (Nat.zero_le _))
   have z9 := b9'.size
   obtain ⟨_, x2, x3⟩ := HRR.out W9 B9
   have hFi := Ru.l13Find (some ⟨g3, 0, none⟩) c3 R T9 W9 x3 n3
   rw [hAp] at hFi
   have q1 := rt.at_ 1 _ rfl
   have fl3 : ∀ (x0 x2 : ByteArray) (x1 : Int) (W : World), (Instr.field 34 (.agg #[.string x0, .int .i64 x1, .string x2]) 1).run Tryz.prog W = .ok (.int .i64 x1) W := fun x0 x2 x1 W => by kernel_rfl
   have hS2' := hS2 W9 x2
   clear hPr b9 b99 x2 x3 cp hAp F9 hS2
   go_wp2_with fail
   refine hFi.mono ?_; rintro e w10 ⟨rfl, rfl⟩
   clear hFi q1 htb
   go_wp2_with fail
   refine hS2'.mono ?_; rintro e w11 ⟨rfl, b11⟩
   clear hW9
   have b11' : Below wr.heap.size wr w11 := b9'.trans (b11.mono z9)
   have B11 : Below q w w11 := B9.trans (b11.mono (by omega))
   have rt11 := rt.below zt b11
   have cp11 := (Fr.ofBelow (lo := 0) (hi := 0) b11).cell cp9 (.inr (Nat.zero_le _))
   have z11 := b11.size
   have t0 := rt11.at_ 0 _ rfl
   clear hS2' b9' b11 B9 rt cp9
   by_cases eC : C9 = 0
   rotate_left
   ·have qC : (C9 != 0) = true := by simpa using eC
    have eA := hCN eC
    have HN : Hid (Sp (q + 1) ob st l R c Zr w8 (k + 1) d O I ug uc ja jc w11) := (S.step (by omega) b11').skip hlt HP.out (by rw [HM.out, eA]; rfl)
    clear S HTk HM HPO hAb hCN B11 b11' rt11 oCr Br rbr eA eC hS3
    go_wp2
    go_roundw
    case rel => exact ⟨k + 1, O, I, d, ug, uc, ja, jc, by omega, by go_num, hd0, by omega, HN⟩
    case measure => first | (simp [intOf]; omega) | simp [intOf]
   subst eC
   have qC : ((0 : Int) != 0) = false := rfl
   by_cases eA : A = -1
   ·have HN : Hid (Sp (q + 1) ob st l R c Zr w8 (k + 1) d O I ug uc ja jc w11) := (S.step (by omega) b11').skip hlt HP.out (by rw [HM.out, eA]; rfl)
    subst eA
    clear S HTk HM HPO hAb hCN B11 b11' rt11 oCr Br rbr hS3
    go_wp2
    go_roundw
    case rel => exact ⟨k + 1, O, I, d, ug, uc, ja, jc, by omega, by go_num, hd0, by omega, HN⟩
    case measure => first | (simp [intOf]; omega) | simp [intOf]
   rcases hAb with hx | ⟨j, rfl, hj⟩
   ·exact absurd hx eA
   have qA : ¬ (j : Int) < 0 := by omega
   obtain ⟨_, x2, _⟩ := HRR.out w11 B11
   have hS3' := hS3 w11 x2
   clear hS3 x2 hCN
   go_wp2_with fail
   refine hS3'.mono ?_; rintro e w12 ⟨rfl, b12⟩
   have b12' : Below wr.heap.size wr w12 := b11'.trans (b12.mono (by omega))
   have B12 : Below q w w12 := B11.trans (b12.mono (by omega))
   have cp12 := (Fr.ofBelow (lo := 0) (hi := 0) b12).cell cp11 (.inr (Nat.zero_le _))
   have z12 := b12.size
   clear hS3' b11' b12 B11 rt11 cp11 t0
   by_cases eg : m1 = h1
   rotate_left
   ·have qg : (m1 != h1) = true := by simpa using eg
    have HN : Hid (Sp (q + 1) ob st l R c Zr w8 (k + 1) d O I ug uc ja jc w12) := (S.step (by omega) b12').skip hlt HP.out (by rw [HM.out]; simp [eg])
    clear S HTk HM HPO B12 b12' oCr Br rbr eg
    go_wp2
    go_roundw
    case rel => exact ⟨k + 1, O, I, d, ug, uc, ja, jc, by omega, by go_num, hd0, by omega, HN⟩
    case measure => first | (simp [intOf]; omega) | simp [intOf]
   have HOK : Hid (ryOk st l R p = true) := by show _ = _; rw [HM.out]; simp [eA, eg]
   clear HM
   subst eg
   have qg : (m1 != m1) = false := by simp
   have S12 := S.step (by omega) b12'
   have rb12 := rbr.below (by omega) b12'
   clear S b12' rbr Br oCr
   obtain ⟨_, _, x3⟩ := HRR.out w12 B12
   obtain ⟨rg, ro, e3, _, d0, d1⟩ := x3 j hj
   simp only [Option.some.injEq, Addr.mk.injEq] at e3
   obtain ⟨rfl, rfl, _⟩ := e3
   rw [Nat.zero_add] at d0 d1
   have hpost : tf (R.getD j Ru.onil).2 = 0 := post_tf hgood.out.2.2 hj
   have hjn : ((j : Int)).toNat = j := by simp
   rw [hjn] at HPO
   have hPOs : (R.getD j Ru.onil).2.size <= 1048576 := (hs3 _ (obS R j hj)).2
   obtain ⟨X, hX⟩ : ∃ X, (R.getD j Ru.onil).2 = X := ⟨_, rfl⟩
   rw [hX] at d1 hpost HPO hPOs
   have hAd := l5Put ug 0 uc O 1 X w12.drew ((OB.of S12.oS).below (below_drew (Below.refl _ _))) S12.cap (by have := S12.inv.len; omega) (by decide) hPOs
   have HFull : Hid (¬ pC O 1 X = 0 -> Zr = (pC O 1 X, 0, [], [])) := fun e9 => by
    have := ry_full (st := st) (l := l) (R := R) hlt HP.out HOK.out (d := d) (O := O) (I := I) (by rw [HPO.out]; exact e9)
    rw [HPO.out] at this
    exact S12.res.symm.trans this
   have HNext : Hid (pC O 1 X = 0 -> ryF st l R (c.drop (k + 1)) (d + 1) (pL O 1 X) (En.rsU I p m1 (pS O 1 X)) = Zr) := fun e9 => by
    have h7 := ry_take (st := st) (l := l) (R := R) hlt HP.out HOK.out (d := d) (O := O) (I := I) (by rw [HPO.out]; exact e9)
    rw [HPO.out, HG.out] at h7
    exact h7.symm.trans S12.res
   have HTk2 : Hid (pC O 1 X = 0 -> Inv l c (k + 1) (pL O 1 X) (En.rsU I p m1 (pS O 1 X))) := fun e9 => by
    have h7 := HTk.out HOK.out
    rw [HPO.out] at h7
    exact (h7 e9).1
   have hixI : Hid (En.ixf I = 0) := S12.inv.ix
   obtain ⟨P, hPe⟩ : ∃ P, pC O 1 X = P := ⟨_, rfl⟩
   obtain ⟨Q, hQe⟩ : ∃ Q, pL O 1 X = Q := ⟨_, rfl⟩
   obtain ⟨T, hTe⟩ : ∃ T, pS O 1 X = T := ⟨_, rfl⟩
   rw [hPe, hQe, hTe] at hAd
   rw [hPe] at HFull
   rw [hPe, hQe, hTe] at HNext HTk2
   have zobk : ob < w12.heap.size := by have := S12.fr.size; omega
   have y2 := S12.rf.at_ 2 _ rfl
   have qj : (0 : Int) <= (j : Int) := by omega
   have qj2 : (j : Int) < (R.length : Int) := by omega
   clear hPe hQe hTe hX HTk HPO x3 hpost d0 hjn HG HOK
   go_wp2
   go_region_held (fun w' => w'.cell? ⟨ob, 2, none⟩ = some (.slice (some ⟨ug, 0, none⟩) O.length uc) /\ w'.cell? ⟨g3, j * 2 + 1, none⟩ = some (.string X)) (first | with_reducible exact ⟨y2, d1⟩ | with_reducible exact ⟨Y2, D1⟩ | exact ⟨y2, d1⟩) ((go_at_call 60; refine hAd.mono ?_; rintro e w13 ⟨v13, rfl, n13, o13, b13⟩; have Y2 := zS b13 y2; have D1 := zS b13 d1))
   all_goals
    replace b13 : Below w12.heap.size w12 w13 := (below_drew (Below.refl _ _)).trans b13
    replace o13 : w13.ownsRow w12.heap.size 67 3 v13 Q.length (ocells Q) := o13
    have S13 := S12.step (by have := S12.fr.size; omega) b13
    have B13 : Below q w w13 := B12.trans (b13.mono (by omega))
    have rb13 := rb12.below (by omega) b13
    have cp13 := (Fr.ofBelow (lo := 0) (hi := 0) b13).cell cp12 (.inr (Nat.zero_le _))
    have z13 := b13.size
    clear hAd y2 b13 S12 B12 rb12 cp12 d1
    by_cases eP : P = 0
    rotate_left
    ·have qP : (P != 0) = true := by simpa using eP
     have HC : Hid (rrC st l R = P /\ rrZ st l R = (0, [], [])) := by
      have h7 := HFull.out eP
      have h8 := HF0.out
      rw [h7] at h8
      exact h8
     clear HFull HNext HTk2 eP n13
     have y0 := rb13.at_ 0 _ rfl
     have k0 := rb13.fz 0
     have y1 := rb13.at_ 1 _ rfl
     have k1 := rb13.fz 1
     have y2 := rb13.at_ 2 _ rfl
     have k2 := rb13.fz 2
     have y3 := rb13.at_ 3 _ rfl
     have k3 := rb13.fz 3
     have RV := (((rb13.set (o := 0) (by simp) (.int .i64 P)).set (o := 1) (by simp) (.int .i64 0)).set (o := 2) (by simp) (.slice none 0 0)).set (o := 3) (by simp) (.slice none 0 0)
     have FV := sSet4 w13 q (.int .i64 P) (.int .i64 0) (.slice none 0 0) (.slice none 0 0)
     obtain ⟨V, hV⟩ : ∃ V, (((w13.setCell ⟨q, 0, none⟩ (.int .i64 P)).setCell ⟨q, 1, none⟩ (.int .i64 0)).setCell ⟨q, 2, none⟩ (.slice none 0 0)).setCell ⟨q, 3, none⟩ (.slice none 0 0) = V := ⟨_, rfl⟩
     rw [hV] at RV FV
     have HVV : Hid (_ = V) := hV
     have BV : Hid (Below q w V) := FV.below B13 (Nat.le_refl _) (by omega)
     have v0 := RV.at_ 0 _ rfl
     have v1 := RV.at_ 1 _ rfl
     have v2 := RV.at_ 2 _ rfl
     have v3 := RV.at_ 3 _ rfl
     clear hV RV rb13
     clear FV B13 S13 o13 cp13
     go_wp2
     rw [HVV.out]
     refine bodyPost_ret (v := .agg #[.int .i64 P, .int .i64 0, .slice none 0 0, .slice none 0 0]) (by simp [results, Tryz.results18, go_sem, v0, v1, v2, v3]) rfl ?_
     exact rp_nil HQ.out HC.out.1 HC.out.2 BV.out
    obtain ⟨ng, nc, ev, hnc⟩ := notNil o13 (n13 eP)
    subst ev
    subst eP
    have HI : Hid (Inv l c (k + 1) Q (En.rsU I p m1 T) /\ ryF st l R (c.drop (k + 1)) (d + 1) Q (En.rsU I p m1 T) = Zr) := ⟨HTk2.out rfl, HNext.out rfl⟩
    have rf13 := S13.rf
    have zS := fun j hj => (o13.lt j hj).1
    have zob12 : ob < w12.heap.size := zobk
    have hcg : cg ≠ ob := HZC.out cg rfl
    have y2 := rf13.at_ 2 _ rfl
    have f2 := rf13.fz 2
    have RV := rf13.set (o := 2) (by simp) (.slice (some ⟨ng, 0, none⟩) Q.length nc)
    have FV := sSet1 w13 ob 2 (.slice (some ⟨ng, 0, none⟩) Q.length nc)
    have oS14 := FV.own o13 (fun j hj => .inr (by have := zS j hj; omega))
    have oE14 := FV.own S13.oE (fun j hj => by have := S13.nE j hj; omega)
    have cp14 := FV.cell cp13 (by omega)
    have B14 : Below q w (w13.setCell ⟨ob, 2, none⟩ (.slice (some ⟨ng, 0, none⟩) Q.length nc)) := FV.below B13 (by omega) (by omega)
    have rb14 := FV.rf rb13 (by omega) (.inl (by omega))
    have fr14 := S13.fr.trans FV
    have nE14 := S13.nE
    obtain ⟨W14, hW14⟩ : ∃ W, w13.setCell ⟨ob, 2, none⟩ (.slice (some ⟨ng, 0, none⟩) Q.length nc) = W := ⟨_, rfl⟩
    have z14 : w13.heap.size <= W14.heap.size := by rw [<- hW14]; exact FV.size
    rw [hW14] at RV FV oS14 oE14 cp14 B14 rb14 fr14
    have hRs := En.l10ResolveC ja jc I p m1 T W14.drew ((En.OB.of oE14).below (below_drew (Below.refl _ _))) hixI.out
    obtain ⟨J, hJ⟩ : ∃ J, En.rsU I p m1 T = J := ⟨_, rfl⟩
    rw [hJ] at hRs HI
    have y3 := RV.at_ 3 _ rfl
    have zEl := fun j hj => (oE14.lt j hj).2
    have zSl := fun j hj => (oS14.lt j hj).2
    have qd : (0 : Int) <= d := hd0
    have qd2 : d <= 200 := by omega
    clear HFull HNext HTk2 n13 S13 rf13 o13 cp13 rb13 B13 FV hJ hixI oE14 rb14 nE14
    go_wp2
    go_region_with (go_at_call 61; refine hRs.mono ?_; rintro e w15 ⟨tg, tc, rfl, o15, b15⟩; replace b15 : Below W14.heap.size W14 w15 := (below_drew (Below.refl _ _)).trans b15; replace o15 : w15.ownsRow W14.heap.size 106 4 (.slice (some ⟨tg, 0, none⟩) J.length tc) J.length (En.ocells J) := o15; have R15 := RV.below (by omega) b15; have x3 := R15.at_ 3 _ rfl; have f3 := R15.fz 3)
    all_goals
     have oS15 := (Fr.ofBelow (lo := 0) (hi := 0) b15).own oS14 (fun _ _ => .inr (Nat.zero_le _))
     have fr15 := fr14.trans (Fr.ofBelow (lo := ob) (hi := ob + 1) b15)
     have z15 := b15.size
     have R16 := R15.set (o := 3) (by simp) (.slice (some ⟨tg, 0, none⟩) J.length tc)
     have F16 := sSet1 w15 ob 3 (.slice (some ⟨tg, 0, none⟩) J.length tc)
     have zJ := fun j hj => (o15.lt j hj).1
     obtain ⟨W16, hW16⟩ : ∃ W, w15.setCell ⟨ob, 3, none⟩ (.slice (some ⟨tg, 0, none⟩) J.length tc) = W := ⟨_, rfl⟩
     rw [hW16] at R16 F16
     have y1 := R16.at_ 1 _ rfl
     have f1 := R16.fz 1
     have R17 := R16.set (o := 1) (by simp) (.int .i64 (d + 1))
     have F17 := F16.trans (sSet1 W16 ob 1 (.int .i64 (d + 1)))
     obtain ⟨W17, hW17⟩ : ∃ W, W16.setCell ⟨ob, 1, none⟩ (.int .i64 (d + 1)) = W := ⟨_, rfl⟩
     rw [hW17] at R17 F17
     have HN : Hid (Sp (q + 1) ob st l R c Zr w8 (k + 1) (d + 1) Q J ng nc (some ⟨tg, 0, none⟩) tc W17) :=
      ⟨R17, ownMonoO (F17.own oS15 (fun j hj => .inr (by have := zS j hj; omega))) (by omega), ownMonoO (F17.own o15 (fun j hj => .inr (by have := zJ j hj; omega))) (by omega), hnc,
       fun j hj => by have := zS j hj; omega, fun j hj => by have := zJ j hj; omega, fun j h8 h9 => by have := zSl j h8; have := zJ j h9; omega, HI.out.1, HI.out.2, fr15.trans F17⟩
     clear hRs R15 x3 f3 oS15 fr15 R16 F16 R17 F17 zJ oS14 fr14 RV y3 HI o15 b15 cp14
     go_wp2
     go_roundw
     case rel => exact ⟨k + 1, Q, J, d + 1, ng, nc, some ⟨tg, 0, none⟩, tc, by omega, by go_num, by omega, by omega, HN⟩
     case measure => first | (simp [intOf]; omega) | simp [intOf]
  ·have ql : ¬ (k : Int) < (c.length : Int) := by omega
   have hE : Zr = (0, d, O, I) := by rw [<- S.res, ry_end hlt]
   have HE : Hid (rrC st l R = 0 /\ rrZ st l R = (d, O, I)) := by
    have h8 := HF0.out
    rw [hE] at h8
    exact h8
   have ss0 := S.rf.at_ 0 _ rfl
   have ss1 := S.rf.at_ 1 _ rfl
   have ss2 := S.rf.at_ 2 _ rfl
   have ss3 := S.rf.at_ 3 _ rfl
   have oSr := S.oS
   have oEr := S.oE
   have hdd : Hid (∀ j, (Value.slice (some ⟨ug, 0, none⟩) O.length uc).ownBlock = some j -> (Value.slice ja I.length jc).ownBlock ≠ some j) := S.dj
   clear hE S oCr
   have y0 := rbr.at_ 0 _ rfl
   have k0 := rbr.fz 0
   have y1 := rbr.at_ 1 _ rfl
   have k1 := rbr.fz 1
   have y2 := rbr.at_ 2 _ rfl
   have k2 := rbr.fz 2
   have y3 := rbr.at_ 3 _ rfl
   have k3 := rbr.fz 3
   have RV := (((rbr.set (o := 0) (by simp) (.int .i64 0)).set (o := 1) (by simp) (.int .i64 d)).set (o := 2) (by simp) (.slice (some ⟨ug, 0, none⟩) O.length uc)).set (o := 3) (by simp) (.slice ja I.length jc)
   have FV := sSet4 wr q (.int .i64 0) (.int .i64 d) (.slice (some ⟨ug, 0, none⟩) O.length uc) (.slice ja I.length jc)
   obtain ⟨V, hV⟩ : ∃ V, (((wr.setCell ⟨q, 0, none⟩ (.int .i64 0)).setCell ⟨q, 1, none⟩ (.int .i64 d)).setCell ⟨q, 2, none⟩ (.slice (some ⟨ug, 0, none⟩) O.length uc)).setCell ⟨q, 3, none⟩ (.slice ja I.length jc) = V := ⟨_, rfl⟩
   rw [hV] at RV FV
   have HVV : Hid (_ = V) := hV
   have BV : Hid (Below q w V) := FV.below Br (Nat.le_refl _) (by omega)
   have v0 := RV.at_ 0 _ rfl
   have v1 := RV.at_ 1 _ rfl
   have v2 := RV.at_ 2 _ rfl
   have v3 := RV.at_ 3 _ rfl
   clear hV RV rbr
   have HOS : Hid (V.ownsRow q 67 3 (.slice (some ⟨ug, 0, none⟩) O.length uc) O.length (ocells O)) := ownMonoO (FV.own oSr (fun j hj => .inr (oSr.lt j hj).1)) (by omega)
   have HOE : Hid (V.ownsRow q 106 4 (.slice ja I.length jc) I.length (En.ocells I)) := ownMonoO (FV.own oEr (fun j hj => .inr (oEr.lt j hj).1)) (by omega)
   clear FV Br oSr oEr
   go_wp2
   rw [HVV.out]
   refine bodyPost_ret (v := .agg #[.int .i64 0, .int .i64 d, .slice (some ⟨ug, 0, none⟩) O.length uc, .slice ja I.length jc]) (by simp [results, Tryz.results18, go_sem, v0, v1, v2, v3]) rfl ?_
   exact rp_of HQ.out HE.out.1 HE.out.2 HOS.out HOE.out hdd.out BV.out
end Go.Proofs.YtgincoiehbdphaaGreatDoor.Ry
