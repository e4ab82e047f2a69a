/- A path that is merged: the specification's. No statement is proved here. -/
import Derived.Test.YtcfnkndbhpdfnaaGreatDoorTmQQ
set_option linter.unusedVariables false
namespace Go.Proofs.YtcfnkndbhpdfnaaGreatDoor.Tm
open Go.ChangeShapes Go.WideShapes Go.ChangeAt Go.RowKit
open Go.Proofs.YtcfnkndbhpdfnaaGreatDoor.Pv
def paS (st : List Ob) (f g h : Fl.Ob) : Int × List Ob × List En.Ob × List Wk.Ob := if Fl.mk f g h = 3 then boS st f g h else paR st f g h
theorem pa_same {st : List Ob} {f g h : Fl.Ob} (hf : FOk f) (hg : FOk g) (hh : FOk h) : paS st f g h = paR st f g h := by
 unfold paS
 by_cases e : Fl.mk f g h = 3
 ·rw [if_pos e, bo_same hf hg hh (mk_three e) (mk_threeH e)]
  unfold paR
  rw [if_pos e]
 ·rw [if_neg e]
structure PX (q base gS cS : Nat) (st : List Ob) (f g h t : Fl.Ob) (w W : World) : Prop where
 k : QW q base gS cS st f g h w W
 rN : Rf W (q + 4) [.string ⟨#[]⟩, .int .i64 0, .string ⟨#[]⟩]
 rT : Rf W (q + 5) [.string t.1, .int .i64 t.2.1, .string t.2.2]
 sz : q + 6 <= W.heap.size
theorem PX.below {q base gS cS : Nat} {st : List Ob} {f g h t : Fl.Ob} {w W W' : World} (x : PX q base gS cS st f g h t w W) (hb : Below W.heap.size W W') : PX q base gS cS st f g h t w W' :=
 ⟨x.k.below hb, x.rN.below (by have := x.sz; omega) hb, x.rT.below (by have := x.sz; omega) hb, Nat.le_trans x.sz hb.size⟩
theorem PX.take {q base gS cS : Nat} {st : List Ob} {f g h t : Fl.Ob} {w W : World} (x : PX q base gS cS st f g h t w W) (a0 a2 : ByteArray) (a1 : Int) : PX q base gS cS st f g h (a0, a1, a2) w (((W.setCell ⟨q + 5, 0, none⟩ (.string a0)).setCell ⟨q + 5, 1, none⟩ (.int .i64 a1)).setCell ⟨q + 5, 2, none⟩ (.string a2)) := by
 have hg := x.k.lt
 have gr := grownTrans (grownTrans (grownSet W (q + 5) 0 (.string a0)) (grownSet _ (q + 5) 1 (.int .i64 a1))) (grownSet _ (q + 5) 2 (.string a2))
 have zz := gr.size
 exact ⟨⟨((x.k.rF.other (by omega) _).other (by omega) _).other (by omega) _, ((x.k.rG.other (by omega) _).other (by omega) _).other (by omega) _, ((x.k.rH.other (by omega) _).other (by omega) _).other (by omega) _, ((x.k.rV.other (by omega) _).other (by omega) _).other (by omega) _, x.k.oS.kept gr (blockCases _ _ fun j c1 c2 => by cases c2; have : gS = q + 5 := Option.some.inj c1; omega), hg, Nat.le_trans x.k.sz zz, ((x.k.bel.setCell (p := ⟨q + 5, 0, none⟩) (by show q <= q + 5; omega) _).setCell (p := ⟨q + 5, 1, none⟩) (by show q <= q + 5; omega) _).setCell (p := ⟨q + 5, 2, none⟩) (by show q <= q + 5; omega) _⟩, ((x.rN.other (by omega) _).other (by omega) _).other (by omega) _, ((x.rT.set (o := 0) (by simp) _).set (o := 1) (by simp) _).set (o := 2) (by simp) _, Nat.le_trans x.sz zz⟩
theorem PX.work {q base gS cS p : Nat} {st : List Ob} {f g h t : Fl.Ob} {w W : World} (x : PX q base gS cS st f g h t w W) (hp : q + 6 <= p) (a0 a1 : Value) : PX q base gS cS st f g h t w ((W.setCell ⟨p, 0, none⟩ a0).setCell ⟨p, 1, none⟩ a1) := by
 have hg := x.k.lt
 have gr := grownTrans (grownSet W p 0 a0) (grownSet _ p 1 a1)
 have zz := gr.size
 exact ⟨⟨(x.k.rF.other (by omega) _).other (by omega) _, (x.k.rG.other (by omega) _).other (by omega) _, (x.k.rH.other (by omega) _).other (by omega) _, (x.k.rV.other (by omega) _).other (by omega) _, x.k.oS.kept gr (blockCases _ _ fun j c1 c2 => by cases c2; have : gS = p := Option.some.inj c1; omega), hg, Nat.le_trans x.k.sz zz, (x.k.bel.setCell (p := ⟨p, 0, none⟩) (by show q <= p; omega) _).setCell (p := ⟨p, 1, none⟩) (by show q <= p; omega) _⟩, (x.rN.other (by omega) _).other (by omega) _, (x.rT.other (by omega) _).other (by omega) _, Nat.le_trans x.sz zz⟩
theorem s3 {w : World} {p : Nat} {a0 a1 a2 : Value} (h : Rf w p [a0, a1, a2]) : w.cell? ⟨p, 0, none⟩ = some a0 /\ w.cell? ⟨p, 1, none⟩ = some a1 /\ w.cell? ⟨p, 2, none⟩ = some a2 := ⟨h.at_ 0 _ rfl, h.at_ 1 _ rfl, h.at_ 2 _ rfl⟩
theorem s11b {w : World} {p q r t : Nat} {a0 a1 a2 b0 b1 b2 c0 c1 c2 d0 d1 : Value} (h : Rf w p [a0, a1, a2]) (k : Rf w q [b0, b1, b2]) (l : Rf w r [c0, c1, c2]) (m : Rf w t [d0, d1]) : w.cell? ⟨t, 0, none⟩ = some d0 /\ w.cell? ⟨t, 1, none⟩ = some d1 /\ w.cell? ⟨p, 0, none⟩ = some a0 /\ w.cell? ⟨p, 1, none⟩ = some a1 /\ w.cell? ⟨p, 2, none⟩ = some a2 /\ w.cell? ⟨q, 0, none⟩ = some b0 /\ w.cell? ⟨q, 1, none⟩ = some b1 /\ w.cell? ⟨q, 2, none⟩ = some b2 /\ w.cell? ⟨r, 0, none⟩ = some c0 /\ w.cell? ⟨r, 1, none⟩ = some c1 /\ w.cell? ⟨r, 2, none⟩ = some c2 :=
 ⟨m.at_ 0 _ rfl, m.at_ 1 _ rfl, s9 h k l⟩
theorem s6 {w : World} {p q : Nat} {a0 a1 a2 b0 b1 b2 : Value} (h : Rf w p [a0, a1, a2]) (k : Rf w q [b0, b1, b2]) : w.cell? ⟨p, 0, none⟩ = some a0 /\ w.cell? ⟨p, 1, none⟩ = some a1 /\ w.cell? ⟨p, 2, none⟩ = some a2 /\ w.cell? ⟨q, 0, none⟩ = some b0 /\ w.cell? ⟨q, 1, none⟩ = some b1 /\ w.cell? ⟨q, 2, none⟩ = some b2 := ⟨h.at_ 0 _ rfl, h.at_ 1 _ rfl, h.at_ 2 _ rfl, k.at_ 0 _ rfl, k.at_ 1 _ rfl, k.at_ 2 _ rfl⟩
set_option maxRecDepth 20000 in
set_option maxHeartbeats 16000000 in
theorem l11PathC (base gS cS : Nat) (st : List Ob) (f0 f2 g0 g2 h0 h2 : ByteArray) (f1 g1 h1 : Int) (w : World) (hO : w.ownsRow base 50 3 (.slice (some ⟨gS, 0, none⟩) st.length cS) st.length (ocells st)) (hbase : base <= w.heap.size) (hz : sf st = 0) (hs : SmallO st) (hn : st.length <= 1048576) (hc : st.length <= cS) :
  Calls Tryz.prog 20 #[.slice (some ⟨gS, 0, none⟩) st.length cS, .agg #[.string f0, .int .i64 f1, .string f2], .agg #[.string g0, .int .i64 g1, .string g2], .agg #[.string h0, .int .i64 h1, .string h2]] w fun e w' => BP base gS (paS st ((f0, f1, f2) : Fl.Ob) (g0, g1, g2) (h0, h1, h2)) w e w' := by
 obtain ⟨q, hq⟩ : ∃ q, w.heap.size = q := ⟨_, rfl⟩
 have hqq : w.heap.size = q := hq
 have HQ : Hid (w.heap.size = q) := hq
 obtain ⟨Z, hZ⟩ : ∃ Z, paS st ((f0, f1, f2) : Fl.Ob) (g0, g1, g2) (h0, h1, h2) = Z := ⟨_, rfl⟩
 rw [hZ]
 unfold paS paR at hZ
 obtain ⟨Wn, hWn⟩ : ∃ W, ((((w.alloc (.cells #[.string f0, .int .i64 f1, .string f2] 34)).alloc (.cells #[.string g0, .int .i64 g1, .string g2] 34)).alloc (.cells #[.string h0, .int .i64 h1, .string h2] 34)).alloc (.cells #[.int .i64 0, .slice none 0 0, .slice none 0 0, .slice none 0 0] 31)).alloc (.cells #[.string ⟨#[]⟩, .int .i64 0, .string ⟨#[]⟩] 34) = W := ⟨_, rfl⟩
 obtain ⟨W1, hW1⟩ : ∃ W, Wn.alloc (.cells #[.string g0, .int .i64 g1, .string g2] 34) = W := ⟨_, rfl⟩
 have e1 : (w.alloc (.cells #[.string f0, .int .i64 f1, .string f2] 34)).heap.size = q + 1 := by rw [<- hq]; simp
 have e2 : ((w.alloc (.cells #[.string f0, .int .i64 f1, .string f2] 34)).alloc (.cells #[.string g0, .int .i64 g1, .string g2] 34)).heap.size = q + 2 := by rw [<- hq]; simp
 have e3 : (((w.alloc (.cells #[.string f0, .int .i64 f1, .string f2] 34)).alloc (.cells #[.string g0, .int .i64 g1, .string g2] 34)).alloc (.cells #[.string h0, .int .i64 h1, .string h2] 34)).heap.size = q + 3 := by rw [<- hq]; simp
 have e4 : ((((w.alloc (.cells #[.string f0, .int .i64 f1, .string f2] 34)).alloc (.cells #[.string g0, .int .i64 g1, .string g2] 34)).alloc (.cells #[.string h0, .int .i64 h1, .string h2] 34)).alloc (.cells #[.int .i64 0, .slice none 0 0, .slice none 0 0, .slice none 0 0] 31)).heap.size = q + 4 := by rw [<- hq]; simp
 have zn : Wn.heap.size = q + 5 := by rw [<- hWn, <- hq]; simp
 have bn : Below w.heap.size w Wn := by rw [<- hWn]; exact (((((Below.refl _ _).alloc (Nat.le_refl _) _).alloc (by simp) _).alloc (by simp <;> omega) _).alloc (by simp <;> omega) _).alloc (by simp <;> omega) _
 have Kn : QW q base gS cS st (f0, f1, f2) (g0, g1, g2) (h0, h1, h2) w Wn := by
  refine ⟨?_, ?_, ?_, ?_, hO.kept (grownOfBelow bn none) (blockCases _ _ fun b c1 c2 => by cases c2), by have := (hO.lt gS rfl).2; omega, by omega, by rw [<- hq]; exact bn⟩
  ·rw [<- hWn, <- hq]; exact ((((Rf.new w #[.string f0, .int .i64 f1, .string f2] _).below (by simp) (allocBelow _ _)).below (by simp <;> omega) (allocBelow _ _)).below (by simp <;> omega) (allocBelow _ _)).below (by simp <;> omega) (allocBelow _ _)
  ·rw [<- hWn, <- e1]; exact (((Rf.new (w.alloc (.cells #[.string f0, .int .i64 f1, .string f2] 34)) #[.string g0, .int .i64 g1, .string g2] _).below (by simp) (allocBelow _ _)).below (by simp <;> omega) (allocBelow _ _)).below (by simp <;> omega) (allocBelow _ _)
  ·rw [<- hWn, <- e2]; exact ((Rf.new ((w.alloc (.cells #[.string f0, .int .i64 f1, .string f2] 34)).alloc (.cells #[.string g0, .int .i64 g1, .string g2] 34)) #[.string h0, .int .i64 h1, .string h2] _).below (by simp) (allocBelow _ _)).below (by simp <;> omega) (allocBelow _ _)
  ·rw [<- hWn, <- e3]; exact (Rf.new (((w.alloc (.cells #[.string f0, .int .i64 f1, .string f2] 34)).alloc (.cells #[.string g0, .int .i64 g1, .string g2] 34)).alloc (.cells #[.string h0, .int .i64 h1, .string h2] 34)) #[.int .i64 0, .slice none 0 0, .slice none 0 0, .slice none 0 0] _).below (by simp) (allocBelow _ _)
 have rNn : Rf Wn (q + 4) [.string ⟨#[]⟩, .int .i64 0, .string ⟨#[]⟩] := by rw [<- hWn, <- e4]; exact Rf.new _ #[.string ⟨#[]⟩, .int .i64 0, .string ⟨#[]⟩] _
 have b1 : Below Wn.heap.size Wn W1 := by rw [<- hW1]; exact allocBelow _ _
 have K1 : PX q base gS cS st (f0, f1, f2) (g0, g1, g2) (h0, h1, h2) (g0, g1, g2) w W1 :=
  ⟨Kn.below b1, rNn.below (by omega) b1, by rw [<- hW1, <- zn]; exact Rf.new Wn #[.string g0, .int .i64 g1, .string g2] _, by rw [<- hW1]; simp; omega⟩
 obtain ⟨_, _, _, n3, n4, n5, _, _, _⟩ := s9 Kn.rF Kn.rG Kn.rH
 have u0 := rNn.at_ 0 _ rfl
 have u1 := rNn.at_ 1 _ rfl
 have u2 := rNn.at_ 2 _ rfl
 have i0 := rNn.fz 0
 have i1 := rNn.fz 1
 have i2 := rNn.fz 2
 have sid0 := En.setCell_id u0
 have sid1 := En.setCell_id u1
 have sid2 := En.setCell_id u2
 obtain ⟨c0, c1, c2, c3, c4, c5, c6, c7, c8⟩ := s9 K1.k.rF K1.k.rG K1.k.rH
 have hMk := fun W => Fl.specMergeKind f0 f2 g0 g2 h0 h2 f1 g1 h1 W
 have hBo := fun W y b => l11BothC base gS cS st f0 f2 g0 g2 h0 h2 f1 g1 h1 W y b hz hs hn hc
 have hSt := fun W => l11StagesC f0 f2 g0 g2 h0 h2 f1 g1 h1 W
 have hTg := fun W y => l11TextC (some ⟨gS, 0, none⟩) cS st (g0, g1, g2) W y hz hn
 have hTh := fun W y => l11TextC (some ⟨gS, 0, none⟩) cS st (h0, h1, h2) W y hz hn
 unfold SE at hSt
 simp only [] at hTg hTh
 obtain ⟨SG, hSG⟩ : ∃ R, stgK [((f0, f1, f2) : Fl.Ob), (g0, g1, g2), (h0, h1, h2)] 3 = R := ⟨_, rfl⟩
 rw [hSG] at hZ hSt
 clear hSG Kn rNn bn b1 e1 e2 e3 e4 hO
 clear hq
 rcases mk_cases ((f0, f1, f2) : Fl.Ob) (g0, g1, g2) (h0, h1, h2) with hk | hk | hk | hk | hk
 ·have k3 : ¬ Fl.mk ((f0, f1, f2) : Fl.Ob) (g0, g1, g2) (h0, h1, h2) = 3 := by omega
  simp only [hk] at hMk
  go_enter Tryz.func20, Tryz.ntmps20
  go_wp2_with fail
  refine (hMk _).mono ?_; rintro e w2 ⟨rfl, b2⟩
  have K2 := K1.below b2
  clear K1 b2 hMk hWn hW1 zn n3 n4 n5 u0 u1 u2 i0 i1 i2 sid0 sid1 sid2 c0 c1 c2 c3 c4 c5 c6 c7 c8
  have HZ0 : Hid (((g0, g1, g2) : Fl.Ob) = Fl.onil -> Z = (0, st, [], [])) := fun e => hZ.symm.trans ((if_neg k3).trans ((if_neg k3).trans ((if_neg (by omega)).trans ((if_neg (by omega)).trans (if_pos e)))))
  have HZ1 : Hid (¬ ((g0, g1, g2) : Fl.Ob) = Fl.onil -> Z = (0, st, [(g0, 0, g1, g2)], [])) := fun e => hZ.symm.trans ((if_neg k3).trans ((if_neg k3).trans ((if_neg (by omega)).trans ((if_neg (by omega)).trans (if_neg e)))))
  clear hZ hk hBo hSt hTg hTh
  have zK := K2.sz
  have hgs := K2.k.lt
  obtain ⟨t0, t1, t2, m0, m1, m2⟩ := s6 K2.rT K2.rN
  simp only [] at t0 t1 t2
  obtain ⟨W3, hW3⟩ : ∃ W, w2.alloc (.cells #[.int .i64 0, .slice (some ⟨gS, 0, none⟩) st.length cS, .slice none 0 0, .slice none 0 0] 31) = W := ⟨_, rfl⟩
  have b3 : Below w2.heap.size w2 W3 := by rw [<- hW3]; exact allocBelow _ _
  have KB := K2.below b3
  have r12 : Rf W3 w2.heap.size [.int .i64 0, .slice (some ⟨gS, 0, none⟩) st.length cS, .slice none 0 0, .slice none 0 0] := by rw [<- hW3]; exact Rf.new _ #[.int .i64 0, .slice (some ⟨gS, 0, none⟩) st.length cS, .slice none 0 0, .slice none 0 0] _
  have z3 : w2.heap.size < W3.heap.size := by rw [<- hW3]; simp
  obtain ⟨p, hp⟩ : ∃ p, w2.heap.size = p := ⟨_, rfl⟩
  rw [hp] at r12 z3
  have hpq : q + 6 <= p := by omega
  have jj0 := r12.at_ 0 _ rfl
  have jf0 := r12.fz 0
  have js0 := En.setCell_id jj0
  have jj1 := r12.at_ 1 _ rfl
  have jf1 := r12.fz 1
  have js1 := En.setCell_id jj1
  have jj2 := r12.at_ 2 _ rfl
  have jf2 := r12.fz 2
  have js2 := En.setCell_id jj2
  have jj3 := r12.at_ 3 _ rfl
  have jf3 := r12.fz 3
  have js3 := En.setCell_id jj3
  obtain ⟨t0', t1', t2', m0', m1', m2'⟩ := s6 KB.rT KB.rN
  simp only [] at t0' t1' t2'
  have lS : ∀ j, (Value.slice (some ⟨gS, 0, none⟩) st.length cS).ownBlock = some j -> j < q := fun j hj => by have : gS = j := Option.some.inj hj; omega
  by_cases hx : ((g0, g1, g2) : Fl.Ob) = Fl.onil
  ·have hE := Fl.ef_nil hx
   have HZ : Hid (Z = (0, st, [], [])) := HZ0.out hx
   have yy0 := r12.at_ 0 _ rfl
   have yy1 := r12.at_ 1 _ rfl
   have yy2 := r12.at_ 2 _ rfl
   have yy3 := r12.at_ 3 _ rfl
   have kk0 := r12.fz 0
   have x0 := KB.k.rV.at_ 0 _ rfl
   have x1 := KB.k.rV.at_ 1 _ rfl
   have x2 := KB.k.rV.at_ 2 _ rfl
   have xx3 := KB.k.rV.at_ 3 _ rfl
   have ll0 := KB.k.rV.fz 0
   have ll1 := KB.k.rV.fz 1
   have ll2 := KB.k.rV.fz 2
   have ll3 := KB.k.rV.fz 3
   have HX : Hid (BP base gS Z w (.returned (.agg #[.int .i64 0, .slice (some ⟨gS, 0, none⟩) st.length cS, .slice none 0 0, .slice none 0 0])) _) := bp_make (p := q + 3) hqq HZ.out KB.k.bel (by omega) KB.k.oS (fun j hj => by have := lS j hj; omega) nilE (fun j hj => (noOwn hj).elim) nilW (fun j hj => (noOwn hj).elim) (fun j _ => ⟨noOwn, noOwn⟩) (fun j hj => (noOwn hj).elim) (fun j hj => .inl (Option.some.inj hj).symm)
   have RV := ((((KB.k.rV).set (o := 0) (by simp) (.int .i64 0)).set (o := 1) (by simp) (.slice (some ⟨gS, 0, none⟩) st.length cS)).set (o := 2) (by simp) (.slice none 0 0)).set (o := 3) (by simp) (.slice none 0 0)
   obtain ⟨V, hV⟩ : ∃ V, (((W3.setCell ⟨q + 3, 0, none⟩ (.int .i64 0)).setCell ⟨q + 3, 1, none⟩ (.slice (some ⟨gS, 0, none⟩) st.length cS)).setCell ⟨q + 3, 2, none⟩ (.slice none 0 0)).setCell ⟨q + 3, 3, none⟩ (.slice none 0 0) = V := ⟨_, rfl⟩
   rw [hV] at RV HX
   have HVV : Hid (_ = V) := hV
   have v0 := RV.at_ 0 _ rfl
   have v1 := RV.at_ 1 _ rfl
   have v2 := RV.at_ 2 _ rfl
   have v3 := RV.at_ 3 _ rfl
   clear hV RV KB K2 r12 b3 HZ0 HZ1 hx lS
   go_wp2
   rw [HVV.out]
   refine bodyPost_ret (v := .agg #[.int .i64 0, .slice (some ⟨gS, 0, none⟩) st.length cS, .slice none 0 0, .slice none 0 0]) (by simp [results, Tryz.results20, go_sem, v0, v1, v2, v3]) rfl ?_
   exact HX.out
  ·have hE := Fl.ef_some hx
   have HZ : Hid (Z = (0, st, [(g0, 0, g1, g2)], [])) := HZ1.out hx
   have bE := allocBelow W3 (.cells #[.string g0, .int .i64 0, .int .i64 g1, .string g2] 86)
   have KE := KB.below bE
   have oE := ownE1 (w := W3) (b := q) g0 g2 0 g1 (by omega)
   have r12E := r12.below (by omega) bE
   obtain ⟨W4, hW4⟩ : ∃ W, W3.alloc (.cells #[.string g0, .int .i64 0, .int .i64 g1, .string g2] 86) = W := ⟨_, rfl⟩
   have zE : W4.heap.size = W3.heap.size + 1 := by rw [<- hW4]; simp
   rw [hW4] at KE oE r12E bE
   obtain ⟨eb, heb⟩ : ∃ e, W3.heap.size = e := ⟨_, rfl⟩
   rw [heb] at oE bE zE z3
   have hf2 := r12E.fz 2
   have r12F := r12E.set (o := 2) (by simp) (.slice (some ⟨eb, 0, none⟩) 1 1)
   obtain ⟨W5, hW5⟩ : ∃ W, W4.setCell ⟨p, 2, none⟩ (.slice (some ⟨eb, 0, none⟩) 1 1) = W := ⟨_, rfl⟩
   have g5 : W4.grownBy W5 (some p) := by rw [<- hW5]; exact grownSet _ _ _ _
   rw [hW5] at r12F
   have rV5 := KE.k.rV.ofBlock (g5.block (q + 3) (by have := KE.sz; omega) (by simp; omega))
   have oS5 := KE.k.oS.kept g5 (blockCases _ _ fun j c1 c2 => by cases c2; have : gS = p := Option.some.inj c1; omega)
   have oE5 := oE.kept g5 (blockCases _ _ fun j c1 c2 => by cases c2; have : eb = p := Option.some.inj c1; omega)
   have B5 : Below q w W5 := KE.k.bel.grown g5 (by have := KE.sz; omega) (fun j hj => by cases hj; omega)
   have yy0 := r12F.at_ 0 _ rfl
   have yy1 := r12F.at_ 1 _ rfl
   have yy2 := r12F.at_ 2 _ rfl
   have yy3 := r12F.at_ 3 _ rfl
   have x0 := rV5.at_ 0 _ rfl
   have x1 := rV5.at_ 1 _ rfl
   have x2 := rV5.at_ 2 _ rfl
   have xx3 := rV5.at_ 3 _ rfl
   have ll0 := rV5.fz 0
   have ll1 := rV5.fz 1
   have ll2 := rV5.fz 2
   have ll3 := rV5.fz 3
   have yq2 := r12E.at_ 2 _ rfl
   have HX : Hid (BP base gS Z w (.returned (.agg #[.int .i64 0, .slice (some ⟨gS, 0, none⟩) st.length cS, .slice (some ⟨eb, 0, none⟩) 1 1, .slice none 0 0])) _) := bp_make (p := q + 3) hqq HZ.out B5 (by omega) oS5 (fun j hj => by have := lS j hj; omega) oE5 (fun j hj => by have : eb = j := Option.some.inj hj; omega) nilW (fun j hj => (noOwn hj).elim) (fun j hj => ⟨fun c => by have := lS j hj; have : eb = j := Option.some.inj c; omega, noOwn⟩) (fun j _ => noOwn) (fun j hj => .inl (Option.some.inj hj).symm)
   have RV := (((rV5.set (o := 0) (by simp) (.int .i64 0)).set (o := 1) (by simp) (.slice (some ⟨gS, 0, none⟩) st.length cS)).set (o := 2) (by simp) (.slice (some ⟨eb, 0, none⟩) 1 1)).set (o := 3) (by simp) (.slice none 0 0)
   obtain ⟨V, hV⟩ : ∃ V, (((W5.setCell ⟨q + 3, 0, none⟩ (.int .i64 0)).setCell ⟨q + 3, 1, none⟩ (.slice (some ⟨gS, 0, none⟩) st.length cS)).setCell ⟨q + 3, 2, none⟩ (.slice (some ⟨eb, 0, none⟩) 1 1)).setCell ⟨q + 3, 3, none⟩ (.slice none 0 0) = V := ⟨_, rfl⟩
   rw [hV] at RV HX
   have HVV : Hid (_ = V) := hV
   have v0 := RV.at_ 0 _ rfl
   have v1 := RV.at_ 1 _ rfl
   have v2 := RV.at_ 2 _ rfl
   have v3 := RV.at_ 3 _ rfl
   clear hV RV KB KE K2 r12 r12E r12F b3 bE HZ0 HZ1 hx lS oE oE5 oS5 rV5 g5 B5
   go_wp2
   rw [HVV.out]
   refine bodyPost_ret (v := .agg #[.int .i64 0, .slice (some ⟨gS, 0, none⟩) st.length cS, .slice (some ⟨eb, 0, none⟩) 1 1, .slice none 0 0]) (by simp [results, Tryz.results20, go_sem, v0, v1, v2, v3]) rfl ?_
   exact HX.out
 ·have k3 : ¬ Fl.mk ((f0, f1, f2) : Fl.Ob) (g0, g1, g2) (h0, h1, h2) = 3 := by omega
  simp only [hk] at hMk
  go_enter Tryz.func20, Tryz.ntmps20
  go_wp2_with fail
  refine (hMk _).mono ?_; rintro e w2 ⟨rfl, b2⟩
  have K2 := K1.below b2
  clear K1 b2 hMk hWn hW1 zn n3 n4 n5 u0 u1 u2 i0 i1 i2 sid0 sid1 sid2 c0 c1 c2 c3 c4 c5 c6 c7 c8
  have HZ0 : Hid (((g0, g1, g2) : Fl.Ob) = Fl.onil -> Z = (0, st, [], [])) := fun e => hZ.symm.trans ((if_neg k3).trans ((if_neg k3).trans ((if_neg (by omega)).trans ((if_neg (by omega)).trans (if_pos e)))))
  have HZ1 : Hid (¬ ((g0, g1, g2) : Fl.Ob) = Fl.onil -> Z = (0, st, [(g0, 0, g1, g2)], [])) := fun e => hZ.symm.trans ((if_neg k3).trans ((if_neg k3).trans ((if_neg (by omega)).trans ((if_neg (by omega)).trans (if_neg e)))))
  clear hZ hk hBo hSt hTg hTh
  have zK := K2.sz
  have hgs := K2.k.lt
  obtain ⟨t0, t1, t2, m0, m1, m2⟩ := s6 K2.rT K2.rN
  simp only [] at t0 t1 t2
  obtain ⟨W3, hW3⟩ : ∃ W, w2.alloc (.cells #[.int .i64 0, .slice (some ⟨gS, 0, none⟩) st.length cS, .slice none 0 0, .slice none 0 0] 31) = W := ⟨_, rfl⟩
  have b3 : Below w2.heap.size w2 W3 := by rw [<- hW3]; exact allocBelow _ _
  have KB := K2.below b3
  have r12 : Rf W3 w2.heap.size [.int .i64 0, .slice (some ⟨gS, 0, none⟩) st.length cS, .slice none 0 0, .slice none 0 0] := by rw [<- hW3]; exact Rf.new _ #[.int .i64 0, .slice (some ⟨gS, 0, none⟩) st.length cS, .slice none 0 0, .slice none 0 0] _
  have z3 : w2.heap.size < W3.heap.size := by rw [<- hW3]; simp
  obtain ⟨p, hp⟩ : ∃ p, w2.heap.size = p := ⟨_, rfl⟩
  rw [hp] at r12 z3
  have hpq : q + 6 <= p := by omega
  have jj0 := r12.at_ 0 _ rfl
  have jf0 := r12.fz 0
  have js0 := En.setCell_id jj0
  have jj1 := r12.at_ 1 _ rfl
  have jf1 := r12.fz 1
  have js1 := En.setCell_id jj1
  have jj2 := r12.at_ 2 _ rfl
  have jf2 := r12.fz 2
  have js2 := En.setCell_id jj2
  have jj3 := r12.at_ 3 _ rfl
  have jf3 := r12.fz 3
  have js3 := En.setCell_id jj3
  obtain ⟨t0', t1', t2', m0', m1', m2'⟩ := s6 KB.rT KB.rN
  simp only [] at t0' t1' t2'
  have lS : ∀ j, (Value.slice (some ⟨gS, 0, none⟩) st.length cS).ownBlock = some j -> j < q := fun j hj => by have : gS = j := Option.some.inj hj; omega
  by_cases hx : ((g0, g1, g2) : Fl.Ob) = Fl.onil
  ·have hE := Fl.ef_nil hx
   have HZ : Hid (Z = (0, st, [], [])) := HZ0.out hx
   have yy0 := r12.at_ 0 _ rfl
   have yy1 := r12.at_ 1 _ rfl
   have yy2 := r12.at_ 2 _ rfl
   have yy3 := r12.at_ 3 _ rfl
   have kk0 := r12.fz 0
   have x0 := KB.k.rV.at_ 0 _ rfl
   have x1 := KB.k.rV.at_ 1 _ rfl
   have x2 := KB.k.rV.at_ 2 _ rfl
   have xx3 := KB.k.rV.at_ 3 _ rfl
   have ll0 := KB.k.rV.fz 0
   have ll1 := KB.k.rV.fz 1
   have ll2 := KB.k.rV.fz 2
   have ll3 := KB.k.rV.fz 3
   have HX : Hid (BP base gS Z w (.returned (.agg #[.int .i64 0, .slice (some ⟨gS, 0, none⟩) st.length cS, .slice none 0 0, .slice none 0 0])) _) := bp_make (p := q + 3) hqq HZ.out KB.k.bel (by omega) KB.k.oS (fun j hj => by have := lS j hj; omega) nilE (fun j hj => (noOwn hj).elim) nilW (fun j hj => (noOwn hj).elim) (fun j _ => ⟨noOwn, noOwn⟩) (fun j hj => (noOwn hj).elim) (fun j hj => .inl (Option.some.inj hj).symm)
   have RV := ((((KB.k.rV).set (o := 0) (by simp) (.int .i64 0)).set (o := 1) (by simp) (.slice (some ⟨gS, 0, none⟩) st.length cS)).set (o := 2) (by simp) (.slice none 0 0)).set (o := 3) (by simp) (.slice none 0 0)
   obtain ⟨V, hV⟩ : ∃ V, (((W3.setCell ⟨q + 3, 0, none⟩ (.int .i64 0)).setCell ⟨q + 3, 1, none⟩ (.slice (some ⟨gS, 0, none⟩) st.length cS)).setCell ⟨q + 3, 2, none⟩ (.slice none 0 0)).setCell ⟨q + 3, 3, none⟩ (.slice none 0 0) = V := ⟨_, rfl⟩
   rw [hV] at RV HX
   have HVV : Hid (_ = V) := hV
   have v0 := RV.at_ 0 _ rfl
   have v1 := RV.at_ 1 _ rfl
   have v2 := RV.at_ 2 _ rfl
   have v3 := RV.at_ 3 _ rfl
   clear hV RV KB K2 r12 b3 HZ0 HZ1 hx lS
   go_wp2
   rw [HVV.out]
   refine bodyPost_ret (v := .agg #[.int .i64 0, .slice (some ⟨gS, 0, none⟩) st.length cS, .slice none 0 0, .slice none 0 0]) (by simp [results, Tryz.results20, go_sem, v0, v1, v2, v3]) rfl ?_
   exact HX.out
  ·have hE := Fl.ef_some hx
   have HZ : Hid (Z = (0, st, [(g0, 0, g1, g2)], [])) := HZ1.out hx
   have bE := allocBelow W3 (.cells #[.string g0, .int .i64 0, .int .i64 g1, .string g2] 86)
   have KE := KB.below bE
   have oE := ownE1 (w := W3) (b := q) g0 g2 0 g1 (by omega)
   have r12E := r12.below (by omega) bE
   obtain ⟨W4, hW4⟩ : ∃ W, W3.alloc (.cells #[.string g0, .int .i64 0, .int .i64 g1, .string g2] 86) = W := ⟨_, rfl⟩
   have zE : W4.heap.size = W3.heap.size + 1 := by rw [<- hW4]; simp
   rw [hW4] at KE oE r12E bE
   obtain ⟨eb, heb⟩ : ∃ e, W3.heap.size = e := ⟨_, rfl⟩
   rw [heb] at oE bE zE z3
   have hf2 := r12E.fz 2
   have r12F := r12E.set (o := 2) (by simp) (.slice (some ⟨eb, 0, none⟩) 1 1)
   obtain ⟨W5, hW5⟩ : ∃ W, W4.setCell ⟨p, 2, none⟩ (.slice (some ⟨eb, 0, none⟩) 1 1) = W := ⟨_, rfl⟩
   have g5 : W4.grownBy W5 (some p) := by rw [<- hW5]; exact grownSet _ _ _ _
   rw [hW5] at r12F
   have rV5 := KE.k.rV.ofBlock (g5.block (q + 3) (by have := KE.sz; omega) (by simp; omega))
   have oS5 := KE.k.oS.kept g5 (blockCases _ _ fun j c1 c2 => by cases c2; have : gS = p := Option.some.inj c1; omega)
   have oE5 := oE.kept g5 (blockCases _ _ fun j c1 c2 => by cases c2; have : eb = p := Option.some.inj c1; omega)
   have B5 : Below q w W5 := KE.k.bel.grown g5 (by have := KE.sz; omega) (fun j hj => by cases hj; omega)
   have yy0 := r12F.at_ 0 _ rfl
   have yy1 := r12F.at_ 1 _ rfl
   have yy2 := r12F.at_ 2 _ rfl
   have yy3 := r12F.at_ 3 _ rfl
   have x0 := rV5.at_ 0 _ rfl
   have x1 := rV5.at_ 1 _ rfl
   have x2 := rV5.at_ 2 _ rfl
   have xx3 := rV5.at_ 3 _ rfl
   have ll0 := rV5.fz 0
   have ll1 := rV5.fz 1
   have ll2 := rV5.fz 2
   have ll3 := rV5.fz 3
   have yq2 := r12E.at_ 2 _ rfl
   have HX : Hid (BP base gS Z w (.returned (.agg #[.int .i64 0, .slice (some ⟨gS, 0, none⟩) st.length cS, .slice (some ⟨eb, 0, none⟩) 1 1, .slice none 0 0])) _) := bp_make (p := q + 3) hqq HZ.out B5 (by omega) oS5 (fun j hj => by have := lS j hj; omega) oE5 (fun j hj => by have : eb = j := Option.some.inj hj; omega) nilW (fun j hj => (noOwn hj).elim) (fun j hj => ⟨fun c => by have := lS j hj; have : eb = j := Option.some.inj c; omega, noOwn⟩) (fun j _ => noOwn) (fun j hj => .inl (Option.some.inj hj).symm)
   have RV := (((rV5.set (o := 0) (by simp) (.int .i64 0)).set (o := 1) (by simp) (.slice (some ⟨gS, 0, none⟩) st.length cS)).set (o := 2) (by simp) (.slice (some ⟨eb, 0, none⟩) 1 1)).set (o := 3) (by simp) (.slice none 0 0)
   obtain ⟨V, hV⟩ : ∃ V, (((W5.setCell ⟨q + 3, 0, none⟩ (.int .i64 0)).setCell ⟨q + 3, 1, none⟩ (.slice (some ⟨gS, 0, none⟩) st.length cS)).setCell ⟨q + 3, 2, none⟩ (.slice (some ⟨eb, 0, none⟩) 1 1)).setCell ⟨q + 3, 3, none⟩ (.slice none 0 0) = V := ⟨_, rfl⟩
   rw [hV] at RV HX
   have HVV : Hid (_ = V) := hV
   have v0 := RV.at_ 0 _ rfl
   have v1 := RV.at_ 1 _ rfl
   have v2 := RV.at_ 2 _ rfl
   have v3 := RV.at_ 3 _ rfl
   clear hV RV KB KE K2 r12 r12E r12F b3 bE HZ0 HZ1 hx lS oE oE5 oS5 rV5 g5 B5
   go_wp2
   rw [HVV.out]
   refine bodyPost_ret (v := .agg #[.int .i64 0, .slice (some ⟨gS, 0, none⟩) st.length cS, .slice (some ⟨eb, 0, none⟩) 1 1, .slice none 0 0]) (by simp [results, Tryz.results20, go_sem, v0, v1, v2, v3]) rfl ?_
   exact HX.out
 ·have k3 : ¬ Fl.mk ((f0, f1, f2) : Fl.Ob) (g0, g1, g2) (h0, h1, h2) = 3 := by omega
  simp only [hk] at hMk
  go_enter Tryz.func20, Tryz.ntmps20
  go_wp2_with fail
  refine (hMk _).mono ?_; rintro e w2 ⟨rfl, b2⟩
  have K2 := K1.below b2
  clear K1 b2 hMk hWn hW1 zn n3 n4 n5 u0 u1 u2 i0 i1 i2 sid0 sid1 sid2 c0 c1 c2 c3 c4 c5 c6 c7 c8
  obtain ⟨c6, c7, c8⟩ := s3 K2.k.rH
  simp only [] at c6 c7 c8
  have tt0 := K2.rT.at_ 0 _ rfl
  have tt1 := K2.rT.at_ 1 _ rfl
  have tt2 := K2.rT.at_ 2 _ rfl
  have tf0 := K2.rT.fz 0
  have tf1 := K2.rT.fz 1
  have tf2 := K2.rT.fz 2
  have K3 := K2.take h0 h2 h1
  obtain ⟨w3, hw3⟩ : ∃ W, ((w2.setCell ⟨q + 5, 0, none⟩ (.string h0)).setCell ⟨q + 5, 1, none⟩ (.int .i64 h1)).setCell ⟨q + 5, 2, none⟩ (.string h2) = W := ⟨_, rfl⟩
  rw [hw3] at K3
  clear K2
  have HZ0 : Hid (((h0, h1, h2) : Fl.Ob) = Fl.onil -> Z = (0, st, [], [])) := fun e => hZ.symm.trans ((if_neg k3).trans ((if_neg k3).trans ((if_neg (by omega)).trans ((if_pos hk).trans (if_pos e)))))
  have HZ1 : Hid (¬ ((h0, h1, h2) : Fl.Ob) = Fl.onil -> Z = (0, st, [(h0, 0, h1, h2)], [])) := fun e => hZ.symm.trans ((if_neg k3).trans ((if_neg k3).trans ((if_neg (by omega)).trans ((if_pos hk).trans (if_neg e)))))
  clear hZ hk hBo hSt hTg hTh
  have zK := K3.sz
  have hgs := K3.k.lt
  obtain ⟨t0, t1, t2, m0, m1, m2⟩ := s6 K3.rT K3.rN
  simp only [] at t0 t1 t2
  obtain ⟨W3, hW3⟩ : ∃ W, w3.alloc (.cells #[.int .i64 0, .slice (some ⟨gS, 0, none⟩) st.length cS, .slice none 0 0, .slice none 0 0] 31) = W := ⟨_, rfl⟩
  have b3 : Below w3.heap.size w3 W3 := by rw [<- hW3]; exact allocBelow _ _
  have KB := K3.below b3
  have r12 : Rf W3 w3.heap.size [.int .i64 0, .slice (some ⟨gS, 0, none⟩) st.length cS, .slice none 0 0, .slice none 0 0] := by rw [<- hW3]; exact Rf.new _ #[.int .i64 0, .slice (some ⟨gS, 0, none⟩) st.length cS, .slice none 0 0, .slice none 0 0] _
  have z3 : w3.heap.size < W3.heap.size := by rw [<- hW3]; simp
  obtain ⟨p, hp⟩ : ∃ p, w3.heap.size = p := ⟨_, rfl⟩
  rw [hp] at r12 z3
  have hpq : q + 6 <= p := by omega
  have jj0 := r12.at_ 0 _ rfl
  have jf0 := r12.fz 0
  have js0 := En.setCell_id jj0
  have jj1 := r12.at_ 1 _ rfl
  have jf1 := r12.fz 1
  have js1 := En.setCell_id jj1
  have jj2 := r12.at_ 2 _ rfl
  have jf2 := r12.fz 2
  have js2 := En.setCell_id jj2
  have jj3 := r12.at_ 3 _ rfl
  have jf3 := r12.fz 3
  have js3 := En.setCell_id jj3
  obtain ⟨t0', t1', t2', m0', m1', m2'⟩ := s6 KB.rT KB.rN
  simp only [] at t0' t1' t2'
  have lS : ∀ j, (Value.slice (some ⟨gS, 0, none⟩) st.length cS).ownBlock = some j -> j < q := fun j hj => by have : gS = j := Option.some.inj hj; omega
  by_cases hx : ((h0, h1, h2) : Fl.Ob) = Fl.onil
  ·have hE := Fl.ef_nil hx
   have HZ : Hid (Z = (0, st, [], [])) := HZ0.out hx
   have yy0 := r12.at_ 0 _ rfl
   have yy1 := r12.at_ 1 _ rfl
   have yy2 := r12.at_ 2 _ rfl
   have yy3 := r12.at_ 3 _ rfl
   have kk0 := r12.fz 0
   have xh0 := KB.k.rV.at_ 0 _ rfl
   have xh1 := KB.k.rV.at_ 1 _ rfl
   have xh2 := KB.k.rV.at_ 2 _ rfl
   have xx3 := KB.k.rV.at_ 3 _ rfl
   have ll0 := KB.k.rV.fz 0
   have ll1 := KB.k.rV.fz 1
   have ll2 := KB.k.rV.fz 2
   have ll3 := KB.k.rV.fz 3
   have HX : Hid (BP base gS Z w (.returned (.agg #[.int .i64 0, .slice (some ⟨gS, 0, none⟩) st.length cS, .slice none 0 0, .slice none 0 0])) _) := bp_make (p := q + 3) hqq HZ.out KB.k.bel (by omega) KB.k.oS (fun j hj => by have := lS j hj; omega) nilE (fun j hj => (noOwn hj).elim) nilW (fun j hj => (noOwn hj).elim) (fun j _ => ⟨noOwn, noOwn⟩) (fun j hj => (noOwn hj).elim) (fun j hj => .inl (Option.some.inj hj).symm)
   have RV := ((((KB.k.rV).set (o := 0) (by simp) (.int .i64 0)).set (o := 1) (by simp) (.slice (some ⟨gS, 0, none⟩) st.length cS)).set (o := 2) (by simp) (.slice none 0 0)).set (o := 3) (by simp) (.slice none 0 0)
   obtain ⟨V, hV⟩ : ∃ V, (((W3.setCell ⟨q + 3, 0, none⟩ (.int .i64 0)).setCell ⟨q + 3, 1, none⟩ (.slice (some ⟨gS, 0, none⟩) st.length cS)).setCell ⟨q + 3, 2, none⟩ (.slice none 0 0)).setCell ⟨q + 3, 3, none⟩ (.slice none 0 0) = V := ⟨_, rfl⟩
   rw [hV] at RV HX
   have HVV : Hid (_ = V) := hV
   have v0 := RV.at_ 0 _ rfl
   have v1 := RV.at_ 1 _ rfl
   have v2 := RV.at_ 2 _ rfl
   have v3 := RV.at_ 3 _ rfl
   clear hV RV KB K3 r12 b3 HZ0 HZ1 hx lS
   go_wp2
   rw [HVV.out]
   refine bodyPost_ret (v := .agg #[.int .i64 0, .slice (some ⟨gS, 0, none⟩) st.length cS, .slice none 0 0, .slice none 0 0]) (by simp [results, Tryz.results20, go_sem, v0, v1, v2, v3]) rfl ?_
   exact HX.out
  ·have hE := Fl.ef_some hx
   have HZ : Hid (Z = (0, st, [(h0, 0, h1, h2)], [])) := HZ1.out hx
   have bE := allocBelow W3 (.cells #[.string h0, .int .i64 0, .int .i64 h1, .string h2] 86)
   have KE := KB.below bE
   have oE := ownE1 (w := W3) (b := q) h0 h2 0 h1 (by omega)
   have r12E := r12.below (by omega) bE
   obtain ⟨W4, hW4⟩ : ∃ W, W3.alloc (.cells #[.string h0, .int .i64 0, .int .i64 h1, .string h2] 86) = W := ⟨_, rfl⟩
   have zE : W4.heap.size = W3.heap.size + 1 := by rw [<- hW4]; simp
   rw [hW4] at KE oE r12E bE
   obtain ⟨eb, heb⟩ : ∃ e, W3.heap.size = e := ⟨_, rfl⟩
   rw [heb] at oE bE zE z3
   have hf2 := r12E.fz 2
   have r12F := r12E.set (o := 2) (by simp) (.slice (some ⟨eb, 0, none⟩) 1 1)
   obtain ⟨W5, hW5⟩ : ∃ W, W4.setCell ⟨p, 2, none⟩ (.slice (some ⟨eb, 0, none⟩) 1 1) = W := ⟨_, rfl⟩
   have g5 : W4.grownBy W5 (some p) := by rw [<- hW5]; exact grownSet _ _ _ _
   rw [hW5] at r12F
   have rV5 := KE.k.rV.ofBlock (g5.block (q + 3) (by have := KE.sz; omega) (by simp; omega))
   have oS5 := KE.k.oS.kept g5 (blockCases _ _ fun j c1 c2 => by cases c2; have : gS = p := Option.some.inj c1; omega)
   have oE5 := oE.kept g5 (blockCases _ _ fun j c1 c2 => by cases c2; have : eb = p := Option.some.inj c1; omega)
   have B5 : Below q w W5 := KE.k.bel.grown g5 (by have := KE.sz; omega) (fun j hj => by cases hj; omega)
   have yy0 := r12F.at_ 0 _ rfl
   have yy1 := r12F.at_ 1 _ rfl
   have yy2 := r12F.at_ 2 _ rfl
   have yy3 := r12F.at_ 3 _ rfl
   have xh0 := rV5.at_ 0 _ rfl
   have xh1 := rV5.at_ 1 _ rfl
   have xh2 := rV5.at_ 2 _ rfl
   have xx3 := rV5.at_ 3 _ rfl
   have ll0 := rV5.fz 0
   have ll1 := rV5.fz 1
   have ll2 := rV5.fz 2
   have ll3 := rV5.fz 3
   have yq2 := r12E.at_ 2 _ rfl
   have HX : Hid (BP base gS Z w (.returned (.agg #[.int .i64 0, .slice (some ⟨gS, 0, none⟩) st.length cS, .slice (some ⟨eb, 0, none⟩) 1 1, .slice none 0 0])) _) := bp_make (p := q + 3) hqq HZ.out B5 (by omega) oS5 (fun j hj => by have := lS j hj; omega) oE5 (fun j hj => by have : eb = j := Option.some.inj hj; omega) nilW (fun j hj => (noOwn hj).elim) (fun j hj => ⟨fun c => by have := lS j hj; have : eb = j := Option.some.inj c; omega, noOwn⟩) (fun j _ => noOwn) (fun j hj => .inl (Option.some.inj hj).symm)
   have RV := (((rV5.set (o := 0) (by simp) (.int .i64 0)).set (o := 1) (by simp) (.slice (some ⟨gS, 0, none⟩) st.length cS)).set (o := 2) (by simp) (.slice (some ⟨eb, 0, none⟩) 1 1)).set (o := 3) (by simp) (.slice none 0 0)
   obtain ⟨V, hV⟩ : ∃ V, (((W5.setCell ⟨q + 3, 0, none⟩ (.int .i64 0)).setCell ⟨q + 3, 1, none⟩ (.slice (some ⟨gS, 0, none⟩) st.length cS)).setCell ⟨q + 3, 2, none⟩ (.slice (some ⟨eb, 0, none⟩) 1 1)).setCell ⟨q + 3, 3, none⟩ (.slice none 0 0) = V := ⟨_, rfl⟩
   rw [hV] at RV HX
   have HVV : Hid (_ = V) := hV
   have v0 := RV.at_ 0 _ rfl
   have v1 := RV.at_ 1 _ rfl
   have v2 := RV.at_ 2 _ rfl
   have v3 := RV.at_ 3 _ rfl
   clear hV RV KB KE K3 r12 r12E r12F b3 bE HZ0 HZ1 hx lS oE oE5 oS5 rV5 g5 B5
   go_wp2
   rw [HVV.out]
   refine bodyPost_ret (v := .agg #[.int .i64 0, .slice (some ⟨gS, 0, none⟩) st.length cS, .slice (some ⟨eb, 0, none⟩) 1 1, .slice none 0 0]) (by simp [results, Tryz.results20, go_sem, v0, v1, v2, v3]) rfl ?_
   exact HX.out
 ·have hZ3 : boS st ((f0, f1, f2) : Fl.Ob) (g0, g1, g2) (h0, h1, h2) = Z := (if_pos hk).symm.trans hZ
  simp only [hk] at hMk
  go_enter Tryz.func20, Tryz.ntmps20
  go_wp2_with fail
  refine (hMk _).mono ?_; rintro e w2 ⟨rfl, b2⟩
  have K2 := K1.below b2
  clear K1 b2 hMk hWn hW1 zn n3 n4 n5 u0 u1 u2 i0 i1 i2 sid0 sid1 sid2 c0 c1 c2 c3 c4 c5 c6 c7 c8
  rw [hZ3] at hBo
  obtain ⟨zc, zs, ze, zw⟩ := Z
  clear hZ hZ3 hSt hTg hTh hk
  obtain ⟨c0, c1, c2, c3, c4, c5, c6, c7, c8⟩ := s9 K2.k.rF K2.k.rG K2.k.rH
  have zK := K2.sz
  have hgs := K2.k.lt
  have hB2 := hBo w2 K2.k.oS (by omega)
  unfold BP at hB2
  simp only [] at hB2
  clear hBo
  go_wp2_with fail
  refine hB2.mono ?_; rintro e w3 ⟨vS, vE, vW, rfl, oS, oE, oW, d1, d2, b3, nG⟩
  obtain ⟨sa, sc, rfl⟩ := En.shapeK3 oS
  obtain ⟨ea, ec, rfl⟩ := En.shapeK3 oE
  obtain ⟨ka, kc, rfl⟩ := En.shapeK3 oW
  have K3 := K2.below b3
  have xx0 := K3.k.rV.at_ 0 _ rfl
  have xx1 := K3.k.rV.at_ 1 _ rfl
  have xx2 := K3.k.rV.at_ 2 _ rfl
  have xx3 := K3.k.rV.at_ 3 _ rfl
  have ll0 := K3.k.rV.fz 0
  have ll1 := K3.k.rV.fz 1
  have ll2 := K3.k.rV.fz 2
  have ll3 := K3.k.rV.fz 3
  have lE := fun j hj => oE.lt j hj
  have lW := fun j hj => oW.lt j hj
  have HX : Hid (BP base gS (zc, zs, ze, zw) w (.returned (.agg #[.int .i64 zc, .slice sa zs.length sc, .slice ea ze.length ec, .slice ka zw.length kc])) _) := bp_make (p := q + 3) hqq rfl K3.k.bel (by omega) oS (fun j hj => by rcases nG j hj with c | c <;> omega) (En.ownMonoF oE (by omega)) (fun j hj => by have := (lE j hj).1; omega) (En.ownMonoF oW (by omega)) (fun j hj => by have := (lW j hj).1; omega) d1 d2 (fun j hj => (nG j hj).elim .inl (fun c => .inr (by omega)))
  have RV := (((K3.k.rV.set (o := 0) (by simp) (.int .i64 zc)).set (o := 1) (by simp) (.slice sa zs.length sc)).set (o := 2) (by simp) (.slice ea ze.length ec)).set (o := 3) (by simp) (.slice ka zw.length kc)
  obtain ⟨V, hV⟩ : ∃ V, (((w3.setCell ⟨q + 3, 0, none⟩ (.int .i64 zc)).setCell ⟨q + 3, 1, none⟩ (.slice sa zs.length sc)).setCell ⟨q + 3, 2, none⟩ (.slice ea ze.length ec)).setCell ⟨q + 3, 3, none⟩ (.slice ka zw.length kc) = V := ⟨_, rfl⟩
  rw [hV] at RV HX
  have HVV : Hid (_ = V) := hV
  have v0 := RV.at_ 0 _ rfl
  have v1 := RV.at_ 1 _ rfl
  have v2 := RV.at_ 2 _ rfl
  have v3 := RV.at_ 3 _ rfl
  clear hV RV K3 K2 oS oE oW d1 d2 nG b3 lE lW hB2 c0 c1 c2 c3 c4 c5 c6 c7 c8
  go_wp2
  rw [HVV.out]
  refine bodyPost_ret (v := .agg #[.int .i64 zc, .slice sa zs.length sc, .slice ea ze.length ec, .slice ka zw.length kc]) (by simp [results, Tryz.results20, go_sem, v0, v1, v2, v3]) rfl ?_
  exact HX.out
 ·have k3 : ¬ Fl.mk ((f0, f1, f2) : Fl.Ob) (g0, g1, g2) (h0, h1, h2) = 3 := by omega
  simp only [hk] at hMk
  go_enter Tryz.func20, Tryz.ntmps20
  go_wp2_with fail
  refine (hMk _).mono ?_; rintro e w2 ⟨rfl, b2⟩
  have K2 := K1.below b2
  clear K1 b2 hMk hWn hW1 zn n3 n4 n5 u0 u1 u2 i0 i1 i2 sid0 sid1 sid2 c0 c1 c2 c3 c4 c5 c6 c7 c8
  have hZ4 : (0, st, SG, [((lef (g0, g1, g2) (h0, h1, h2)).1, tx st (lef (g0, g1, g2) (h0, h1, h2)))]) = Z := (if_pos hk).symm.trans ((if_neg k3).symm.trans ((if_neg k3).symm.trans hZ))
  clear hZ hBo hk k3
  have zK := K2.sz
  have hgs := K2.k.lt
  obtain ⟨TG, hTG⟩ : ∃ R, tx st (g0, g1, g2) = R := ⟨_, rfl⟩
  obtain ⟨TH, hTH⟩ : ∃ R, tx st (h0, h1, h2) = R := ⟨_, rfl⟩
  rw [hTG] at hTg
  rw [hTH] at hTh
  have KD := K2.below (below_drew (Below.refl _ _))
  have KB := (K2.below (allocBelow w2 (.cells #[.string ⟨#[]⟩, .string ⟨#[]⟩] 83))).below (below_drew (Below.refl _ _))
  have rBn : Rf (w2.alloc (.cells #[.string ⟨#[]⟩, .string ⟨#[]⟩] 83)).drew w2.heap.size [.string ⟨#[]⟩, .string ⟨#[]⟩] := (Rf.new w2 #[.string ⟨#[]⟩, .string ⟨#[]⟩] 83).below (by simp) (below_drew (Below.refl _ _))
  have SD := s3 KD.k.rG
  have SB := s3 KB.k.rG
  have hTa := hTg w2.drew KD.k.st
  have hTb := hTg (w2.alloc (.cells #[.string ⟨#[]⟩, .string ⟨#[]⟩] 83)).drew KB.k.st
  clear K2
  go_upto_region 9 with fail
  go_cut [11] from 31 to 37 (fun s wx => ∃ p, s = .pointer (some ⟨p, 0, none⟩) /\ Rf wx p [.string g0, .string TG] /\ q + 6 <= p /\ p < wx.heap.size /\ PX q base gS cS st (f0, f1, f2) (g0, g1, g2) (h0, h1, h2) (g0, g1, g2) w wx)
  case first =>
   clear hSt hZ4 hTh
   go_region_held (fun w' => w'.cell? ⟨q + 1, 0, none⟩ = some (.string g0) /\ w'.cell? ⟨q + 1, 1, none⟩ = some (.int .i64 g1) /\ w'.cell? ⟨q + 1, 2, none⟩ = some (.string g2)) (first | with_reducible exact SD | with_reducible exact SB | with_reducible exact SA | with_reducible exact SA2 | with_reducible exact SV | exact SD | exact SB | exact SA2 | exact SV)
    (first
     | (go_at_call 47; (with_reducible refine hTa.mono ?_); rintro e wa ⟨rfl, ba⟩; have KA := KD.below ba; have SA := s3 KA.k.rG; have KA2 := KA.below (allocBelow wa (.cells #[.string g0, .string TG] 83)); have SA2 := s3 KA2.k.rG; have KZ := KA.below (allocBelow wa (.cells #[.string ⟨#[]⟩, .string ⟨#[]⟩] 83)); have SV := s3 KZ.k.rG; have RP := Rf.new wa #[.string g0, .string TG] 83; have zA : w2.heap.size <= wa.heap.size := ba.size; have HP : Hid (∃ p, Value.pointer (some ⟨wa.heap.size, 0, none⟩) = .pointer (some ⟨p, 0, none⟩) /\ Rf (wa.alloc (.cells #[.string g0, .string TG] 83)) p [.string g0, .string TG] /\ q + 6 <= p /\ p < (wa.alloc (.cells #[.string g0, .string TG] 83)).heap.size /\ PX q base gS cS st (f0, f1, f2) (g0, g1, g2) (h0, h1, h2) (g0, g1, g2) w (wa.alloc (.cells #[.string g0, .string TG] 83))) := ⟨_, rfl, RP, by omega, by simp, KA2⟩)
     | (go_at_call 47; (with_reducible refine hTb.mono ?_); rintro e wa ⟨rfl, ba⟩; have KA := KB.below ba; have SA := s3 KA.k.rG; have rA := rBn.below (by simp) ba; have y0 := rA.at_ 0 _ rfl; have y1 := rA.at_ 1 _ rfl; have k0 := rA.fz 0; have k1 := rA.fz 1; have zA : w2.heap.size + 1 <= wa.heap.size := (by have := ba.size; rw [World.size_drew, World.size_alloc] at this; exact this); have KA2 := KA.work (p := w2.heap.size) (by omega) (.string g0) (.string TG); have SA2 := s3 KA2.k.rG; have RP := (rA.set (o := 0) (by simp) (.string g0)).set (o := 1) (by simp) (.string TG); have HP : Hid (∃ p, Value.pointer (some ⟨w2.heap.size, 0, none⟩) = .pointer (some ⟨p, 0, none⟩) /\ Rf ((wa.setCell ⟨w2.heap.size, 0, none⟩ (.string g0)).setCell ⟨w2.heap.size, 1, none⟩ (.string TG)) p [.string g0, .string TG] /\ q + 6 <= p /\ p < ((wa.setCell ⟨w2.heap.size, 0, none⟩ (.string g0)).setCell ⟨w2.heap.size, 1, none⟩ (.string TG)).heap.size /\ PX q base gS cS st (f0, f1, f2) (g0, g1, g2) (h0, h1, h2) (g0, g1, g2) w ((wa.setCell ⟨w2.heap.size, 0, none⟩ (.string g0)).setCell ⟨w2.heap.size, 1, none⟩ (.string TG))) := ⟨_, rfl, RP, by omega, by simp only [World.size_setCell]; omega, KA2⟩))
   all_goals (go_wp2_with fail; go_meet; exact HP.out)
  case rest =>
  obtain ⟨p, rfl, rP, hp1, hp2, K3⟩ := hcut
  obtain ⟨w3, hw3⟩ : ∃ w3, wc = w3 := ⟨_, rfl⟩
  rw [hw3] at rP hp2 K3 ⊢
  clear hw3 hTa hTb SD SB KD KB rBn hTg
  obtain ⟨LX, hLX⟩ : ∃ x, lef (g0, g1, g2) (h0, h1, h2) = x := ⟨_, rfl⟩
  obtain ⟨lt, hlt⟩ : ∃ x, tx st (lef (g0, g1, g2) (h0, h1, h2)) = x := ⟨_, rfl⟩
  obtain ⟨lx, hlx⟩ : ∃ x, (lef (g0, g1, g2) (h0, h1, h2)).1 = x := ⟨_, rfl⟩
  rw [hlt, hlx] at hZ4
  have HZ : Hid (Z = (0, st, SG, [(lx, lt)])) := hZ4.symm
  clear hZ4 hLX LX
  obtain ⟨D, hD⟩ : ∃ D, decide (((g0, g1, g2) : Fl.Ob) = Fl.onil) = D := ⟨_, rfl⟩
  have hE : ∀ w, (Op.equalIn 10000 34 (.agg #[.string g0, .int .i64 g1, .string g2]) (.agg #[.string ⟨#[]⟩, .int .i64 0, .string ⟨#[]⟩])).run Tryz.prog w = .ok D w := fun w => by rw [<- hD]; exact Fl.run_eqF g0 g2 ⟨#[]⟩ ⟨#[]⟩ g1 0 w
  have HD1 : Hid (D = true -> lx = h0 /\ lt = TH) := fun e => by
   rw [<- hD] at e
   have e2 := of_decide_eq_true e
   have e3 : lef (g0, g1, g2) (h0, h1, h2) = (h0, h1, h2) := if_pos e2
   rw [e3] at hlt hlx
   exact ⟨hlx.symm, hlt.symm.trans hTH⟩
  have HD0 : Hid (D = false -> lx = g0 /\ lt = TG) := fun e => by
   rw [<- hD] at e
   have e2 := of_decide_eq_false e
   have e3 : lef (g0, g1, g2) (h0, h1, h2) = (g0, g1, g2) := if_neg e2
   rw [e3] at hlt hlx
   exact ⟨hlx.symm, hlt.symm.trans hTG⟩
  clear hlt hlx hD hTG hTH
  obtain ⟨c3, c4, c5, m0, m1, m2⟩ := s6 K3.k.rG K3.rN
  simp only [] at c3 c4 c5
  go_upto_if 39 with (fail)
  clear c3 c4 c5 m0 m1 m2
  go_cut [] from 40 to 46 (fun wx => PX q base gS cS st (f0, f1, f2) (g0, g1, g2) (h0, h1, h2) (g0, g1, g2) w wx /\ Rf wx p [.string lx, .string lt] /\ p < wx.heap.size)
  case first =>
   clear hSt HZ
   cases D with
   | false =>
    obtain ⟨rfl, rfl⟩ := HD0.out rfl
    go_wp2_with fail
    go_meet
    exact ⟨K3, rP, hp2⟩
   | true =>
    obtain ⟨rfl, rfl⟩ := HD1.out rfl
    have KD := K3.below (below_drew (Below.refl _ _))
    have rPD := rP.below hp2 (below_drew (Below.refl _ _))
    have SD := s3 KD.k.rH
    have hTa := hTh w3.drew KD.k.st
    clear K3 rP HD0 HD1 hE hTh
    go_wp2_with fail
    go_region_held (fun w' => w'.cell? ⟨q + 2, 0, none⟩ = some (.string lx) /\ w'.cell? ⟨q + 2, 1, none⟩ = some (.int .i64 h1) /\ w'.cell? ⟨q + 2, 2, none⟩ = some (.string h2)) (first | with_reducible exact SD | with_reducible exact SA | with_reducible exact SV | exact SD | exact SV)
     ((go_at_call 47; (with_reducible refine hTa.mono ?_); rintro e wa ⟨rfl, ba⟩; have KA := KD.below ba; have rA := rPD.below (by show p < w3.heap.size; omega) ba; have SA := s3 KA.k.rH; have y0 := rA.at_ 0 _ rfl; have y1 := rA.at_ 1 _ rfl; have k0 := rA.fz 0; have k1 := rA.fz 1; have zA : w3.heap.size <= wa.heap.size := ba.size; have KA2 := KA.work (p := p) (by omega) (.string lx) (.string lt); have SV := s3 KA2.k.rH; have RP := (rA.set (o := 0) (by simp) (.string lx)).set (o := 1) (by simp) (.string lt); have HP : Hid (PX q base gS cS st (f0, f1, f2) (g0, g1, g2) (lx, h1, h2) (g0, g1, g2) w ((wa.setCell ⟨p, 0, none⟩ (.string lx)).setCell ⟨p, 1, none⟩ (.string lt)) /\ Rf ((wa.setCell ⟨p, 0, none⟩ (.string lx)).setCell ⟨p, 1, none⟩ (.string lt)) p [.string lx, .string lt] /\ p < ((wa.setCell ⟨p, 0, none⟩ (.string lx)).setCell ⟨p, 1, none⟩ (.string lt)).heap.size) := ⟨KA2, RP, by simp only [World.size_setCell]; omega⟩))
    all_goals (go_wp2_with fail; go_meet; exact HP.out)
  case rest =>
  obtain ⟨K5, rP5, hp5⟩ := hcut
  obtain ⟨w5, hw5⟩ : ∃ w5, wc = w5 := ⟨_, rfl⟩
  rw [hw5] at K5 rP5 hp5 ⊢
  clear hw5 K3 rP hp2 hTh hE HD0 HD1
  have KD := K5.below (below_drew (Below.refl _ _))
  have KB := (K5.below (allocBelow w5 (.cells #[.string lx, .string lt] 83))).below (below_drew (Below.refl _ _))
  have rPD := rP5.below hp5 (below_drew (Below.refl _ _))
  have rPB : Rf (w5.alloc (.cells #[.string lx, .string lt] 83)).drew p [.string lx, .string lt] := (rP5.below hp5 (allocBelow w5 (.cells #[.string lx, .string lt] 83))).below (by rw [World.size_alloc]; omega) (below_drew (Below.refl _ _))
  have z5 := K5.sz
  have SD := s11b KD.k.rF KD.k.rG KD.k.rH rPD
  have SB := s11b KB.k.rF KB.k.rG KB.k.rH rPB
  have hSa := hSt w5.drew
  have hSb := hSt (w5.alloc (.cells #[.string lx, .string lt] 83)).drew
  have oWb : (w5.alloc (.cells #[.string lx, .string lt] 83)).drew.ownsRow q 83 2 (.slice (some ⟨w5.heap.size, 0, none⟩) 1 1) ([(lx, lt)] : List Wk.Ob).length (Wk.ocells [(lx, lt)]) := (ownW1 lx lt (by omega)).drew
  clear K5 hSt rP5
  go_wp2_with fail
  go_region_held (fun w' => w'.cell? ⟨p, 0, none⟩ = some (.string lx) /\ w'.cell? ⟨p, 1, none⟩ = some (.string lt) /\ w'.cell? ⟨q, 0, none⟩ = some (.string f0) /\ w'.cell? ⟨q, 1, none⟩ = some (.int .i64 f1) /\ w'.cell? ⟨q, 2, none⟩ = some (.string f2) /\ w'.cell? ⟨q + 1, 0, none⟩ = some (.string g0) /\ w'.cell? ⟨q + 1, 1, none⟩ = some (.int .i64 g1) /\ w'.cell? ⟨q + 1, 2, none⟩ = some (.string g2) /\ w'.cell? ⟨q + 2, 0, none⟩ = some (.string h0) /\ w'.cell? ⟨q + 2, 1, none⟩ = some (.int .i64 h1) /\ w'.cell? ⟨q + 2, 2, none⟩ = some (.string h2)) (first | with_reducible exact SD | with_reducible exact SB | with_reducible exact SA | with_reducible exact SA2 | with_reducible exact SV | exact SD | exact SB | exact SA2 | exact SV)
   (first
    | (go_at_call 48; (with_reducible refine hSa.mono ?_); rintro e wa ⟨vE, rfl, oE, bE⟩; obtain ⟨ea, ec, rfl⟩ := En.shapeK3 oE; have KA := KD.below bE; have rA := rPD.below (by show p < w5.heap.size; omega) bE; have zA : w5.heap.size <= wa.heap.size := bE.size; have KA2 := KA.below (allocBelow wa (.cells #[.string lx, .string lt] 83)); have rA2 := rA.below (by omega) (allocBelow wa (.cells #[.string lx, .string lt] 83)); have SA := s11b KA.k.rF KA.k.rG KA.k.rH rA; have SA2 := s11b KA2.k.rF KA2.k.rG KA2.k.rH rA2; have oE2 := En.ownMonoF (b := q) (oE.kept (grownOfBelow (allocBelow wa (.cells #[.string lx, .string lt] 83)) none) (blockCases _ _ fun b c1 c2 => by cases c2)) (by show q <= w5.heap.size; omega); have oW2 := ownW1 (w := wa) (b := q) lx lt (by omega); have lE : ∀ j, (Value.slice ea SG.length ec).ownBlock = some j -> w5.heap.size <= j /\ j < wa.heap.size := (fun j hj => oE.lt j hj); have lp2 : p < (wa.alloc (.cells #[.string lx, .string lt] 83)).heap.size := (by rw [World.size_alloc]; omega); have yy0 := KA2.k.rV.at_ 0 _ rfl; have kk0 := KA2.k.rV.fz 0; have yy1 := KA2.k.rV.at_ 1 _ rfl; have kk1 := KA2.k.rV.fz 1; have yy2 := KA2.k.rV.at_ 2 _ rfl; have kk2 := KA2.k.rV.fz 2; have yy3 := KA2.k.rV.at_ 3 _ rfl; have kk3 := KA2.k.rV.fz 3; have zA2 := KA2.sz; have HX : Hid (BP base gS Z w (.returned (.agg #[.int .i64 0, .slice (some ⟨gS, 0, none⟩) st.length cS, .slice ea SG.length ec, .slice (some ⟨wa.heap.size, 0, none⟩) 1 1])) _) := bp_make (p := q + 3) hqq HZ.out KA2.k.bel (by omega) KA2.k.oS (fun j hj => by have : gS = j := Option.some.inj hj; omega) oE2 (fun j hj => by have := lE j hj; omega) oW2 (fun j hj => by have : wa.heap.size = j := Option.some.inj hj; omega) (fun j hj => by have : gS = j := Option.some.inj hj; exact ⟨fun c => by have := lE j c; omega, fun c => by have : wa.heap.size = j := Option.some.inj c; omega⟩) (fun j hj c => by have := lE j hj; have : wa.heap.size = j := Option.some.inj c; omega) (fun j hj => .inl (Option.some.inj hj).symm); have RV := ((((KA2.k.rV).set (o := 0) (by simp) (.int .i64 0)).set (o := 1) (by simp) (.slice (some ⟨gS, 0, none⟩) st.length cS)).set (o := 2) (by simp) (.slice ea SG.length ec)).set (o := 3) (by simp) (.slice (some ⟨wa.heap.size, 0, none⟩) 1 1); have SV := s11b (rfSet4 KA2.k.rF (by omega) (by omega) (p := q + 3) (.int .i64 0) (.slice (some ⟨gS, 0, none⟩) st.length cS) (.slice ea SG.length ec) (.slice (some ⟨wa.heap.size, 0, none⟩) 1 1)) (rfSet4 KA2.k.rG (by omega) (by omega) (p := q + 3) (.int .i64 0) (.slice (some ⟨gS, 0, none⟩) st.length cS) (.slice ea SG.length ec) (.slice (some ⟨wa.heap.size, 0, none⟩) 1 1)) (rfSet4 KA2.k.rH (by omega) (by omega) (p := q + 3) (.int .i64 0) (.slice (some ⟨gS, 0, none⟩) st.length cS) (.slice ea SG.length ec) (.slice (some ⟨wa.heap.size, 0, none⟩) 1 1)) (rfSet4 rA2 lp2 (by omega) (p := q + 3) (.int .i64 0) (.slice (some ⟨gS, 0, none⟩) st.length cS) (.slice ea SG.length ec) (.slice (some ⟨wa.heap.size, 0, none⟩) 1 1)))
    | (go_at_call 48; (with_reducible refine hSb.mono ?_); rintro e wa ⟨vE, rfl, oE, bE⟩; obtain ⟨ea, ec, rfl⟩ := En.shapeK3 oE; have KA2 := KB.below bE; have rA2 := rPB.below (by rw [World.size_drew, World.size_alloc]; omega) bE; have zA : w5.heap.size + 1 <= wa.heap.size := (by have := bE.size; rw [World.size_drew, World.size_alloc] at this; exact this); have SA2 := s11b KA2.k.rF KA2.k.rG KA2.k.rH rA2; have oE2 := En.ownMonoF (b := q) oE (by rw [World.size_drew, World.size_alloc]; omega); have oW2 := oWb.kept (grownOfBelow bE none) (blockCases _ _ fun b c1 c2 => by cases c2); have lp2 : p < wa.heap.size := (by omega); have lE : ∀ j, (Value.slice ea SG.length ec).ownBlock = some j -> w5.heap.size + 1 <= j /\ j < wa.heap.size := (fun j hj => by have h9 := oE.lt j hj; rw [World.size_drew, World.size_alloc] at h9; exact h9); have yy0 := KA2.k.rV.at_ 0 _ rfl; have kk0 := KA2.k.rV.fz 0; have yy1 := KA2.k.rV.at_ 1 _ rfl; have kk1 := KA2.k.rV.fz 1; have yy2 := KA2.k.rV.at_ 2 _ rfl; have kk2 := KA2.k.rV.fz 2; have yy3 := KA2.k.rV.at_ 3 _ rfl; have kk3 := KA2.k.rV.fz 3; have zA2 := KA2.sz; have HX : Hid (BP base gS Z w (.returned (.agg #[.int .i64 0, .slice (some ⟨gS, 0, none⟩) st.length cS, .slice ea SG.length ec, .slice (some ⟨w5.heap.size, 0, none⟩) 1 1])) _) := bp_make (p := q + 3) hqq HZ.out KA2.k.bel (by omega) KA2.k.oS (fun j hj => by have : gS = j := Option.some.inj hj; omega) oE2 (fun j hj => by have := lE j hj; omega) oW2 (fun j hj => by have : w5.heap.size = j := Option.some.inj hj; omega) (fun j hj => by have : gS = j := Option.some.inj hj; exact ⟨fun c => by have := lE j c; omega, fun c => by have : w5.heap.size = j := Option.some.inj c; omega⟩) (fun j hj c => by have := lE j hj; have : w5.heap.size = j := Option.some.inj c; omega) (fun j hj => .inl (Option.some.inj hj).symm); have RV := ((((KA2.k.rV).set (o := 0) (by simp) (.int .i64 0)).set (o := 1) (by simp) (.slice (some ⟨gS, 0, none⟩) st.length cS)).set (o := 2) (by simp) (.slice ea SG.length ec)).set (o := 3) (by simp) (.slice (some ⟨w5.heap.size, 0, none⟩) 1 1); have SV := s11b (rfSet4 KA2.k.rF (by omega) (by omega) (p := q + 3) (.int .i64 0) (.slice (some ⟨gS, 0, none⟩) st.length cS) (.slice ea SG.length ec) (.slice (some ⟨w5.heap.size, 0, none⟩) 1 1)) (rfSet4 KA2.k.rG (by omega) (by omega) (p := q + 3) (.int .i64 0) (.slice (some ⟨gS, 0, none⟩) st.length cS) (.slice ea SG.length ec) (.slice (some ⟨w5.heap.size, 0, none⟩) 1 1)) (rfSet4 KA2.k.rH (by omega) (by omega) (p := q + 3) (.int .i64 0) (.slice (some ⟨gS, 0, none⟩) st.length cS) (.slice ea SG.length ec) (.slice (some ⟨w5.heap.size, 0, none⟩) 1 1)) (rfSet4 rA2 lp2 (by omega) (p := q + 3) (.int .i64 0) (.slice (some ⟨gS, 0, none⟩) st.length cS) (.slice ea SG.length ec) (.slice (some ⟨w5.heap.size, 0, none⟩) 1 1))))
  ·obtain ⟨V, hV⟩ : ∃ V, (((((wa.alloc (.cells #[.string lx, .string lt] 83)).setCell ⟨q + 3, 0, none⟩ (.int .i64 0)).setCell ⟨q + 3, 1, none⟩ (.slice (some ⟨gS, 0, none⟩) st.length cS)).setCell ⟨q + 3, 2, none⟩ (.slice ea SG.length ec)).setCell ⟨q + 3, 3, none⟩ (.slice (some ⟨wa.heap.size, 0, none⟩) 1 1)) = V := ⟨_, rfl⟩
   rw [hV] at RV HX ⊢
   have v0 := RV.at_ 0 _ rfl
   have v1 := RV.at_ 1 _ rfl
   have v2 := RV.at_ 2 _ rfl
   have v3 := RV.at_ 3 _ rfl
   clear hV RV SV KA2 oE oE2 oW2 bE yy0 kk0 yy1 kk1 yy2 kk2 yy3 kk3 SA2 lE
   go_wp2
   refine bodyPost_ret (v := .agg #[.int .i64 0, .slice (some ⟨gS, 0, none⟩) st.length cS, .slice ea SG.length ec, .slice (some ⟨wa.heap.size, 0, none⟩) 1 1]) (by simp [results, Tryz.results20, go_sem, v0, v1, v2, v3]) rfl ?_
   exact HX.out
  ·obtain ⟨V, hV⟩ : ∃ V, ((((wa.setCell ⟨q + 3, 0, none⟩ (.int .i64 0)).setCell ⟨q + 3, 1, none⟩ (.slice (some ⟨gS, 0, none⟩) st.length cS)).setCell ⟨q + 3, 2, none⟩ (.slice ea SG.length ec)).setCell ⟨q + 3, 3, none⟩ (.slice (some ⟨w5.heap.size, 0, none⟩) 1 1)) = V := ⟨_, rfl⟩
   rw [hV] at RV HX ⊢
   have v0 := RV.at_ 0 _ rfl
   have v1 := RV.at_ 1 _ rfl
   have v2 := RV.at_ 2 _ rfl
   have v3 := RV.at_ 3 _ rfl
   clear hV RV SV KA2 oE oE2 oW2 bE yy0 kk0 yy1 kk1 yy2 kk2 yy3 kk3 SA2 lE
   go_wp2
   refine bodyPost_ret (v := .agg #[.int .i64 0, .slice (some ⟨gS, 0, none⟩) st.length cS, .slice ea SG.length ec, .slice (some ⟨w5.heap.size, 0, none⟩) 1 1]) (by simp [results, Tryz.results20, go_sem, v0, v1, v2, v3]) rfl ?_
   exact HX.out
end Go.Proofs.YtcfnkndbhpdfnaaGreatDoor.Tm
