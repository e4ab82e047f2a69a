/- A path that is merged: the specification's MergePath, and that it is the program's. No statement is proved here. -/
import Derived.Test.YtcfnkndbhpdfnaaGreatDoorTmRQ
set_option linter.unusedVariables false
namespace Go.Proofs.YtcfnkndbhpdfnaaGreatDoor.Tm
open Go.ChangeShapes Go.WideShapes Go.ChangeAt Go.RowKit
open Go.Proofs.YtcfnkndbhpdfnaaGreatDoor.Pv
theorem ffl_one (o : Fl.Ob) : Fl.ffl [o] = fiO o := by
 have h60 : ¬ 60 < ([o] : List Fl.Ob).length := by simp
 have hF : Fl.fiF [o] 0 = fiO o := by
  have e : Fl.fiF [o] 0 = if fiO o = 0 then (if 0 < 0 /\ Fl.leF o.1 (([o] : List Fl.Ob).getD (0 - 1) Fl.onil).1 = true then 1 else 0) else fiO o := rfl
  rw [e]
  split
  ·rename_i q; rw [if_neg (by omega), q]
  ·rfl
 by_cases h : fiO o = 0
 ·have hE : Fl.fiE [o] = 0 := Fl.fiE_ok h60 (fun j hj => by
   have : j = 0 := by simpa using hj
   rw [this, hF, h])
  rw [Fl.ffl_ok hE, h]
  rw [show ([o] : List Fl.Ob).length = 1 from rfl, Fl.tkA_succ, Fl.tkA_zero]
  show (false || Fl.tk [o] o.1) = false
  unfold Fl.tk
  rw [show ([o] : List Fl.Ob).length = 1 from rfl, Fl.tkU_succ, Fl.tkU_zero]
  show (false || (false || inD o.1 o.1)) = false
  rw [inD_short (by omega)]; rfl
 ·have hE : Fl.fiE [o] = fiO o := by
   rw [Fl.fiE_bad (k := 0) h60 (by simp) (fun j hj => absurd hj (Nat.not_lt_zero _)) (by rw [hF]; exact h), hF]
  rw [Fl.ffl_bad (by rw [hE]; exact h), hE]
def mpS (st : List Ob) (f g h : Fl.Ob) : Int × List Ob × List En.Ob × List Wk.Ob :=
 if ¬ sf st = 0 then (sf st, [], [], [])
 else if ¬ vff (som [f, g, h]) = 0 then (vff (som [f, g, h]), [], [], [])
 else if hbF st (som [f, g, h]) = false then (4, [], [], [])
 else paS st f g h
theorem boR_bad {st : List Ob} {f g h : Fl.Ob} (e : ¬ (boR st f g h).1 = 0) : boR st f g h = ((boR st f g h).1, [], [], []) := by
 unfold boR at e ⊢
 split
 ·rename_i a; rw [if_pos a] at e
  split
  ·rename_i b; rw [if_pos b] at e; exact absurd rfl e
  ·rename_i b; rw [if_neg b] at e; exact absurd rfl e
 ·rename_i a; rw [if_neg a] at e
  split
  ·rename_i b; rw [if_pos b] at e; exact absurd rfl e
  ·rename_i b; rw [if_neg b] at e
   split
   ·rename_i c; rw [if_pos c] at e
    split
    ·rename_i d; rw [if_pos d] at e; exact absurd rfl e
    ·rfl
   ·rename_i c; rw [if_neg c] at e; exact absurd rfl e
theorem paR_bad {st : List Ob} {f g h : Fl.Ob} (e : ¬ (paR st f g h).1 = 0) : paR st f g h = ((paR st f g h).1, [], [], []) := by
 unfold paR at e ⊢
 split
 ·rename_i a; rw [if_pos a] at e; exact boR_bad e
 ·rename_i a; rw [if_neg a] at e
  split
  ·rename_i b; rw [if_pos b] at e; exact absurd rfl e
  ·rename_i b; rw [if_neg b] at e
   split
   ·rename_i c; rw [if_pos c] at e
    split
    ·rename_i d; rw [if_pos d] at e; exact absurd rfl e
    ·rename_i d; rw [if_neg d] at e; exact absurd rfl e
   ·rename_i c; rw [if_neg c] at e
    split
    ·rename_i d; rw [if_pos d] at e; exact absurd rfl e
    ·rename_i d; rw [if_neg d] at e; exact absurd rfl e
theorem mp_same (st : List Ob) (f g h : Fl.Ob) : mpI st (paR st f g h).2.1 f g h ((som [f, g, h]).getD 0 Fl.onil).1 = mpS st f g h := by
 unfold mpI mpS
 by_cases hz : sf st = 0
 ·have Hz : ¬ ¬ sf st = 0 := fun c => c hz
  rw [if_neg Hz, if_neg Hz]
  by_cases hv : vff (som [f, g, h]) = 0
  ·have Hv : ¬ ¬ vff (som [f, g, h]) = 0 := fun c => c hv
   rw [if_neg Hv, if_neg Hv]
   by_cases hb : hbF st (som [f, g, h]) = false
   ·rw [if_pos hb, if_pos hb]
   ·have hb2 : hbF st (som [f, g, h]) = true := by simpa using hb
    rw [if_neg hb, if_neg hb]
    have oF : FOk f := fok (fs := [f, g, h]) hv (k := 0) (by simp)
    have oG : FOk g := fok (fs := [f, g, h]) hv (k := 1) (by simp)
    have oH : FOk h := fok (fs := [f, g, h]) hv (k := 2) (by simp)
    rw [pa_same oF oG oH]
    obtain ⟨e1, e2⟩ := pa_eq hz hv hb2
    by_cases hc : (paR st f g h).1 = 0
    ·obtain ⟨e3, _, _⟩ := e2 hc
     have H1 : ¬ ¬ (paI st [] [] f g h ((som [f, g, h]).getD 0 Fl.onil).1).1 = 0 := fun c => c (e1.trans hc)
     rw [if_neg H1, e3]
     show (0, (paR st f g h).2.1, (paR st f g h).2.2.1, (paR st f g h).2.2.2) = paR st f g h
     rw [<- hc]
    ·have H1 : ¬ (paI st [] [] f g h ((som [f, g, h]).getD 0 Fl.onil).1).1 = 0 := fun c => hc (e1.symm.trans c)
     rw [if_pos H1, e1]
     exact (paR_bad hc).symm
  ·rw [if_pos hv, if_pos hv]
 ·rw [if_pos hz, if_pos hz]
theorem someO {w : World} {base : Nat} {v : Value} {l : List Ob} (h : w.ownsRow base 50 3 v l.length (ocells l)) (hn : v ≠ .slice none 0 0) : ∃ g c, v = .slice (some ⟨g, 0, none⟩) l.length c /\ l.length <= c := by
 rcases h.2 with ⟨e, h0⟩ | ⟨g, c, cur, e, _, _, h1, _⟩
 ·rw [e] at hn; exact absurd rfl hn
 ·exact ⟨g, c, e, h1⟩
theorem mp_of_bp {gS : Nat} {Z : Int × List Ob × List En.Ob × List Wk.Ob} {w w' : World} {e : Ending} (h : BP w.heap.size gS Z w e w') : MP Z w e w' := by
 obtain ⟨vS, vE, vW, h1, h2, h3, h4, h5, h6, h7, _⟩ := h
 exact ⟨vS, vE, vW, h1, h2, h3, h4, h5, h6, h7⟩
structure MW (q : Nat) (f g h : Fl.Ob) (w W : World) : Prop where
 rF : Rf W q [.string f.1, .int .i64 f.2.1, .string f.2.2]
 rG : Rf W (q + 1) [.string g.1, .int .i64 g.2.1, .string g.2.2]
 rH : Rf W (q + 2) [.string h.1, .int .i64 h.2.1, .string h.2.2]
 rV : Rf W (q + 3) [.int .i64 0, .slice none 0 0, .slice none 0 0, .slice none 0 0]
 sz : q + 4 <= W.heap.size
 bel : Below q w W
theorem MW.below {q : Nat} {f g h : Fl.Ob} {w W W' : World} (k : MW q f g h w W) (hb : Below W.heap.size W W') : MW q f g h w W' :=
 ⟨k.rF.below (by have := k.sz; omega) hb, k.rG.below (by have := k.sz; omega) hb, k.rH.below (by have := k.sz; omega) hb, k.rV.below (by have := k.sz; omega) hb, Nat.le_trans k.sz hb.size, k.bel.trans (hb.mono (by have := k.sz; omega))⟩
set_option maxRecDepth 20000 in
set_option maxHeartbeats 16000000 in
theorem specMergePath (gS cS : Nat) (st : List Ob) (f0 f2 g0 g2 h0 h2 : ByteArray) (f1 g1 h1 : Int) (w : World) (hO : OB w.heap.size w (some ⟨gS, 0, none⟩) st) (hs : SmallO st) (hn : st.length <= 1048576)
  (hsz : ∀ o ∈ ([((f0, f1, f2) : Fl.Ob), (g0, g1, g2), (h0, h1, h2)]), o.1.size <= 1048576 /\ o.2.2.size <= 1048576) :
  Calls Tryz.prog 6 #[.slice (some ⟨gS, 0, none⟩) st.length cS, .agg #[.string f0, .int .i64 f1, .string f2], .agg #[.string g0, .int .i64 g1, .string g2], .agg #[.string h0, .int .i64 h1, .string h2]] w fun e w' => MP (mpS st ((f0, f1, f2) : Fl.Ob) (g0, g1, g2) (h0, h1, h2)) w e w' := by
 obtain ⟨q, hq⟩ : ∃ q, w.heap.size = q := ⟨_, rfl⟩
 have hqq : w.heap.size = q := hq
 have HQ : Hid (w.heap.size = q) := hq
 obtain ⟨Z, hZ⟩ : ∃ Z, mpS st ((f0, f1, f2) : Fl.Ob) (g0, g1, g2) (h0, h1, h2) = Z := ⟨_, rfl⟩
 rw [hZ]
 unfold mpS at hZ
 obtain ⟨W1, hW1⟩ : ∃ W, (((w.alloc (.cells #[.string f0, .int .i64 f1, .string f2] 34)).alloc (.cells #[.string g0, .int .i64 g1, .string g2] 34)).alloc (.cells #[.string h0, .int .i64 h1, .string h2] 34)).alloc (.cells #[.int .i64 0, .slice none 0 0, .slice none 0 0, .slice none 0 0] 31) = W := ⟨_, rfl⟩
 have K1 : MW q (f0, f1, f2) (g0, g1, g2) (h0, h1, h2) w W1 := by
  have e1 : (w.alloc (.cells #[.string f0, .int .i64 f1, .string f2] 34)).heap.size = q + 1 := by rw [<- hq]; simp
  have e2 : ((w.alloc (.cells #[.string f0, .int .i64 f1, .string f2] 34)).alloc (.cells #[.string g0, .int .i64 g1, .string g2] 34)).heap.size = q + 2 := by rw [<- hq]; simp
  have e3 : (((w.alloc (.cells #[.string f0, .int .i64 f1, .string f2] 34)).alloc (.cells #[.string g0, .int .i64 g1, .string g2] 34)).alloc (.cells #[.string h0, .int .i64 h1, .string h2] 34)).heap.size = q + 3 := by rw [<- hq]; simp
  have b1 : Below w.heap.size w W1 := by rw [<- hW1]; exact ((((Below.refl _ _).alloc (Nat.le_refl _) _).alloc (by simp) _).alloc (by simp <;> omega) _).alloc (by simp <;> omega) _
  refine ⟨?_, ?_, ?_, ?_, by rw [<- hW1, <- hq]; simp, by rw [<- hq]; exact b1⟩
  ·rw [<- hW1, <- hq]; exact (((Rf.new w #[.string f0, .int .i64 f1, .string f2] _).below (by simp) (allocBelow _ _)).below (by simp <;> omega) (allocBelow _ _)).below (by simp <;> omega) (allocBelow _ _)
  ·rw [<- hW1, <- e1]; exact ((Rf.new (w.alloc (.cells #[.string f0, .int .i64 f1, .string f2] 34)) #[.string g0, .int .i64 g1, .string g2] _).below (by simp) (allocBelow _ _)).below (by simp <;> omega) (allocBelow _ _)
  ·rw [<- hW1, <- e2]; exact (Rf.new ((w.alloc (.cells #[.string f0, .int .i64 f1, .string f2] 34)).alloc (.cells #[.string g0, .int .i64 g1, .string g2] 34)) #[.string h0, .int .i64 h1, .string h2] _).below (by simp) (allocBelow _ _)
  ·rw [<- hW1, <- e3]; exact Rf.new _ #[.int .i64 0, .slice none 0 0, .slice none 0 0, .slice none 0 0] _
 have HRR : Hid (∀ W, Below q w W -> OB W.heap.size W (some ⟨gS, 0, none⟩) st) := fun W bW => by
  rw [<- hq] at bW
  exact (hO.below bW).mono bW.size
 clear hO hq
 have hA := specStoreFault (some ⟨gS, 0, none⟩) cS st W1 (HRR.out W1 K1.bel) hs hn
 by_cases q0 : sf st = 0
 rotate_left
 ·have HC : Hid (Z = (sf st, [], [], [])) := hZ.symm.trans (if_pos q0)
  have qn : (sf st != 0) = true := by simpa using q0
  obtain ⟨C, hC⟩ : ∃ C, sf st = C := ⟨_, rfl⟩
  rw [hC] at hA HC qn
  clear hC q0 hZ
  go_enter Tryz.func6, Tryz.ntmps6
  go_wp2_with fail
  refine hA.mono ?_; rintro e w2 ⟨rfl, b2⟩
  have KX := K1.below b2
  clear hA hW1 b2 K1
  have yy0 := KX.rV.at_ 0 _ rfl
  have kk0 := KX.rV.fz 0
  have yy1 := KX.rV.at_ 1 _ rfl
  have kk1 := KX.rV.fz 1
  have yy2 := KX.rV.at_ 2 _ rfl
  have kk2 := KX.rV.fz 2
  have yy3 := KX.rV.at_ 3 _ rfl
  have kk3 := KX.rV.fz 3
  have RV := (((KX.rV.set (o := 0) (by simp) (.int .i64 C)).set (o := 1) (by simp) (.slice none 0 0)).set (o := 2) (by simp) (.slice none 0 0)).set (o := 3) (by simp) (.slice none 0 0)
  have FV := Ry.frSet4 w2 (q + 3) (.int .i64 C) (.slice none 0 0) (.slice none 0 0) (.slice none 0 0)
  have bX := KX.bel
  have zX := KX.sz
  obtain ⟨V9, hV9⟩ : ∃ X9, (((w2.setCell ⟨q + 3, 0, none⟩ (.int .i64 C)).setCell ⟨q + 3, 1, none⟩ (.slice none 0 0)).setCell ⟨q + 3, 2, none⟩ (.slice none 0 0)).setCell ⟨q + 3, 3, none⟩ (.slice none 0 0) = X9 := ⟨_, rfl⟩
  rw [hV9] at RV FV
  have HVV : Hid (_ = V9) := hV9
  have BV : Hid (Below q w V9) := FV.below bX (by omega) (by omega)
  have v0 := RV.at_ 0 _ rfl
  have v1 := RV.at_ 1 _ rfl
  have v2 := RV.at_ 2 _ rfl
  have v3 := RV.at_ 3 _ rfl
  clear hV9 RV FV KX bX
  go_wp2
  rw [HVV.out]
  refine bodyPost_ret (v := .agg #[.int .i64 C, .slice none 0 0, .slice none 0 0, .slice none 0 0]) (by simp [results, Tryz.results6, go_sem, v0, v1, v2, v3]) rfl ?_
  exact mp_nil HQ.out HC.out BV.out
 rw [if_neg (by simpa using q0)] at hZ
 rw [q0] at hA
 go_enter Tryz.func6, Tryz.ntmps6
 go_wp2_with fail
 refine hA.mono ?_; rintro e w2 ⟨rfl, b2⟩
 have K2 := K1.below b2
 clear hA hW1 K1 b2
 obtain ⟨c0, c1, c2, c3, c4, c5, c6, c7, c8⟩ := s9 K2.rF K2.rG K2.rH
 simp only [] at c0 c1 c2 c3 c4 c5 c6 c7 c8
 have OL := rowFl f0 f2 g0 g2 h0 h2 f1 g1 h1 w2
 obtain ⟨W3, hW3⟩ : ∃ W, w2.alloc (.cells #[.string f0, .int .i64 f1, .string f2, .string g0, .int .i64 g1, .string g2, .string h0, .int .i64 h1, .string h2] 34) = W := ⟨_, rfl⟩
 rw [hW3] at OL
 have b3 : Below w2.heap.size w2 W3 := by rw [<- hW3]; exact allocBelow _ _
 have K3 := K2.below b3
 have hSo := l11SomeC (some ⟨w2.heap.size, 0, none⟩) 3 ([((f0, f1, f2) : Fl.Ob), (g0, g1, g2), (h0, h1, h2)]) W3 OL (by simp)
 have hlen : (([((f0, f1, f2) : Fl.Ob), (g0, g1, g2), (h0, h1, h2)])).length = 3 := rfl
 rw [hlen] at hSo
 unfold En.SF at hSo
 have hsmall : ∀ o ∈ som ([((f0, f1, f2) : Fl.Ob), (g0, g1, g2), (h0, h1, h2)]), o.1.size <= 1048576 /\ o.2.2.size <= 1048576 := fun o ho => hsz o (List.mem_filter.1 ho).1
 have hl3 : (som ([((f0, f1, f2) : Fl.Ob), (g0, g1, g2), (h0, h1, h2)])).length <= 3 := List.length_filter_le _ _
 obtain ⟨SM, hSM⟩ : ∃ S, som ([((f0, f1, f2) : Fl.Ob), (g0, g1, g2), (h0, h1, h2)]) = S := ⟨_, rfl⟩
 rw [hSM] at hSo hZ hsmall hl3
 clear hSM OL K2 b3 hsz
 go_wp2_with fail
 refine hSo.mono ?_; rintro e w4 ⟨vL, rfl, oL, b4⟩
 obtain ⟨la, lc, rfl⟩ := En.shapeK3 oL
 have K4 := K3.below b4
 have OL4 : Fl.OB w4.heap.size w4 la SM := Fl.OB.of oL
 have hshape : 0 < SM.length -> ∃ lg, la = some ⟨lg, 0, none⟩ /\ SM.length <= lc := fun h0 => by
  rcases oL.2 with ⟨_, h'⟩ | ⟨g', cp, cur, e', _, _, h1', _⟩
  ·omega
  ·simp only [Value.slice.injEq] at e'
   obtain ⟨rfl, _, rfl⟩ := e'
   exact ⟨g', rfl, h1'⟩
 have HS : Hid (0 < SM.length -> ∃ lg, la = some ⟨lg, 0, none⟩ /\ SM.length <= lc) := hshape
 have HSM : Hid (∀ o ∈ SM, o.1.size <= 1048576 /\ o.2.2.size <= 1048576) := hsmall
 clear K3 b4 hSo hW3 c0 c1 c2 c3 c4 c5 c6 c7 c8 oL hshape hsmall hlen
 obtain ⟨P0, hP0⟩ : ∃ p, (SM.getD 0 Fl.onil).1 = p := ⟨_, rfl⟩
 have hvf : vff SM = vfG P0 (SM.drop 0) := by unfold vff; rw [hP0, List.drop_zero]
 have HV0 : Hid ((SM.getD 0 Fl.onil).1 = P0) := hP0
 obtain ⟨N, hN⟩ : ∃ N, vff SM = N := ⟨_, rfl⟩
 rw [hN] at hZ hvf
 have HZ : Hid ((if ¬ N = 0 then (N, [], [], []) else if hbF st SM = false then (4, [], [], []) else paS st ((f0, f1, f2) : Fl.Ob) (g0, g1, g2) (h0, h1, h2)) = Z) := hZ
 clear hP0 hN hZ
 go_wp2
 go_loopw [11, 12] (fun i _ wr => ∃ k : Nat, k <= SM.length /\ i = .int .i64 k /\ MW q (f0, f1, f2) (g0, g1, g2) (h0, h1, h2) w wr /\ Below w4.heap.size w4 wr /\ Hid (N = vfG P0 (SM.drop k))) (fun i _ _ => SM.length - (intOf i).toNat)
 case atStart => exact ⟨0, Nat.zero_le _, rfl, K4, Below.refl _ _, hvf⟩
 case round =>
  obtain ⟨k, hk, rfl, K, BW, HN⟩ := hrel
  clear K4 hvf
  obtain ⟨V, hV⟩ : ∃ V, wr = V := ⟨_, rfl⟩
  rw [hV] at K BW ⊢
  clear hV
  by_cases hlt : k < SM.length
  ·have qk : (k : Int) < (SM.length : Int) := by omega
   obtain ⟨lg, rfl, hlc⟩ := HS.out (by omega)
   have i1 : IntKind.i64.wrap ((k : Int) + 1) = (k : Int) + 1 := by rw [IntKind.wrap_i64]; omega
   have OV := flBelowAt OL4 BW (Nat.le_refl _)
   obtain ⟨g', off, e, hg', d0, d1, d2⟩ := OV k hlt
   simp only [Option.some.injEq, Addr.mk.injEq, and_true] at e
   obtain ⟨rfl, rfl⟩ := e
   obtain ⟨g'', off', e', _, z0, _, _⟩ := OV 0 (by omega)
   simp only [Option.some.injEq, Addr.mk.injEq, and_true] at e'
   obtain ⟨rfl, rfl⟩ := e'
   have hdr := drop_cons SM k hlt
   have hmem : SM.getD k Fl.onil ∈ SM := by rw [List.getD, List.getElem?_eq_getElem hlt]; exact List.getElem_mem hlt
   have hsm := HSM.out _ hmem
   obtain ⟨Cx, hCx⟩ : ∃ Cx, SM.getD k Fl.onil = Cx := ⟨_, rfl⟩
   obtain ⟨x0, x1, x2⟩ := Cx
   rw [hCx] at d0 d1 d2 hdr hsm
   rw [HV0.out] at z0
   simp only [Nat.zero_add] at d0 d1 d2 z0
   have OK1 : Fl.OB V.heap.size V (some ⟨lg, k * 3, none⟩) [((x0, x1, x2) : Fl.Ob)] := fun j hj => by
    have hj0 : j = 0 := by simpa using hj
    subst hj0
    exact ⟨lg, k * 3, rfl, by have := BW.size; omega, by simpa using d0, by simpa using d1, by simpa using d2⟩
   have hFf := fun c => Fl.specFilesFault (some ⟨lg, k * 3, none⟩) c [((x0, x1, x2) : Fl.Ob)] V OK1 (fun o ho => by rw [List.mem_singleton.1 ho]; exact ⟨by have := hsm.1; simpa using this, by have := hsm.2; simpa using this⟩) (by simp)
   rw [ffl_one] at hFf
   have hl1 : ([((x0, x1, x2) : Fl.Ob)]).length = 1 := rfl
   rw [hl1] at hFf
   have HN2 := HN.out
   rw [hdr] at HN2
   obtain ⟨FF, hFF⟩ : ∃ x, fiO ((x0, x1, x2) : Fl.Ob) = x := ⟨_, rfl⟩
   rw [hFF] at hFf
   have qk1 : (k : Int) + 1 <= (lc : Int) := by omega
   have qk0 : (0 : Int) <= (k : Int) := by omega
   have qkk : (k : Int) <= (k : Int) + 1 := by omega
   have zV := K.sz
   clear hCx hl1 hdr hsm OK1 hmem OV
   go_wp2_with fail
   refine (hFf _).mono ?_; rintro e w5 ⟨rfl, b5⟩
   have K5 := K.below b5
   have B5 := BW.trans (b5.mono BW.size)
   by_cases e0 : FF = 0
   rotate_left
   ·have hNF : N = FF := by rw [HN2, vf_bad (by rw [hFF]; exact e0), hFF]
    have HC : Hid (Z = (FF, [], [], [])) := by show _ = _; rw [<- HZ.out, if_pos (by rw [hNF]; exact e0), hNF]
    have qn : (FF != 0) = true := by simpa using e0
    have KX := K5
    clear HN2 hNF hFF hFf K K5 b5 B5 BW HN OL4
    have yy0 := KX.rV.at_ 0 _ rfl
    have kk0 := KX.rV.fz 0
    have yy1 := KX.rV.at_ 1 _ rfl
    have kk1 := KX.rV.fz 1
    have yy2 := KX.rV.at_ 2 _ rfl
    have kk2 := KX.rV.fz 2
    have yy3 := KX.rV.at_ 3 _ rfl
    have kk3 := KX.rV.fz 3
    have RV := (((KX.rV.set (o := 0) (by simp) (.int .i64 FF)).set (o := 1) (by simp) (.slice none 0 0)).set (o := 2) (by simp) (.slice none 0 0)).set (o := 3) (by simp) (.slice none 0 0)
    have FV := Ry.frSet4 w5 (q + 3) (.int .i64 FF) (.slice none 0 0) (.slice none 0 0) (.slice none 0 0)
    have bX := KX.bel
    have zX := KX.sz
    obtain ⟨V9, hV9⟩ : ∃ X9, (((w5.setCell ⟨q + 3, 0, none⟩ (.int .i64 FF)).setCell ⟨q + 3, 1, none⟩ (.slice none 0 0)).setCell ⟨q + 3, 2, none⟩ (.slice none 0 0)).setCell ⟨q + 3, 3, none⟩ (.slice none 0 0) = X9 := ⟨_, rfl⟩
    rw [hV9] at RV FV
    have HVV : Hid (_ = V9) := hV9
    have BV : Hid (Below q w V9) := FV.below bX (by omega) (by omega)
    have v0 := RV.at_ 0 _ rfl
    have v1 := RV.at_ 1 _ rfl
    have v2 := RV.at_ 2 _ rfl
    have v3 := RV.at_ 3 _ rfl
    clear hV9 RV FV KX bX
    go_wp2
    rw [HVV.out]
    refine bodyPost_ret (v := .agg #[.int .i64 FF, .slice none 0 0, .slice none 0 0, .slice none 0 0]) (by simp [results, Tryz.results6, go_sem, v0, v1, v2, v3]) rfl ?_
    exact mp_nil HQ.out HC.out BV.out
   have e2 : fiO ((x0, x1, x2) : Fl.Ob) = 0 := hFF.trans e0
   have d0' := (Fr.ofBelow (lo := 0) (hi := 0) b5).cell d0 (.inr (Nat.zero_le _))
   have z0' := (Fr.ofBelow (lo := 0) (hi := 0) b5).cell z0 (.inr (Nat.zero_le _))
   have qn : (FF != 0) = false := by simp [e0]
   obtain ⟨D, hD⟩ : ∃ D, decide (¬ x0 = P0) = D := ⟨_, rfl⟩
   have HD : Hid (decide (¬ x0 = P0) = D) := hD
   clear hFF hFf K b5 BW HN e0 d0 d1 d2 z0 hD
   go_wp2_with fail
   go_upto_region 11 with fail
   go_cut [49] from 40 to 50 (fun s wx => s = .bool D /\ ∃ n, wx = w5.drewN n)
   case first =>
    clear HN2 K5 B5 OL4
    by_cases e3 : x0 = P0
    ·have hD2 : D = false := by rw [<- HD.out]; exact decide_eq_false (fun c => c e3)
     have q3 := beq_bytes_true e3
     have q4 : (x0.toList != P0.toList) = false := by simp [bne, q3]
     subst hD2
     clear HD e3
     go_quiet (fail)
     all_goals (go_wp2_with fail; go_meet; exact ⟨rfl, _, rfl⟩)
    ·have hD2 : D = true := by rw [<- HD.out]; exact decide_eq_true e3
     have q3 := beq_bytes_false e3
     have q4 : (x0.toList != P0.toList) = true := by simp [bne, q3]
     subst hD2
     clear HD e3
     go_quiet (fail)
     all_goals (go_wp2_with fail; go_meet; exact ⟨rfl, _, rfl⟩)
   case rest =>
   obtain ⟨rfl, nd, hwc⟩ := hcut
   obtain ⟨w6, hw6⟩ : ∃ w6, wc = w6 := ⟨_, rfl⟩
   rw [hw6] at hwc ⊢
   have b6 : Below w5.heap.size w5 w6 := by rw [hwc]; exact below_drewN' (Below.refl _ _) _
   have K6 := K5.below b6
   have B6 := B5.trans (b6.mono B5.size)
   clear hw6 hwc b6 K5 B5 d0' z0'
   cases D with
   | true =>
    have e3 := of_decide_eq_true HD.out
    have hNF : N = 1 := by rw [HN2, vf_path e2 e3]
    have HC : Hid (Z = (1, [], [], [])) := by show _ = _; rw [<- HZ.out, if_pos (by rw [hNF]; decide), hNF]
    have KX := K6
    clear HN2 hNF B6 OL4 e2 e3 K6 HD
    have yy0 := KX.rV.at_ 0 _ rfl
    have kk0 := KX.rV.fz 0
    have yy1 := KX.rV.at_ 1 _ rfl
    have kk1 := KX.rV.fz 1
    have yy2 := KX.rV.at_ 2 _ rfl
    have kk2 := KX.rV.fz 2
    have yy3 := KX.rV.at_ 3 _ rfl
    have kk3 := KX.rV.fz 3
    have RV := (((KX.rV.set (o := 0) (by simp) (.int .i64 1)).set (o := 1) (by simp) (.slice none 0 0)).set (o := 2) (by simp) (.slice none 0 0)).set (o := 3) (by simp) (.slice none 0 0)
    have FV := Ry.frSet4 w6 (q + 3) (.int .i64 1) (.slice none 0 0) (.slice none 0 0) (.slice none 0 0)
    have bX := KX.bel
    have zX := KX.sz
    obtain ⟨V9, hV9⟩ : ∃ X9, (((w6.setCell ⟨q + 3, 0, none⟩ (.int .i64 1)).setCell ⟨q + 3, 1, none⟩ (.slice none 0 0)).setCell ⟨q + 3, 2, none⟩ (.slice none 0 0)).setCell ⟨q + 3, 3, none⟩ (.slice none 0 0) = X9 := ⟨_, rfl⟩
    rw [hV9] at RV FV
    have HVV : Hid (_ = V9) := hV9
    have BV : Hid (Below q w V9) := FV.below bX (by omega) (by omega)
    have v0 := RV.at_ 0 _ rfl
    have v1 := RV.at_ 1 _ rfl
    have v2 := RV.at_ 2 _ rfl
    have v3 := RV.at_ 3 _ rfl
    clear hV9 RV FV KX bX
    go_wp2
    rw [HVV.out]
    refine bodyPost_ret (v := .agg #[.int .i64 1, .slice none 0 0, .slice none 0 0, .slice none 0 0]) (by simp [results, Tryz.results6, go_sem, v0, v1, v2, v3]) rfl ?_
    exact mp_nil HQ.out HC.out BV.out
   | false =>
    have e3 : x0 = P0 := Decidable.byContradiction fun c => of_decide_eq_false HD.out c
    have HNN : Hid (N = vfG P0 (SM.drop (k + 1))) := by show _ = _; rw [HN2, vf_go e2 e3]
    clear HN2 e2 e3 HD
    go_wp2_with fail
    go_roundw
    case rel => exact ⟨k + 1, by omega, by go_num, K6, B6, HNN⟩
    case measure => simp [intOf]; omega
  ·have qk : ¬ (k : Int) < (SM.length : Int) := by omega
   have ek : k = SM.length := by omega
   have hN0 : N = 0 := by rw [HN.out, ek, List.drop_length]; rfl
   have HZ2 : Hid ((if hbF st SM = false then (4, [], [], []) else paS st ((f0, f1, f2) : Fl.Ob) (g0, g1, g2) (h0, h1, h2)) = Z) := by
    have HN1 : ¬ ¬ N = 0 := fun c => c hN0
    show _ = _
    rw [<- HZ.out, if_neg HN1]
   have OLV := (OL4.below BW).mono BW.size
   have hBl := l11Blobs (some ⟨gS, 0, none⟩) cS st la lc SM V (HRR.out V K.bel) OLV hn (by omega)
   obtain ⟨HB, hHB⟩ : ∃ b, hbF st SM = b := ⟨_, rfl⟩
   rw [hHB] at hBl HZ2
   clear HN ek hN0 hHB OL4 OLV BW hlt HS HSM HV0 HZ
   go_wp2_with fail
   refine hBl.mono ?_; rintro e V ⟨rfl, rfl⟩
   clear hBl
   cases HB with
   | false =>
    have HC : Hid (Z = (4, [], [], [])) := HZ2.out.symm.trans (if_pos rfl)
    have KX := K
    clear K HZ2
    have yy0 := KX.rV.at_ 0 _ rfl
    have kk0 := KX.rV.fz 0
    have yy1 := KX.rV.at_ 1 _ rfl
    have kk1 := KX.rV.fz 1
    have yy2 := KX.rV.at_ 2 _ rfl
    have kk2 := KX.rV.fz 2
    have yy3 := KX.rV.at_ 3 _ rfl
    have kk3 := KX.rV.fz 3
    have RV := (((KX.rV.set (o := 0) (by simp) (.int .i64 4)).set (o := 1) (by simp) (.slice none 0 0)).set (o := 2) (by simp) (.slice none 0 0)).set (o := 3) (by simp) (.slice none 0 0)
    have FV := Ry.frSet4 V (q + 3) (.int .i64 4) (.slice none 0 0) (.slice none 0 0) (.slice none 0 0)
    have bX := KX.bel
    have zX := KX.sz
    obtain ⟨V9, hV9⟩ : ∃ X9, (((V.setCell ⟨q + 3, 0, none⟩ (.int .i64 4)).setCell ⟨q + 3, 1, none⟩ (.slice none 0 0)).setCell ⟨q + 3, 2, none⟩ (.slice none 0 0)).setCell ⟨q + 3, 3, none⟩ (.slice none 0 0) = X9 := ⟨_, rfl⟩
    rw [hV9] at RV FV
    have HVV : Hid (_ = V9) := hV9
    have BV : Hid (Below q w V9) := FV.below bX (by omega) (by omega)
    have v0 := RV.at_ 0 _ rfl
    have v1 := RV.at_ 1 _ rfl
    have v2 := RV.at_ 2 _ rfl
    have v3 := RV.at_ 3 _ rfl
    clear hV9 RV FV KX bX
    go_wp2
    rw [HVV.out]
    refine bodyPost_ret (v := .agg #[.int .i64 4, .slice none 0 0, .slice none 0 0, .slice none 0 0]) (by simp [results, Tryz.results6, go_sem, v0, v1, v2, v3]) rfl ?_
    exact mp_nil HQ.out HC.out BV.out
   | true =>
    have hZ3 : paS st ((f0, f1, f2) : Fl.Ob) (g0, g1, g2) (h0, h1, h2) = Z := (if_neg (fun c => by cases c)).symm.trans HZ2.out
    have zK := K.sz
    have KD := K.below (below_drew (Below.refl _ _))
    have hCp := l5Copy gS 0 cS st V.drew (HRR.out V.drew KD.bel) hn
    unfold ON at hCp
    have hPa := fun W gC cC y b c => l11PathC V.heap.size gC cC st f0 f2 g0 g2 h0 h2 f1 g1 h1 W y b q0 hs hn c
    rw [hZ3] at hPa
    obtain ⟨zc, zs, ze, zw⟩ := Z
    unfold BP at hPa
    simp only [] at hPa
    have SD := s9 KD.rF KD.rG KD.rH
    clear HZ2 hZ3 K
    go_wp2_with fail
    go_region_held (fun w' => w'.cell? ⟨q, 0, none⟩ = some (.string f0) /\ w'.cell? ⟨q, 1, none⟩ = some (.int .i64 f1) /\ w'.cell? ⟨q, 2, none⟩ = some (.string f2) /\ w'.cell? ⟨q + 1, 0, none⟩ = some (.string g0) /\ w'.cell? ⟨q + 1, 1, none⟩ = some (.int .i64 g1) /\ w'.cell? ⟨q + 1, 2, none⟩ = some (.string g2) /\ w'.cell? ⟨q + 2, 0, none⟩ = some (.string h0) /\ w'.cell? ⟨q + 2, 1, none⟩ = some (.int .i64 h1) /\ w'.cell? ⟨q + 2, 2, none⟩ = some (.string h2)) (first | with_reducible exact SD | with_reducible exact SA | with_reducible exact SB | with_reducible exact SV | exact SD | exact SV)
     (first
      | (go_at_call 21; (with_reducible refine hCp.mono ?_); rintro e wa ⟨vC, rfl, nC, oC, bC⟩; obtain ⟨gC, cC, rfl, hcc⟩ := someO oC nC; have KA := KD.below bC; have SA := s9 KA.rF KA.rG KA.rH; have zA : V.heap.size <= wa.heap.size := bC.size; have lC : V.heap.size <= gC /\ gC < wa.heap.size := oC.lt gC rfl; have hPb := hPa wa gC cC oC zA hcc)
      | (go_at_call 20; (with_reducible refine hPb.mono ?_); rintro e wb ⟨vS, vE, vW, rfl, oS, oE, oW, d1, d2, bP, nG⟩; obtain ⟨sa, sc, rfl⟩ := En.shapeK3 oS; obtain ⟨ea, ec, rfl⟩ := En.shapeK3 oE; obtain ⟨ka, kc, rfl⟩ := En.shapeK3 oW; have KB := KA.below bP; have SB := s9 KB.rF KB.rG KB.rH; have zB : wa.heap.size <= wb.heap.size := bP.size; have xx0 := KB.rV.at_ 0 _ rfl; have ll0 := KB.rV.fz 0; have xx1 := KB.rV.at_ 1 _ rfl; have ll1 := KB.rV.fz 1; have xx2 := KB.rV.at_ 2 _ rfl; have ll2 := KB.rV.fz 2; have xx3 := KB.rV.at_ 3 _ rfl; have ll3 := KB.rV.fz 3; have zB2 := KB.sz; have lS := (fun j hj => (oS.lt j hj).1); have lE := (fun j hj => (oE.lt j hj).1); have lW := (fun j hj => (oW.lt j hj).1); have HX : Hid (MP (zc, zs, ze, zw) w (.returned (.agg #[.int .i64 zc, .slice sa zs.length sc, .slice ea ze.length ec, .slice ka zw.length kc])) _) := mp_of_bp (gS := gC) (bp_make (p := q + 3) rfl rfl (hqq.symm ▸ KB.bel) (by omega) (En.ownMonoF oS (by omega)) (fun j hj => by have := lS j hj; omega) (En.ownMonoF oE (by omega)) (fun j hj => by have := lE j hj; omega) (En.ownMonoF oW (by omega)) (fun j hj => by have := lW j hj; omega) d1 d2 (fun j hj => (nG j hj).elim .inl (fun c => .inr (by omega)))); have RV := (((KB.rV.set (o := 0) (by simp) (.int .i64 zc)).set (o := 1) (by simp) (.slice sa zs.length sc)).set (o := 2) (by simp) (.slice ea ze.length ec)).set (o := 3) (by simp) (.slice ka zw.length kc); have SV := s9 (rfSet4 KB.rF (by omega) (by omega) (p := q + 3) (.int .i64 zc) (.slice sa zs.length sc) (.slice ea ze.length ec) (.slice ka zw.length kc)) (rfSet4 KB.rG (by omega) (by omega) (p := q + 3) (.int .i64 zc) (.slice sa zs.length sc) (.slice ea ze.length ec) (.slice ka zw.length kc)) (rfSet4 KB.rH (by omega) (by omega) (p := q + 3) (.int .i64 zc) (.slice sa zs.length sc) (.slice ea ze.length ec) (.slice ka zw.length kc))))
    all_goals
     obtain ⟨V9, hV9⟩ : ∃ V, (((wb.setCell ⟨q + 3, 0, none⟩ (.int .i64 zc)).setCell ⟨q + 3, 1, none⟩ (.slice sa zs.length sc)).setCell ⟨q + 3, 2, none⟩ (.slice ea ze.length ec)).setCell ⟨q + 3, 3, none⟩ (.slice ka zw.length kc) = V := ⟨_, rfl⟩
     rw [hV9] at RV HX ⊢
     have v0 := RV.at_ 0 _ rfl
     have v1 := RV.at_ 1 _ rfl
     have v2 := RV.at_ 2 _ rfl
     have v3 := RV.at_ 3 _ rfl
     clear hV9 RV SV SB SA SD KA KB KD oS oE oW oC d1 d2 nG bP bC hCp hPa hPb lS lE lW xx0 xx1 xx2 xx3 ll0 ll1 ll2 ll3
     go_wp2
     refine bodyPost_ret (v := .agg #[.int .i64 zc, .slice sa zs.length sc, .slice ea ze.length ec, .slice ka zw.length kc]) (by simp [results, Tryz.results6, go_sem, v0, v1, v2, v3]) rfl ?_
     exact HX.out
end Go.Proofs.YtcfnkndbhpdfnaaGreatDoor.Tm
set_option linter.unusedVariables false
namespace Go.Proofs.YtcfnkndbhpdfnaaGreatDoor.Tm
open Go.RowKit
open Go.Proofs.YtcfnkndbhpdfnaaGreatDoor.Pv
theorem hexs_lenG (D : Nat) : ∀ i, (hexs D i).length = i := by
 intro i; induction i generalizing D with
 | zero => simp [hexs]
 | succ i ih => simp [hexs, ih]
theorem idN_szG (k : Int) (d : ByteArray) : (idN k d).size = 5 := by
 unfold idN; simp [ByteArray.size, hexs_lenG]
theorem pL_smO {l : List Ob} {d : ByteArray} (hs : SmallO l) (hd : d.size <= 1048576) : SmallO (pL l 1 d) := by
 unfold pL
 split
 ·split
  ·exact hs
  ·intro o ho
   rcases List.mem_append.1 ((insO_perm l (idN 1 d, 1, d)).mem_iff.1 ho) with q | q
   ·exact hs o q
   ·rw [List.mem_singleton.1 q]; exact ⟨by show (idN 1 d).size <= _; rw [idN_szG]; omega, hd⟩
 ·intro o ho; cases ho
theorem boR_small {st : List Ob} {f g h : Fl.Ob} (hz : sf st = 0) (hs : SmallO st) : (boR st f g h).2.1.length <= 200 /\ SmallO (boR st f g h).2.1 := by
 have hl : st.length <= 200 := by have := (sf_zero hz).1; omega
 have base : st.length <= 200 /\ SmallO st := ⟨hl, hs⟩
 unfold boR
 split
 ·split <;> exact base
 ·split
  ·exact base
  ·rename_i b
   split
   ·split
    ·refine ⟨pL_len hl (asc_of hz), pL_smO hs (mt_size ?_)⟩
     exact Decidable.byContradiction fun c => b (.inr c)
    ·exact ⟨by simp, fun o ho => by cases ho⟩
   ·exact base
theorem paR_small {st : List Ob} {f g h : Fl.Ob} (hz : sf st = 0) (hs : SmallO st) : (paR st f g h).2.1.length <= 200 /\ SmallO (paR st f g h).2.1 := by
 have hl : st.length <= 200 := by have := (sf_zero hz).1; omega
 have base : st.length <= 200 /\ SmallO st := ⟨hl, hs⟩
 unfold paR
 split
 ·exact boR_small hz hs
 ·split
  ·exact base
  ·split
   ·split <;> exact base
   ·split <;> exact base
theorem implMP (a1 : Option Addr) (c1 : Nat) (st : List Ob) (f0 f2 g0 g2 h0 h2 : ByteArray) (f1 g1 h1 : Int) (w : World) (hO : OB w.heap.size w a1 st) (hs : SmallO st) (n1 : st.length <= 1048576)
  (hsz : ∀ o ∈ ([((f0, f1, f2) : Fl.Ob), (g0, g1, g2), (h0, h1, h2)]), o.1.size <= 1048576 /\ o.2.2.size <= 1048576) :
  Calls Tryz.prog 9 #[.slice a1 st.length c1, .agg #[.string f0, .int .i64 f1, .string f2], .agg #[.string g0, .int .i64 g1, .string g2], .agg #[.string h0, .int .i64 h1, .string h2]] w fun e w' => MP (mpS st ((f0, f1, f2) : Fl.Ob) (g0, g1, g2) (h0, h1, h2)) w e w' := by
 have hsz3 : ∀ k, k < 3 -> ((([((f0, f1, f2) : Fl.Ob), (g0, g1, g2), (h0, h1, h2)])).getD k Fl.onil).1.size <= 1048576 /\ ((([((f0, f1, f2) : Fl.Ob), (g0, g1, g2), (h0, h1, h2)])).getD k Fl.onil).2.2.size <= 1048576 := fun k hk => by
  have e : k = 0 \/ k = 1 \/ k = 2 := by omega
  rcases e with rfl | rfl | rfl
  ·exact hsz _ (by simp)
  ·exact hsz _ (by simp)
  ·exact hsz _ (by simp)
 rw [<- mp_same]
 refine implMergePath a1 c1 st (paR st ((f0, f1, f2) : Fl.Ob) (g0, g1, g2) (h0, h1, h2)).2.1 f0 f2 g0 g2 h0 h2 _ ((som ([((f0, f1, f2) : Fl.Ob), (g0, g1, g2), (h0, h1, h2)])).getD 0 Fl.onil).2.2 f1 g1 h1 ((som ([((f0, f1, f2) : Fl.Ob), (g0, g1, g2), (h0, h1, h2)])).getD 0 Fl.onil).2.1 w hO hs n1 hsz3 (fun hv => ?_) last_nil (fun hz hv hb hp => ?_)
 ·obtain ⟨p1, p2⟩ := pre_of hsz3 hv
  exact ⟨p1, fun e => ⟨(p2 e).1, rfl, (p2 e).2⟩⟩
 ·obtain ⟨e1, e2⟩ := pa_eq hz hv hb
  obtain ⟨e3, hA, hP⟩ := e2 (e1.symm.trans hp)
  obtain ⟨l1, l2⟩ := paR_small (f := (f0, f1, f2)) (g := (g0, g1, g2)) (h := (h0, h1, h2)) hz hs
  refine ⟨(hP.map fun o : Ob => o.1).nodup_iff.1 (asc_ids hA), by rw [<- hP.length_eq]; exact l1, fun o ho => l2 o (hP.mem_iff.2 ho), hA, hP⟩
theorem boS_len {st : List Ob} {f g h : Fl.Ob} : (boS st f g h).2.2.1.length <= 3 /\ (boS st f g h).2.2.2.length <= 1 := by
 have k3 := stgK_len [f, g, h] 3
 unfold boS
 split
 ·exact ⟨k3, by simp⟩
 ·split
  ·split <;> simp
  ·simp
theorem paR_len {st : List Ob} {f g h : Fl.Ob} (n3 : ¬ Fl.mk f g h = 3) : (paR st f g h).2.2.1.length <= 3 /\ (paR st f g h).2.2.2.length <= 1 := by
 have k3 := stgK_len [f, g, h] 3
 unfold paR
 rw [if_neg n3]
 split
 ·exact ⟨k3, by simp⟩
 ·split
  ·split <;> simp
  ·split <;> simp
theorem mpS_len {st : List Ob} {f g h : Fl.Ob} (hs : SmallO st) (hn : st.length <= 1048576) : (mpS st f g h).2.1.length <= 200 /\ (mpS st f g h).2.2.1.length <= 3 /\ (mpS st f g h).2.2.2.length <= 1 := by
 unfold mpS
 split
 ·simp
 ·rename_i hz
  have hz : sf st = 0 := Decidable.byContradiction hz
  split
  ·simp
  ·rename_i hv
   have hv : vff (som [f, g, h]) = 0 := Decidable.byContradiction hv
   split
   ·simp
   ·have oF : FOk f := fok (fs := [f, g, h]) hv (k := 0) (by simp)
    have oG : FOk g := fok (fs := [f, g, h]) hv (k := 1) (by simp)
    have oH : FOk h := fok (fs := [f, g, h]) hv (k := 2) (by simp)
    refine ⟨by rw [pa_same oF oG oH]; exact (paR_small hz hs).1, ?_⟩
    unfold paS
    by_cases e : Fl.mk f g h = 3
    ·rw [if_pos e]; exact boS_len
    ·rw [if_neg e]; exact paR_len e
end Go.Proofs.YtcfnkndbhpdfnaaGreatDoor.Tm
set_option linter.unusedVariables false
namespace Go.Proofs.YtcfnkndbhpdfnaaGreatDoor.TsR
open Go.ChangeShapes Go.WideShapes Go.ChangeAt Go.RowKit
theorem ownApart {w w' : World} {base : Nat} {e : TypeId} {size : Nat} {v : Value} {n : Nat} {xs : List Value} {row : Option Nat} (hg : w.grownBy w' row) (ho : w.ownsRow base e size v n xs) (hd : ∀ j, row = some j -> v.ownBlock ≠ some j) : w'.ownsRow base e size v n xs := by
 cases row with
 | none => exact (Fr.ofGrown (lo := 0) (hi := 0) hg (fun j hj => by cases hj)).own ho (fun _ _ => .inr (Nat.zero_le _))
 | some b =>
  refine (Fr.ofGrown (lo := b) (hi := b + 1) hg (fun j hj => by cases hj; omega)).own ho (fun j hj => ?_)
  have hne : j ≠ b := fun e => hd b rfl (e ▸ hj)
  omega
theorem rsApart {w w' : World} {b : Nat} {vs : List Value} {row : Option Nat} (hg : w.grownBy w' row) (h : Rs w b vs) (hd : row ≠ some b) : Rs w' b vs := by
 cases row with
 | none => exact (Fr.ofGrown (lo := 0) (hi := 0) hg (fun j hj => by cases hj)).rs h (.inr (Nat.zero_le _))
 | some c => exact (Fr.ofGrown (lo := c) (hi := c + 1) hg (fun j hj => by cases hj; omega)).rs h (by have : c ≠ b := fun e => hd (by rw [e]); omega)
set_option maxHeartbeats 2000000 in
theorem eqR (y0 : Int) (p1 q1 : Option Addr) (cp1 cq1 : Nat) (l1 : List Ob) (p2 q2 : Option Addr) (cp2 cq2 : Nat) (l2 : List En.Ob) (p3 q3 : Option Addr) (cp3 cq3 : Nat) (l3 : List Wk.Ob) (w : World) (hp1 : OB w.heap.size w p1 l1) (hq1 : OB w.heap.size w q1 l1) (hn1 : l1.length <= 1048576) (hp2 : En.OB w.heap.size w p2 l2) (hq2 : En.OB w.heap.size w q2 l2) (hn2 : l2.length <= 1048576) (hp3 : Wk.OB w.heap.size w p3 l3) (hq3 : Wk.OB w.heap.size w q3 l3) (hn3 : l3.length <= 1048576) :
  Calls Tryz.prog 10 #[.agg #[.int .i64 y0, .slice p1 l1.length cp1, .slice p2 l2.length cp2, .slice p3 l3.length cp3], .agg #[.int .i64 y0, .slice q1 l1.length cq1, .slice q2 l2.length cq2, .slice q3 l3.length cq3]] w fun e w' => e = .returned (.bool true) /\ Below w.heap.size w w' := by
 have hc0 : (y0 != y0) = false := by simp
 obtain ⟨W2, hW2⟩ : ∃ W, (w.alloc (.cells #[.int .i64 y0, .slice p1 l1.length cp1, .slice p2 l2.length cp2, .slice p3 l3.length cp3] 31)).alloc (.cells #[.int .i64 y0, .slice q1 l1.length cq1, .slice q2 l2.length cq2, .slice q3 l3.length cq3] 31) = W := ⟨_, rfl⟩
 have B0 : Below w.heap.size w W2 := by rw [<- hW2]; exact ((Below.refl _ _).alloc (Nat.le_refl _) _).alloc (by simp) _
 have RA : Rs W2 w.heap.size [.int .i64 y0, .slice p1 l1.length cp1, .slice p2 l2.length cp2, .slice p3 l3.length cp3] := by rw [<- hW2]; exact (Fr.ofAlloc (lo := 0) (hi := 0) _ _).rs (Rs.new w #[.int .i64 y0, .slice p1 l1.length cp1, .slice p2 l2.length cp2, .slice p3 l3.length cp3] _) (.inr (Nat.zero_le _))
 have za : (w.alloc (.cells #[.int .i64 y0, .slice p1 l1.length cp1, .slice p2 l2.length cp2, .slice p3 l3.length cp3] 31)).heap.size = w.heap.size + 1 := by simp
 have RB : Rs W2 (w.heap.size + 1) [.int .i64 y0, .slice q1 l1.length cq1, .slice q2 l2.length cq2, .slice q3 l3.length cq3] := by rw [<- hW2, <- za]; exact Rs.new _ #[.int .i64 y0, .slice q1 l1.length cq1, .slice q2 l2.length cq2, .slice q3 l3.length cq3] _
 clear za
 have hE1 := fun w h1 h2 => eqObjectS p1 q1 cp1 cq1 l1 w h1 h2 hn1
 have hE2 := fun w h1 h2 => En.eqEntryS p2 q2 cp2 cq2 l2 w h1 h2 hn2
 have hE3 := fun w h1 h2 => Wk.eqWorkS p3 q3 cp3 cq3 l3 w h1 h2 hn3
 go_enter Tryz.func10, Tryz.ntmps10
 have ea0 := RA 0 _ rfl
 have eb0 := RB 0 _ rfl
 have ea1 := RA 1 _ rfl
 have eb1 := RB 1 _ rfl
 go_wp2_with fail
 refine (hE1 _ ((hp1.below B0).mono B0.size) ((hq1.below B0).mono B0.size)).mono ?_; rintro e w1 ⟨rfl, b⟩
 have B1 : Below w.heap.size w w1 := B0.trans (b.mono B0.size)
 replace RA := (Fr.ofBelow (lo := 0) (hi := 0) b).rs RA (.inr (Nat.zero_le _))
 replace RB := (Fr.ofBelow (lo := 0) (hi := 0) b).rs RB (.inr (Nat.zero_le _))
 clear b hE1 B0 ea0 eb0 ea1 eb1 hW2
 have ea2 := RA 2 _ rfl
 have eb2 := RB 2 _ rfl
 go_wp2_with fail
 refine (hE2 _ ((hp2.below B1).mono B1.size) ((hq2.below B1).mono B1.size)).mono ?_; rintro e w2 ⟨rfl, b⟩
 have B2 : Below w.heap.size w w2 := B1.trans (b.mono B1.size)
 replace RA := (Fr.ofBelow (lo := 0) (hi := 0) b).rs RA (.inr (Nat.zero_le _))
 replace RB := (Fr.ofBelow (lo := 0) (hi := 0) b).rs RB (.inr (Nat.zero_le _))
 clear b hE2 B1 ea2 eb2
 have ea3 := RA 3 _ rfl
 have eb3 := RB 3 _ rfl
 go_wp2_with fail
 refine (hE3 _ ((hp3.below B2).mono B2.size) ((hq3.below B2).mono B2.size)).mono ?_; rintro e w3 ⟨rfl, b⟩
 have B3 : Below w.heap.size w w3 := B2.trans (b.mono B2.size)
 replace RA := (Fr.ofBelow (lo := 0) (hi := 0) b).rs RA (.inr (Nat.zero_le _))
 replace RB := (Fr.ofBelow (lo := 0) (hi := 0) b).rs RB (.inr (Nat.zero_le _))
 clear b hE3 B2 ea3 eb3
 have BH : Hid (Below w.heap.size w w3) := B3
 clear B3 RA RB
 go_wp2_with fail
 go_ret
 exact ⟨rfl, BH.out⟩
set_option maxHeartbeats 2000000 in
theorem markR (lo hi : Nat) (y0 : Int) (p1 : Option Addr) (n1 cp1 : Nat) (xs1 : List Value) (p2 : Option Addr) (n2 cp2 : Nat) (xs2 : List Value) (p3 : Option Addr) (n3 cp3 : Nat) (xs3 : List Value) (m : Nat) (w : World) (h1 : 1 <= m) (h2 : m + 3 * n1 + 4 * n2 + 2 * n3 <= 4194304) (ho1 : w.ownsRow lo 50 3 (.slice p1 n1 cp1) n1 xs1) (hb1 : ∀ j, (Value.slice p1 n1 cp1).ownBlock = some j -> j < hi) (ho2 : w.ownsRow lo 86 4 (.slice p2 n2 cp2) n2 xs2) (hb2 : ∀ j, (Value.slice p2 n2 cp2).ownBlock = some j -> j < hi) (ho3 : w.ownsRow lo 83 2 (.slice p3 n3 cp3) n3 xs3) (hb3 : ∀ j, (Value.slice p3 n3 cp3).ownBlock = some j -> j < hi) (d12 : ∀ j, (Value.slice p1 n1 cp1 : Value).ownBlock = some j -> (Value.slice p2 n2 cp2 : Value).ownBlock ≠ some j) (d13 : ∀ j, (Value.slice p1 n1 cp1 : Value).ownBlock = some j -> (Value.slice p3 n3 cp3 : Value).ownBlock ≠ some j) (d23 : ∀ j, (Value.slice p2 n2 cp2 : Value).ownBlock = some j -> (Value.slice p3 n3 cp3 : Value).ownBlock ≠ some j) :
  Calls Tryz.prog 13 #[.agg #[.int .i64 y0, .slice p1 n1 cp1, .slice p2 n2 cp2, .slice p3 n3 cp3], .int .i64 m] w fun e w' => e = .returned (.int .i64 ((m + 3 * n1 + 4 * n2 + 2 * n3 : Nat) : Int)) /\ w'.ownsRow lo 50 3 (.slice p1 n1 cp1) n1 (ocells (mkO (m) n1)) /\ w'.ownsRow lo 86 4 (.slice p2 n2 cp2) n2 (En.ocells (En.mkO (m + 3 * n1) n2)) /\ w'.ownsRow lo 83 2 (.slice p3 n3 cp3) n3 (Wk.ocells (Wk.mkO (m + 3 * n1 + 4 * n2) n3)) /\ Fr lo hi w w' := by
 have hM1 := fun w ho => markObjectS lo p1 n1 cp1 (m) xs1 w (by omega) (by omega) ho
 have hM2 := fun w ho => En.markEntryS lo p2 n2 cp2 (m + 3 * n1) xs2 w (by omega) (by omega) ho
 have hM3 := fun w ho => Wk.markWorkS lo p3 n3 cp3 (m + 3 * n1 + 4 * n2) xs3 w (by omega) (by omega) ho
 obtain ⟨m1, hm1⟩ : ∃ k, m + 3 * n1 = k := ⟨_, rfl⟩
 rw [hm1] at hM1 hM2 hM3 ⊢
 clear hm1
 obtain ⟨m2, hm2⟩ : ∃ k, m1 + 4 * n2 = k := ⟨_, rfl⟩
 rw [hm2] at hM2 hM3 ⊢
 clear hm2
 have F0 : Fr lo hi w (w.alloc (.cells #[.int .i64 y0, .slice p1 n1 cp1, .slice p2 n2 cp2, .slice p3 n3 cp3] 31)) := Fr.ofAlloc _ _
 obtain ⟨W1, hW1⟩ : ∃ W, w.alloc (.cells #[.int .i64 y0, .slice p1 n1 cp1, .slice p2 n2 cp2, .slice p3 n3 cp3] 31) = W := ⟨_, rfl⟩
 rw [hW1] at F0
 have RA : Rs W1 w.heap.size [.int .i64 y0, .slice p1 n1 cp1, .slice p2 n2 cp2, .slice p3 n3 cp3] := by rw [<- hW1]; exact Rs.new w #[.int .i64 y0, .slice p1 n1 cp1, .slice p2 n2 cp2, .slice p3 n3 cp3] _
 have o1 := ho1.alloc (.cells #[.int .i64 y0, .slice p1 n1 cp1, .slice p2 n2 cp2, .slice p3 n3 cp3] 31)
 rw [hW1] at o1
 have na1 : (Value.slice p1 n1 cp1 : Value).ownBlock ≠ some w.heap.size := fun e => by have := (ho1.lt _ e).2; omega
 have o2 := ho2.alloc (.cells #[.int .i64 y0, .slice p1 n1 cp1, .slice p2 n2 cp2, .slice p3 n3 cp3] 31)
 rw [hW1] at o2
 have na2 : (Value.slice p2 n2 cp2 : Value).ownBlock ≠ some w.heap.size := fun e => by have := (ho2.lt _ e).2; omega
 have o3 := ho3.alloc (.cells #[.int .i64 y0, .slice p1 n1 cp1, .slice p2 n2 cp2, .slice p3 n3 cp3] 31)
 rw [hW1] at o3
 have na3 : (Value.slice p3 n3 cp3 : Value).ownBlock ≠ some w.heap.size := fun e => by have := (ho3.lt _ e).2; omega
 have lt1 := fun j hj => (ho1.lt j hj).1
 have lt2 := fun j hj => (ho2.lt j hj).1
 have lt3 := fun j hj => (ho3.lt j hj).1
 clear ho1 ho2 ho3
 go_enter Tryz.func13, Tryz.ntmps13
 have ea := RA 1 _ rfl
 go_wp2_with fail
 refine (hM1 _ o1).mono ?_; rintro e x1 ⟨rfl, z1, g⟩
 replace RA := rsApart g RA na1
 have F1 := F0.trans (Fr.ofGrown (lo := lo) (hi := hi) g (fun j hj => ⟨lt1 j hj, hb1 j hj⟩))
 replace o2 := ownApart g o2 (fun j hj => d12 j hj)
 replace o3 := ownApart g o3 (fun j hj => d13 j hj)
 clear g o1 hM1 F0 ea hW1
 have ea := RA 2 _ rfl
 go_wp2_with fail
 refine (hM2 _ o2).mono ?_; rintro e x2 ⟨rfl, z2, g⟩
 replace RA := rsApart g RA na2
 have F2 := F1.trans (Fr.ofGrown (lo := lo) (hi := hi) g (fun j hj => ⟨lt2 j hj, hb2 j hj⟩))
 replace z1 := ownApart g z1 (fun j hj => fun e => d12 j e hj)
 replace o3 := ownApart g o3 (fun j hj => d23 j hj)
 clear g o2 hM2 F1 ea
 have ea := RA 3 _ rfl
 go_wp2_with fail
 refine (hM3 _ o3).mono ?_; rintro e x3 ⟨rfl, z3, g⟩
 replace RA := rsApart g RA na3
 have F3 := F2.trans (Fr.ofGrown (lo := lo) (hi := hi) g (fun j hj => ⟨lt3 j hj, hb3 j hj⟩))
 replace z1 := ownApart g z1 (fun j hj => fun e => d13 j e hj)
 replace z2 := ownApart g z2 (fun j hj => fun e => d23 j e hj)
 clear g o3 hM3 F2 ea
 clear RA
 go_wp2_with fail
 go_ret
 exact ⟨rfl, z1, z2, z3, F3⟩
set_option maxHeartbeats 2000000 in
theorem heldR (y0 : Int) (p1 : Option Addr) (n1 cp1 : Nat) (p2 : Option Addr) (n2 cp2 : Nat) (p3 : Option Addr) (n3 cp3 : Nat) (m : Nat) (w : World) (h1 : 1 <= m) (h2 : m + 3 * n1 + 4 * n2 + 2 * n3 <= 4194304) (hs1 : OB w.heap.size w p1 (mkO (m) n1)) (hs2 : En.OB w.heap.size w p2 (En.mkO (m + 3 * n1) n2)) (hs3 : Wk.OB w.heap.size w p3 (Wk.mkO (m + 3 * n1 + 4 * n2) n3)) :
  Calls Tryz.prog 14 #[.agg #[.int .i64 y0, .slice p1 n1 cp1, .slice p2 n2 cp2, .slice p3 n3 cp3], .int .i64 m] w fun e w' => e = .returned (.int .i64 ((m + 3 * n1 + 4 * n2 + 2 * n3 : Nat) : Int)) /\ Below w.heap.size w w' := by
 have hM1 := fun w h => heldObjectS p1 n1 cp1 (m) w (by omega) (by omega) h
 have hM2 := fun w h => En.heldEntryS p2 n2 cp2 (m + 3 * n1) w (by omega) (by omega) h
 have hM3 := fun w h => Wk.heldWorkS p3 n3 cp3 (m + 3 * n1 + 4 * n2) w (by omega) (by omega) h
 obtain ⟨m1, hm1⟩ : ∃ k, m + 3 * n1 = k := ⟨_, rfl⟩
 rw [hm1] at hM1 hM2 hM3 hs2 hs3 ⊢
 clear hm1
 have hp1 : ¬ ((m1 : Nat) : Int) < 0 := by omega
 obtain ⟨m2, hm2⟩ : ∃ k, m1 + 4 * n2 = k := ⟨_, rfl⟩
 rw [hm2] at hM2 hM3 hs3 ⊢
 clear hm2
 have hp2 : ¬ ((m2 : Nat) : Int) < 0 := by omega
 obtain ⟨m3, hm3⟩ : ∃ k, m2 + 2 * n3 = k := ⟨_, rfl⟩
 rw [hm3] at hM3 ⊢
 clear hm3
 have hp3 : ¬ ((m3 : Nat) : Int) < 0 := by omega
 obtain ⟨W1, hW1⟩ : ∃ W, w.alloc (.cells #[.int .i64 y0, .slice p1 n1 cp1, .slice p2 n2 cp2, .slice p3 n3 cp3] 31) = W := ⟨_, rfl⟩
 have B0 : Below w.heap.size w W1 := by rw [<- hW1]; exact (Below.refl _ _).alloc (Nat.le_refl _) _
 have RA : Rs W1 w.heap.size [.int .i64 y0, .slice p1 n1 cp1, .slice p2 n2 cp2, .slice p3 n3 cp3] := by rw [<- hW1]; exact Rs.new w #[.int .i64 y0, .slice p1 n1 cp1, .slice p2 n2 cp2, .slice p3 n3 cp3] _
 go_enter Tryz.func14, Tryz.ntmps14
 have ea := RA 1 _ rfl
 go_wp2_with fail
 refine (hM1 _ ((hs1.below B0).mono B0.size)).mono ?_; rintro e w1 ⟨rfl, b⟩
 have B1 : Below w.heap.size w w1 := B0.trans (b.mono B0.size)
 replace RA := (Fr.ofBelow (lo := 0) (hi := 0) b).rs RA (.inr (Nat.zero_le _))
 clear b hM1 B0 ea hW1
 have ea := RA 2 _ rfl
 go_wp2_with fail
 refine (hM2 _ ((hs2.below B1).mono B1.size)).mono ?_; rintro e w2 ⟨rfl, b⟩
 have B2 : Below w.heap.size w w2 := B1.trans (b.mono B1.size)
 replace RA := (Fr.ofBelow (lo := 0) (hi := 0) b).rs RA (.inr (Nat.zero_le _))
 clear b hM2 B1 ea
 have ea := RA 3 _ rfl
 go_wp2_with fail
 refine (hM3 _ ((hs3.below B2).mono B2.size)).mono ?_; rintro e w3 ⟨rfl, b⟩
 have B3 : Below w.heap.size w w3 := B2.trans (b.mono B2.size)
 replace RA := (Fr.ofBelow (lo := 0) (hi := 0) b).rs RA (.inr (Nat.zero_le _))
 clear b hM3 B2 ea
 have BH : Hid (Below w.heap.size w w3) := B3
 clear B3 RA
 go_wp2_with fail
 go_ret
 exact ⟨rfl, BH.out⟩
end Go.Proofs.YtcfnkndbhpdfnaaGreatDoor.TsR
