/- A path that both have, merged: the specification's. No statement is proved here. -/
import Derived.Test.YtcfnkndbhpdfnaaGreatDoorTmBQ
set_option linter.unusedVariables false
namespace Go.Proofs.YtcfnkndbhpdfnaaGreatDoor.Tm
open Go.ChangeShapes Go.WideShapes Go.ChangeAt Go.RowKit
open Go.Proofs.YtcfnkndbhpdfnaaGreatDoor.Pv
def rtS (st : List Ob) (f g h : Fl.Ob) : Bool × ByteArray :=
  if piS f g h = ⟨#[]⟩ then
    (if bin3 (tx st f) (tx st h) (tx st g) = true then (false, tx st g)
     else if mtR (tx st f) (tx st g) (tx st h) = 0 then (if 0 < mtN (tx st f) (tx st g) (tx st h) then (false, mtT (tx st f) (tx st g) (tx st h)) else ((moS f g h).2, mtT (tx st f) (tx st g) (tx st h)))
     else (false, tx st g))
  else ((moS f g h).2, tx st g)
def boS (st : List Ob) (f g h : Fl.Ob) : Int × List Ob × List En.Ob × List Wk.Ob :=
  if (rtS st f g h).1 = false then (0, st, stgK [f, g, h] 3, [(g.1, (rtS st f g h).2)])
  else if piS f g h = ⟨#[]⟩ then
    (if pC st 1 (rtS st f g h).2 = 0 then (0, pL st 1 (rtS st f g h).2, [(g.1, 0, (moS f g h).1, pS st 1 (rtS st f g h).2)], []) else (pC st 1 (rtS st f g h).2, [], [], []))
  else (0, st, [(g.1, 0, (moS f g h).1, piS f g h)], [])
theorem nilL : (⟨#[]⟩ : ByteArray).toList = [] := List.isEmpty_iff.1 ((empty_iff _).trans (decide_eq_true rfl))
theorem em_iff (t : ByteArray) : t.toList.isEmpty = true ↔ t = ⟨#[]⟩ := by
  rw [List.isEmpty_iff]
  constructor
  · intro h
    by_cases e : t = ⟨#[]⟩
    · exact e
    · have h9 := beq_bytes_false e
      rw [nilL, h] at h9
      cases h9
  · intro h; rw [h, nilL]
theorem ccNN (l : List Ck) : 0 <= cc l := (cc_bd l).1
theorem mtN_nonneg (a b c : ByteArray) : 0 <= mtN a b c := by
  unfold mtN
  split
  · exact ccNN _
  · exact Int.le_refl _
theorem bo_same {st : List Ob} {f g h : Fl.Ob} (hf : FOk f) (hg : FOk g) (hh : FOk h) (ng : ¬ g = Fl.onil) (nh : ¬ h = Fl.onil) : boS st f g h = boR st f g h := by
  have hm := mo_same hf hg hh ng nh
  obtain ⟨h1, h2⟩ := pi_same hf hg hh ng nh
  have hN := mtN_nonneg (tx st f) (tx st g) (tx st h)
  have hbin : bin3 (tx st f) (tx st h) (tx st g) = bin3 (tx st f) (tx st g) (tx st h) := by
    unfold bin3
    rw [Bool.or_comm (binB (tx st h).data.toList)]
  unfold boS boR rtS
  rw [hm, hbin]
  by_cases e : piS f g h = ⟨#[]⟩
  · have e2 := h2.2 e
    rw [if_pos e, if_neg (show ¬ (agS f.2.2 g.2.2 h.2.2).2 = true by rw [e2]; decide)]
    by_cases b : bin3 (tx st f) (tx st g) (tx st h) = true
    · rw [if_pos b, if_pos rfl, if_pos (.inl b)]
    · rw [if_neg b]
      by_cases r : mtR (tx st f) (tx st g) (tx st h) = 0
      · rw [if_pos r, if_neg (show ¬ (bin3 (tx st f) (tx st g) (tx st h) = true \/ ¬ mtR (tx st f) (tx st g) (tx st h) = 0) from fun c => c.elim b (fun d => d r))]
        by_cases n : 0 < mtN (tx st f) (tx st g) (tx st h)
        · rw [if_pos n, if_pos rfl, if_neg (show ¬ (mtN (tx st f) (tx st g) (tx st h) = 0 /\ (agM f.2.1 g.2.1 h.2.1).2 = true) from fun c => by have := c.1; omega)]
        · have n0 : mtN (tx st f) (tx st g) (tx st h) = 0 := by omega
          rw [if_neg n]
          cases m : (agM f.2.1 g.2.1 h.2.1).2 with
          | false => rw [if_pos rfl, if_neg (fun c => by cases c.2)]
          | true => rw [if_neg (fun c => by cases c), if_pos e, if_pos (show mtN (tx st f) (tx st g) (tx st h) = 0 /\ true = true from ⟨n0, rfl⟩)]
      · rw [if_neg r, if_pos rfl, if_pos (.inr r)]
  · have e2 : (agS f.2.2 g.2.2 h.2.2).2 = true := by
      cases q : (agS f.2.2 g.2.2 h.2.2).2 with
      | true => rfl
      | false => exact absurd (h2.1 q) e
    rw [if_neg e, if_pos e2]
    cases m : (agM f.2.1 g.2.1 h.2.1).2 with
    | false => rw [if_pos rfl, if_neg (by decide)]
    | true => rw [if_neg (fun c => by cases c), if_neg e, if_pos rfl, h1]
theorem mt_size {x y z : ByteArray} (h1 : mtR x y z = 0) : (mtT x y z).size <= 1048576 := by
  unfold mtT
  rw [if_pos h1]
  unfold mtR at h1
  split at h1
  · refine Decidable.byContradiction fun q => ?_
    rw [tf_many (.inl (by omega))] at h1
    omega
  · rename_i e; exact absurd h1 e
theorem rt_size {st : List Ob} {f g h : Fl.Ob} (hs : SmallO st) : (rtS st f g h).2.size <= 1048576 := by
  have hg := tx_size hs g
  unfold rtS
  split
  · split
    · exact hg
    · split
      · rename_i e
        have := mt_size e
        split <;> exact this
      · exact hg
  · exact hg
theorem ownW1 {w : World} {b : Nat} (x y : ByteArray) (hb : b <= w.heap.size) : (w.alloc (.cells #[.string x, .string y] 83)).ownsRow b 83 2 (.slice (some ⟨w.heap.size, 0, none⟩) 1 1) ([(x, y)] : List Wk.Ob).length (Wk.ocells [(x, y)]) := by
  rw [Wk.ocells_one]
  exact World.ownsRow_lit w #[.string x, .string y] 1 hb (by decide) rfl
theorem ownE1 {w : World} {b : Nat} (x y : ByteArray) (s m : Int) (hb : b <= w.heap.size) : (w.alloc (.cells #[.string x, .int .i64 s, .int .i64 m, .string y] 86)).ownsRow b 86 4 (.slice (some ⟨w.heap.size, 0, none⟩) 1 1) ([(x, s, m, y)] : List En.Ob).length (En.ocells [(x, s, m, y)]) := by
  rw [En.ocells_one]
  exact World.ownsRow_lit w #[.string x, .int .i64 s, .int .i64 m, .string y] 1 hb (by decide) rfl
def BP (base gS : Nat) (Z : Int × List Ob × List En.Ob × List Wk.Ob) (w : World) (e : Ending) (w' : World) : Prop := ∃ vS vE vW, e = .returned (.agg #[.int .i64 Z.1, vS, vE, vW]) /\ w'.ownsRow base 50 3 vS Z.2.1.length (ocells Z.2.1) /\ w'.ownsRow w.heap.size 86 4 vE Z.2.2.1.length (En.ocells Z.2.2.1) /\ w'.ownsRow w.heap.size 83 2 vW Z.2.2.2.length (Wk.ocells Z.2.2.2) /\ (∀ j, vS.ownBlock = some j -> vE.ownBlock ≠ some j /\ vW.ownBlock ≠ some j) /\ (∀ j, vE.ownBlock = some j -> vW.ownBlock ≠ some j) /\ Below w.heap.size w w' /\ (∀ j, vS.ownBlock = some j -> j = gS \/ w.heap.size <= j)
theorem nilE {b : Nat} {W : World} : W.ownsRow b 86 4 (.slice none 0 0) ([] : List En.Ob).length (En.ocells []) := ⟨rfl, .inl ⟨rfl, rfl⟩⟩
theorem nilW {b : Nat} {W : World} : W.ownsRow b 83 2 (.slice none 0 0) ([] : List Wk.Ob).length (Wk.ocells []) := ⟨rfl, .inl ⟨rfl, rfl⟩⟩
theorem nilS {b : Nat} {W : World} : W.ownsRow b 50 3 (.slice none 0 0) ([] : List Ob).length (ocells []) := ⟨rfl, .inl ⟨rfl, rfl⟩⟩
theorem noOwn {j : Nat} : ¬ (Value.slice none 0 0).ownBlock = some j := fun h => by cases h
theorem bp_make {base gS q p : Nat} {w W : World} {S : List Ob} {E : List En.Ob} {K : List Wk.Ob} {C : Int} {vS vE vW : Value} {Z : Int × List Ob × List En.Ob × List Wk.Ob} (hq : w.heap.size = q) (hZ : Z = (C, S, E, K)) (hB : Below q w W) (hp : q <= p)
    (oS : W.ownsRow base 50 3 vS S.length (ocells S)) (nS : ∀ j, vS.ownBlock = some j -> j ≠ p)
    (oE : W.ownsRow q 86 4 vE E.length (En.ocells E)) (nE : ∀ j, vE.ownBlock = some j -> j ≠ p)
    (oW : W.ownsRow q 83 2 vW K.length (Wk.ocells K)) (nW : ∀ j, vW.ownBlock = some j -> j ≠ p)
    (d1 : ∀ j, vS.ownBlock = some j -> vE.ownBlock ≠ some j /\ vW.ownBlock ≠ some j) (d2 : ∀ j, vE.ownBlock = some j -> vW.ownBlock ≠ some j) (nG : ∀ j, vS.ownBlock = some j -> j = gS \/ q <= j) :
    BP base gS Z w (.returned (.agg #[.int .i64 C, vS, vE, vW])) ((((W.setCell ⟨p, 0, none⟩ (.int .i64 C)).setCell ⟨p, 1, none⟩ vS).setCell ⟨p, 2, none⟩ vE).setCell ⟨p, 3, none⟩ vW) := by
  subst hq hZ
  have g := grownTrans (grownTrans (grownTrans (grownSet W p 0 (.int .i64 C)) (grownSet _ p 1 vS)) (grownSet _ p 2 vE)) (grownSet _ p 3 vW)
  refine ⟨_, _, _, rfl, oS.kept g (blockCases _ _ fun j c1 c2 => ?_), oE.kept g (blockCases _ _ fun j c1 c2 => ?_), oW.kept g (blockCases _ _ fun j c1 c2 => ?_), d1, d2, (((hB.setCell (p := ⟨p, 0, none⟩) hp _).setCell (p := ⟨p, 1, none⟩) hp _).setCell (p := ⟨p, 2, none⟩) hp _).setCell (p := ⟨p, 3, none⟩) hp _, nG⟩
  · cases c2; exact nS _ c1 rfl
  · cases c2; exact nE _ c1 rfl
  · cases c2; exact nW _ c1 rfl
theorem s9 {w : World} {p q r : Nat} {a0 a1 a2 b0 b1 b2 c0 c1 c2 : Value} (h : Rf w p [a0, a1, a2]) (k : Rf w q [b0, b1, b2]) (l : Rf w r [c0, c1, c2]) : w.cell? ⟨p, 0, none⟩ = some a0 /\ w.cell? ⟨p, 1, none⟩ = some a1 /\ w.cell? ⟨p, 2, none⟩ = some a2 /\ w.cell? ⟨q, 0, none⟩ = some b0 /\ w.cell? ⟨q, 1, none⟩ = some b1 /\ w.cell? ⟨q, 2, none⟩ = some b2 /\ w.cell? ⟨r, 0, none⟩ = some c0 /\ w.cell? ⟨r, 1, none⟩ = some c1 /\ w.cell? ⟨r, 2, none⟩ = some c2 :=
  ⟨h.at_ 0 _ rfl, h.at_ 1 _ rfl, h.at_ 2 _ rfl, k.at_ 0 _ rfl, k.at_ 1 _ rfl, k.at_ 2 _ rfl, l.at_ 0 _ rfl, l.at_ 1 _ rfl, l.at_ 2 _ rfl⟩
theorem rfSet4 {w : World} {p q : Nat} {vs : List Value} (h : Rf w q vs) (hq : q < w.heap.size) (hne : q ≠ p) (a b c d : Value) : Rf ((((w.setCell ⟨p, 0, none⟩ a).setCell ⟨p, 1, none⟩ b).setCell ⟨p, 2, none⟩ c).setCell ⟨p, 3, none⟩ d) q vs := (Ry.frSet4 w p a b c d).rf h hq (by omega)
structure QW (q base gS cS : Nat) (st : List Ob) (f g h : Fl.Ob) (w W : World) : Prop where
  rF : Rf W q [.string f.1, .int .i64 f.2.1, .string f.2.2]
  rG : Rf W (q + 1) [.string g.1, .int .i64 g.2.1, .string g.2.2]
  rH : Rf W (q + 2) [.string h.1, .int .i64 h.2.1, .string h.2.2]
  rV : Rf W (q + 3) [.int .i64 0, .slice none 0 0, .slice none 0 0, .slice none 0 0]
  oS : W.ownsRow base 50 3 (.slice (some ⟨gS, 0, none⟩) st.length cS) st.length (ocells st)
  lt : gS < q
  sz : q + 4 <= W.heap.size
  bel : Below q w W
theorem QW.below {q base gS cS : Nat} {st : List Ob} {f g h : Fl.Ob} {w W W' : World} (k : QW q base gS cS st f g h w W) (hb : Below W.heap.size W W') : QW q base gS cS st f g h w W' :=
  ⟨k.rF.below (by have := k.sz; omega) hb, k.rG.below (by have := k.sz; omega) hb, k.rH.below (by have := k.sz; omega) hb, k.rV.below (by have := k.sz; omega) hb, k.oS.kept (grownOfBelow hb none) (blockCases _ _ fun b c1 c2 => by cases c2), k.lt, Nat.le_trans k.sz hb.size, k.bel.trans (hb.mono (by have := k.sz; omega))⟩
theorem QW.st {q base gS cS : Nat} {st : List Ob} {f g h : Fl.Ob} {w W : World} (k : QW q base gS cS st f g h w W) : OB W.heap.size W (some ⟨gS, 0, none⟩) st := OB.of k.oS
set_option maxRecDepth 20000 in
set_option maxHeartbeats 16000000 in
theorem l11BothC (base gS cS : Nat) (st : List Ob) (f0 f2 g0 g2 h0 h2 : ByteArray) (f1 g1 h1 : Int) (w : World) (hO : w.ownsRow base 50 3 (.slice (some ⟨gS, 0, none⟩) st.length cS) st.length (ocells st)) (hbase : base <= w.heap.size) (hz : sf st = 0) (hs : SmallO st) (hn : st.length <= 1048576) (hc : st.length <= cS) :
    Calls Tryz.prog 46 #[.slice (some ⟨gS, 0, none⟩) st.length cS, .agg #[.string f0, .int .i64 f1, .string f2], .agg #[.string g0, .int .i64 g1, .string g2], .agg #[.string h0, .int .i64 h1, .string h2]] w fun e w' => BP base gS (boS st ((f0, f1, f2) : Fl.Ob) (g0, g1, g2) (h0, h1, h2)) w e w' := by
  obtain ⟨q, hq⟩ : ∃ q, w.heap.size = q := ⟨_, rfl⟩
  have HQ : Hid (w.heap.size = q) := hq
  have hMo := fun W => l11ModeC f0 f2 g0 g2 h0 h2 f1 g1 h1 W
  have hPi := fun W => l11PickC f0 f2 g0 g2 h0 h2 f1 g1 h1 W
  have hSt := fun W => l11StagesC f0 f2 g0 g2 h0 h2 f1 g1 h1 W
  have hTf := fun W y => l11TextC (some ⟨gS, 0, none⟩) cS st (f0, f1, f2) W y hz hn
  have hTg := fun W y => l11TextC (some ⟨gS, 0, none⟩) cS st (g0, g1, g2) W y hz hn
  have hTh := fun W y => l11TextC (some ⟨gS, 0, none⟩) cS st (h0, h1, h2) W y hz hn
  unfold SE at hSt
  simp only [] at hTf hTg hTh
  have sF := tx_size hs (f0, f1, f2)
  have sG := tx_size hs (g0, g1, g2)
  have sH := tx_size hs (h0, h1, h2)
  obtain ⟨Z, hZ⟩ : ∃ Z, boS st ((f0, f1, f2) : Fl.Ob) (g0, g1, g2) (h0, h1, h2) = Z := ⟨_, rfl⟩
  rw [hZ]
  unfold boS at hZ
  obtain ⟨RT, hRT⟩ : ∃ R, rtS st ((f0, f1, f2) : Fl.Ob) (g0, g1, g2) (h0, h1, h2) = R := ⟨_, rfl⟩
  rw [hRT] at hZ
  have HRT : Hid (rtS st ((f0, f1, f2) : Fl.Ob) (g0, g1, g2) (h0, h1, h2) = RT) := hRT
  unfold rtS at hRT
  obtain ⟨MO, hMO⟩ : ∃ R, moS ((f0, f1, f2) : Fl.Ob) (g0, g1, g2) (h0, h1, h2) = R := ⟨_, rfl⟩
  obtain ⟨PI, hPI⟩ : ∃ R, piS ((f0, f1, f2) : Fl.Ob) (g0, g1, g2) (h0, h1, h2) = R := ⟨_, rfl⟩
  obtain ⟨TF, hTF⟩ : ∃ R, tx st (f0, f1, f2) = R := ⟨_, rfl⟩
  obtain ⟨TG, hTG⟩ : ∃ R, tx st (g0, g1, g2) = R := ⟨_, rfl⟩
  obtain ⟨TH, hTH⟩ : ∃ R, tx st (h0, h1, h2) = R := ⟨_, rfl⟩
  obtain ⟨SG, hSG⟩ : ∃ R, stgK [((f0, f1, f2) : Fl.Ob), (g0, g1, g2), (h0, h1, h2)] 3 = R := ⟨_, rfl⟩
  rw [hMO] at hZ hRT hMo
  rw [hPI] at hZ hRT hPi
  rw [hTF] at hRT hTf sF
  rw [hTG] at hRT hTg sG
  rw [hTH] at hRT hTh sH
  rw [hSG] at hZ hSt
  obtain ⟨mo, mr⟩ := MO
  obtain ⟨rr, wk⟩ := RT
  simp only [] at hZ hRT hMo
  clear hMO hPI hTF hTG hTH hSG
  obtain ⟨W1, hW1⟩ : ∃ W, (((w.alloc (.cells #[.string f0, .int .i64 f1, .string f2] 34)).alloc (.cells #[.string g0, .int .i64 g1, .string g2] 34)).alloc (.cells #[.string h0, .int .i64 h1, .string h2] 34)).alloc (.cells #[.int .i64 0, .slice none 0 0, .slice none 0 0, .slice none 0 0] 31) = W := ⟨_, rfl⟩
  have K1 : QW q base gS cS st (f0, f1, f2) (g0, g1, g2) (h0, h1, h2) w W1 := by
    have e1 : (w.alloc (.cells #[.string f0, .int .i64 f1, .string f2] 34)).heap.size = q + 1 := by rw [<- hq]; simp
    have e2 : ((w.alloc (.cells #[.string f0, .int .i64 f1, .string f2] 34)).alloc (.cells #[.string g0, .int .i64 g1, .string g2] 34)).heap.size = q + 2 := by rw [<- hq]; simp
    have e3 : (((w.alloc (.cells #[.string f0, .int .i64 f1, .string f2] 34)).alloc (.cells #[.string g0, .int .i64 g1, .string g2] 34)).alloc (.cells #[.string h0, .int .i64 h1, .string h2] 34)).heap.size = q + 3 := by rw [<- hq]; simp
    have b1 : Below w.heap.size w W1 := by rw [<- hW1]; exact ((((Below.refl _ _).alloc (Nat.le_refl _) _).alloc (by simp) _).alloc (by simp; omega) _).alloc (by simp; omega) _
    refine ⟨?_, ?_, ?_, ?_, hO.kept (grownOfBelow b1 none) (blockCases _ _ fun b c1 c2 => by cases c2), by have := (hO.lt gS rfl).2; omega, by rw [<- hW1, <- hq]; simp, by rw [<- hq]; exact b1⟩
    · rw [<- hW1, <- hq]; exact (((Rf.new w #[.string f0, .int .i64 f1, .string f2] _).below (by simp) (allocBelow _ _)).below (by simp <;> omega) (allocBelow _ _)).below (by simp; omega) (allocBelow _ _)
    · rw [<- hW1, <- e1]; exact ((Rf.new (w.alloc (.cells #[.string f0, .int .i64 f1, .string f2] 34)) #[.string g0, .int .i64 g1, .string g2] _).below (by simp) (allocBelow _ _)).below (by simp <;> omega) (allocBelow _ _)
    · rw [<- hW1, <- e2]; exact (Rf.new ((w.alloc (.cells #[.string f0, .int .i64 f1, .string f2] 34)).alloc (.cells #[.string g0, .int .i64 g1, .string g2] 34)) #[.string h0, .int .i64 h1, .string h2] _).below (by simp) (allocBelow _ _)
    · rw [<- hW1, <- e3]; exact Rf.new _ #[.int .i64 0, .slice none 0 0, .slice none 0 0, .slice none 0 0] _
  clear hO
  obtain ⟨c0, c1, c2, c3, c4, c5, c6, c7, c8⟩ := s9 K1.rF K1.rG K1.rH
  go_enter Tryz.func46, Tryz.ntmps46
  go_wp2_with fail
  refine (hMo _).mono ?_; rintro e w2 ⟨rfl, b2⟩
  have K2 := K1.below b2
  clear K1 b2 hMo hW1 hq c0 c1 c2 c3 c4 c5 c6 c7 c8
  obtain ⟨c0, c1, c2, c3, c4, c5, c6, c7, c8⟩ := s9 K2.rF K2.rG K2.rH
  go_wp2_with fail
  refine (hPi _).mono ?_; rintro e w3 ⟨rfl, b3⟩
  have K3 := K2.below b3
  clear K2 b3 hPi c0 c1 c2 c3 c4 c5 c6 c7 c8
  obtain ⟨c0, c1, c2, c3, c4, c5, c6, c7, c8⟩ := s9 K3.rF K3.rG K3.rH
  go_wp2_with fail
  refine (hTg _ K3.st).mono ?_; rintro e w4 ⟨rfl, b4⟩
  have K4 := K3.below b4
  clear K3 b4 hTg c0 c1 c2 c3 c4 c5 c6 c7 c8
  obtain ⟨EM, hEM⟩ : ∃ E, PI.toList.isEmpty = E := ⟨_, rfl⟩
  have hPE : Hid (EM = true ↔ PI = ⟨#[]⟩) := by show _ ↔ _; rw [<- hEM]; exact em_iff PI
  go_upto_if 34 with (fail)
  go_cut [10, 12, 13, 14, 15] from 35 to 68 (fun s10 s12 _ _ _ wx => s10 = .bool rr /\ s12 = .string wk /\ QW q base gS cS st (f0, f1, f2) (g0, g1, g2) (h0, h1, h2) w wx)
  case first =>
    clear hSt hZ
    cases EM with
    | true =>
      have hp : PI = ⟨#[]⟩ := hPE.out.1 rfl
      rw [if_pos hp] at hRT
      obtain ⟨c0, c1, c2, c3, c4, c5, c6, c7, c8⟩ := s9 K4.rF K4.rG K4.rH
      have hBF := fun W => specIsBinary TF W (by unfold maxLen; omega)
      have hBG := fun W => specIsBinary TG W (by unfold maxLen; omega)
      have hBH := fun W => specIsBinary TH W (by unfold maxLen; omega)
      have hMT := fun W => specMergeTexts TF TG TH W sF sG sH
      have hNN := mtN_nonneg TF TG TH
      unfold bin3 at hRT
      obtain ⟨BF, hBF'⟩ : ∃ B, binB TF.data.toList = B := ⟨_, rfl⟩
      obtain ⟨BG, hBG'⟩ : ∃ B, binB TG.data.toList = B := ⟨_, rfl⟩
      obtain ⟨BH, hBH'⟩ : ∃ B, binB TH.data.toList = B := ⟨_, rfl⟩
      rw [hBF'] at hBF hRT
      rw [hBG'] at hBG hRT
      rw [hBH'] at hBH hRT
      clear hBF' hBG' hBH' hp
      go_wp2_with fail
      refine (hTf _ K4.st).mono ?_; rintro e w5 ⟨rfl, b5⟩
      have K5 := K4.below b5
      clear K4 b5 hTf c0 c1 c2 c3 c4 c5 c6 c7 c8
      obtain ⟨c0, c1, c2, c3, c4, c5, c6, c7, c8⟩ := s9 K5.rF K5.rG K5.rH
      go_wp2_with fail
      refine (hTh _ K5.st).mono ?_; rintro e w6 ⟨rfl, b6⟩
      have K6 := K5.below b6
      clear K5 b6 hTh c0 c1 c2 c3 c4 c5 c6 c7 c8
      cases BF with
      | true =>
        have HR : Hid ((false, TG) = (rr, wk)) := hRT
        clear hRT hMT hBG hBH
        go_wp2_with fail
        refine (hBF _).mono ?_; rintro e w6 ⟨rfl, rfl⟩
        go_wp2_with fail
        go_meet
        exact ⟨by rw [(Prod.mk.inj HR.out).1], by rw [(Prod.mk.inj HR.out).2], K6⟩
      | false =>
        go_wp2_with fail
        refine (hBF _).mono ?_; rintro e w6 ⟨rfl, rfl⟩
        clear hBF
        cases BH with
        | true =>
          have HR : Hid ((false, TG) = (rr, wk)) := hRT
          clear hRT hMT hBG
          go_wp2_with fail
          refine (hBH _).mono ?_; rintro e w6 ⟨rfl, rfl⟩
          go_wp2_with fail
          go_meet
          exact ⟨by rw [(Prod.mk.inj HR.out).1], by rw [(Prod.mk.inj HR.out).2], K6⟩
        | false =>
          go_wp2_with fail
          refine (hBH _).mono ?_; rintro e w6 ⟨rfl, rfl⟩
          clear hBH
          cases BG with
          | true =>
            have HR : Hid ((false, TG) = (rr, wk)) := hRT
            clear hRT hMT
            go_wp2_with fail
            refine (hBG _).mono ?_; rintro e w6 ⟨rfl, rfl⟩
            go_wp2_with fail
            go_meet
            exact ⟨by rw [(Prod.mk.inj HR.out).1], by rw [(Prod.mk.inj HR.out).2], K6⟩
          | false =>
            replace hRT : (if mtR TF TG TH = 0 then (if 0 < mtN TF TG TH then (false, mtT TF TG TH) else (mr, mtT TF TG TH)) else (false, TG)) = (rr, wk) := hRT
            go_wp2_with fail
            refine (hBG _).mono ?_; rintro e w6 ⟨rfl, rfl⟩
            clear hBG
            obtain ⟨MR, hMR⟩ : ∃ R, mtR TF TG TH = R := ⟨_, rfl⟩
            obtain ⟨MN, hMN⟩ : ∃ R, mtN TF TG TH = R := ⟨_, rfl⟩
            obtain ⟨MT, hMT'⟩ : ∃ R, mtT TF TG TH = R := ⟨_, rfl⟩
            rw [hMR, hMN, hMT'] at hRT hMT
            rw [hMN] at hNN
            clear hMR hMN hMT'
            go_wp2_with fail
            refine (hMT _).mono ?_; rintro e w7 ⟨rfl, b7⟩
            have K7 := K6.below b7
            have r8 := Rf.new w7 #[.int .i64 MR, .int .i64 MN, .string MT] 114
            have bA := allocBelow w7 (.cells #[.int .i64 MR, .int .i64 MN, .string MT] 114)
            obtain ⟨W8, hW8⟩ : ∃ W, w7.alloc (.cells #[.int .i64 MR, .int .i64 MN, .string MT] 114) = W := ⟨_, rfl⟩
            rw [hW8] at r8 bA
            have K8 : Hid (QW q base gS cS st (f0, f1, f2) (g0, g1, g2) (h0, h1, h2) w W8) := K7.below bA
            have m0 := r8.at_ 0 _ rfl
            have m1 := r8.at_ 1 _ rfl
            have m2 := r8.at_ 2 _ rfl
            clear K6 K7 b7 bA r8 hMT
            by_cases e0 : MR = 0
            · have q1 : (MR == 0) = true := by simpa using e0
              have q2 : (MR != 0) = false := by simpa using e0
              rw [if_pos e0] at hRT
              by_cases e1 : 0 < MN
              · have e1' : MN > 0 := e1
                rw [if_pos e1] at hRT
                have HR : Hid ((false, MT) = (rr, wk)) := hRT
                clear hRT e0
                go_wp2
                go_meet
                exact ⟨by rw [(Prod.mk.inj HR.out).1], by rw [(Prod.mk.inj HR.out).2], K8.out⟩
              · have e1' : ¬ MN > 0 := e1
                rw [if_neg e1] at hRT
                have HR : Hid ((mr, MT) = (rr, wk)) := hRT
                clear hRT e0
                go_wp2
                go_meet
                exact ⟨by rw [(Prod.mk.inj HR.out).1], by rw [(Prod.mk.inj HR.out).2], K8.out⟩
            · have q1 : (MR == 0) = false := by simpa using e0
              have q2 : (MR != 0) = true := by simpa using e0
              rw [if_neg e0] at hRT
              have HR : Hid ((false, TG) = (rr, wk)) := hRT
              clear hRT e0
              go_wp2
              go_meet
              exact ⟨by rw [(Prod.mk.inj HR.out).1], by rw [(Prod.mk.inj HR.out).2], K8.out⟩
    | false =>
      have hp : ¬ PI = ⟨#[]⟩ := fun e => by have := hPE.out.2 e; cases this
      rw [if_neg hp] at hRT
      have HR : Hid ((mr, TG) = (rr, wk)) := hRT
      clear hRT hp hTf hTh
      go_wp2_with fail
      go_meet
      exact ⟨by rw [(Prod.mk.inj HR.out).1], by rw [(Prod.mk.inj HR.out).2], K4⟩
  case rest =>
  obtain ⟨rfl, rfl, K5⟩ := hcut
  obtain ⟨w5, hw5⟩ : ∃ w5, wc = w5 := ⟨_, rfl⟩
  rw [hw5] at K5 ⊢
  have swk : wk.size <= 1048576 := by have h9 := rt_size (st := st) (f := (f0, f1, f2)) (g := (g0, g1, g2)) (h := (h0, h1, h2)) hs; rw [HRT.out] at h9; exact h9
  clear hw5 K4 hTf hTh hRT HRT
  have hqq := HQ.out
  cases rr with
  | false =>
    have HZ : Hid (Z = (0, st, SG, [(g0, wk)])) := hZ.symm
    clear hZ hEM
    have KD := K5.below (below_drew (Below.refl _ _))
    have KB := (K5.below (allocBelow w5 (.cells #[.string g0, .string wk] 83))).below (below_drew (Below.refl _ _))
    have z5 := K5.sz
    have hgs := K5.lt
    have SD := s9 KD.rF KD.rG KD.rH
    have SB := s9 KB.rF KB.rG KB.rH
    have hSa := hSt w5.drew
    have hSb := hSt (w5.alloc (.cells #[.string g0, .string wk] 83)).drew
    have oWb : (w5.alloc (.cells #[.string g0, .string wk] 83)).drew.ownsRow q 83 2 (.slice (some ⟨w5.heap.size, 0, none⟩) 1 1) ([(g0, wk)] : List Wk.Ob).length (Wk.ocells [(g0, wk)]) := (ownW1 g0 wk (by omega)).drew
    clear K5 hSt hPE
    go_wp2_with fail
    go_region_held (fun w' => w'.cell? ⟨q, 0, none⟩ = some (.string f0) /\ w'.cell? ⟨q, 1, none⟩ = some (.int .i64 f1) /\ w'.cell? ⟨q, 2, none⟩ = some (.string f2) /\ w'.cell? ⟨q + 1, 0, none⟩ = some (.string g0) /\ w'.cell? ⟨q + 1, 1, none⟩ = some (.int .i64 g1) /\ w'.cell? ⟨q + 1, 2, none⟩ = some (.string g2) /\ w'.cell? ⟨q + 2, 0, none⟩ = some (.string h0) /\ w'.cell? ⟨q + 2, 1, none⟩ = some (.int .i64 h1) /\ w'.cell? ⟨q + 2, 2, none⟩ = some (.string h2)) (first | with_reducible exact SD | with_reducible exact SB | with_reducible exact SA | with_reducible exact SA2 | with_reducible exact SV | exact SD | exact SB | exact SA2 | exact SV)
      (first
        | (go_at_call 48; (with_reducible refine hSa.mono ?_); rintro e wa ⟨vE, rfl, oE, bE⟩; obtain ⟨ea, ec, rfl⟩ := En.shapeK3 oE; have KA := KD.below bE; have zA : w5.heap.size <= wa.heap.size := bE.size; have KA2 := KA.below (allocBelow wa (.cells #[.string g0, .string wk] 83)); have SA := s9 KA.rF KA.rG KA.rH; have SA2 := s9 KA2.rF KA2.rG KA2.rH; have oE2 := En.ownMonoF (b := q) (oE.kept (grownOfBelow (allocBelow wa (.cells #[.string g0, .string wk] 83)) none) (blockCases _ _ fun b c1 c2 => by cases c2)) (by show q <= w5.heap.size; omega); have oW2 := ownW1 (w := wa) (b := q) g0 wk (by omega); have yy0 := KA2.rV.at_ 0 _ rfl; have kk0 := KA2.rV.fz 0; have yy1 := KA2.rV.at_ 1 _ rfl; have kk1 := KA2.rV.fz 1; have yy2 := KA2.rV.at_ 2 _ rfl; have kk2 := KA2.rV.fz 2; have yy3 := KA2.rV.at_ 3 _ rfl; have kk3 := KA2.rV.fz 3; have lE : ∀ j, (Value.slice ea SG.length ec).ownBlock = some j -> w5.heap.size <= j /\ j < wa.heap.size := (fun j hj => oE.lt j hj); have HX : Hid (BP base gS Z w (.returned (.agg #[.int .i64 0, .slice (some ⟨gS, 0, none⟩) st.length cS, .slice ea SG.length ec, .slice (some ⟨wa.heap.size, 0, none⟩) 1 1])) _) := bp_make (p := q + 3) hqq HZ.out KA2.bel (by omega) KA2.oS (fun j hj => by have : gS = j := Option.some.inj hj; omega) oE2 (fun j hj => by have := lE j hj; omega) oW2 (fun j hj => by have : wa.heap.size = j := Option.some.inj hj; omega) (fun j hj => by have : gS = j := Option.some.inj hj; exact ⟨fun c => by have := lE j c; omega, fun c => by have : wa.heap.size = j := Option.some.inj c; omega⟩) (fun j hj c => by have := lE j hj; have : wa.heap.size = j := Option.some.inj c; omega) (fun j hj => .inl (Option.some.inj hj).symm); have RV := ((((KA2.rV).set (o := 0) (by simp) (.int .i64 0)).set (o := 1) (by simp) (.slice (some ⟨gS, 0, none⟩) st.length cS)).set (o := 2) (by simp) (.slice ea SG.length ec)).set (o := 3) (by simp) (.slice (some ⟨wa.heap.size, 0, none⟩) 1 1); have SV := s9 (rfSet4 KA2.rF (by have := KA2.sz; omega) (by omega) (p := q + 3) (.int .i64 0) (.slice (some ⟨gS, 0, none⟩) st.length cS) (.slice ea SG.length ec) (.slice (some ⟨wa.heap.size, 0, none⟩) 1 1)) (rfSet4 KA2.rG (by have := KA2.sz; omega) (by omega) (p := q + 3) (.int .i64 0) (.slice (some ⟨gS, 0, none⟩) st.length cS) (.slice ea SG.length ec) (.slice (some ⟨wa.heap.size, 0, none⟩) 1 1)) (rfSet4 KA2.rH (by have := KA2.sz; omega) (by omega) (p := q + 3) (.int .i64 0) (.slice (some ⟨gS, 0, none⟩) st.length cS) (.slice ea SG.length ec) (.slice (some ⟨wa.heap.size, 0, none⟩) 1 1)))
        | (go_at_call 48; (with_reducible refine hSb.mono ?_); rintro e wa ⟨vE, rfl, oE, bE⟩; obtain ⟨ea, ec, rfl⟩ := En.shapeK3 oE; have KA2 := KB.below bE; have zA : w5.heap.size + 1 <= wa.heap.size := (by have := bE.size; rw [World.size_drew, World.size_alloc] at this; exact this); have SA2 := s9 KA2.rF KA2.rG KA2.rH; have oE2 := En.ownMonoF (b := q) oE (by rw [World.size_drew, World.size_alloc]; omega); have oW2 := oWb.kept (grownOfBelow bE none) (blockCases _ _ fun b c1 c2 => by cases c2); have yy0 := KA2.rV.at_ 0 _ rfl; have kk0 := KA2.rV.fz 0; have yy1 := KA2.rV.at_ 1 _ rfl; have kk1 := KA2.rV.fz 1; have yy2 := KA2.rV.at_ 2 _ rfl; have kk2 := KA2.rV.fz 2; have yy3 := KA2.rV.at_ 3 _ rfl; have kk3 := KA2.rV.fz 3; have lE : ∀ j, (Value.slice ea SG.length ec).ownBlock = some j -> w5.heap.size + 1 <= j /\ j < wa.heap.size := (fun j hj => by have h9 := oE.lt j hj; rw [World.size_drew, World.size_alloc] at h9; exact h9); have HX : Hid (BP base gS Z w (.returned (.agg #[.int .i64 0, .slice (some ⟨gS, 0, none⟩) st.length cS, .slice ea SG.length ec, .slice (some ⟨w5.heap.size, 0, none⟩) 1 1])) _) := bp_make (p := q + 3) hqq HZ.out KA2.bel (by omega) KA2.oS (fun j hj => by have : gS = j := Option.some.inj hj; omega) oE2 (fun j hj => by have := lE j hj; omega) oW2 (fun j hj => by have : w5.heap.size = j := Option.some.inj hj; omega) (fun j hj => by have : gS = j := Option.some.inj hj; exact ⟨fun c => by have := lE j c; omega, fun c => by have : w5.heap.size = j := Option.some.inj c; omega⟩) (fun j hj c => by have := lE j hj; have : w5.heap.size = j := Option.some.inj c; omega) (fun j hj => .inl (Option.some.inj hj).symm); have RV := ((((KA2.rV).set (o := 0) (by simp) (.int .i64 0)).set (o := 1) (by simp) (.slice (some ⟨gS, 0, none⟩) st.length cS)).set (o := 2) (by simp) (.slice ea SG.length ec)).set (o := 3) (by simp) (.slice (some ⟨w5.heap.size, 0, none⟩) 1 1); have SV := s9 (rfSet4 KA2.rF (by have := KA2.sz; omega) (by omega) (p := q + 3) (.int .i64 0) (.slice (some ⟨gS, 0, none⟩) st.length cS) (.slice ea SG.length ec) (.slice (some ⟨w5.heap.size, 0, none⟩) 1 1)) (rfSet4 KA2.rG (by have := KA2.sz; omega) (by omega) (p := q + 3) (.int .i64 0) (.slice (some ⟨gS, 0, none⟩) st.length cS) (.slice ea SG.length ec) (.slice (some ⟨w5.heap.size, 0, none⟩) 1 1)) (rfSet4 KA2.rH (by have := KA2.sz; omega) (by omega) (p := q + 3) (.int .i64 0) (.slice (some ⟨gS, 0, none⟩) st.length cS) (.slice ea SG.length ec) (.slice (some ⟨w5.heap.size, 0, none⟩) 1 1))))
    · obtain ⟨V, hV⟩ : ∃ V, (((((wa.alloc (.cells #[.string g0, .string wk] 83)).setCell ⟨q + 3, 0, none⟩ (.int .i64 0)).setCell ⟨q + 3, 1, none⟩ (.slice (some ⟨gS, 0, none⟩) st.length cS)).setCell ⟨q + 3, 2, none⟩ (.slice ea SG.length ec)).setCell ⟨q + 3, 3, none⟩ (.slice (some ⟨wa.heap.size, 0, none⟩) 1 1)) = V := ⟨_, rfl⟩
      rw [hV] at RV HX ⊢
      have v0 := RV.at_ 0 _ rfl
      have v1 := RV.at_ 1 _ rfl
      have v2 := RV.at_ 2 _ rfl
      have v3 := RV.at_ 3 _ rfl
      clear hV RV SV KA2 oE oE2 oW2 bE yy0 kk0 yy1 kk1 yy2 kk2 yy3 kk3 SA2 lE
      go_wp2
      refine bodyPost_ret (v := .agg #[.int .i64 0, .slice (some ⟨gS, 0, none⟩) st.length cS, .slice ea SG.length ec, .slice (some ⟨wa.heap.size, 0, none⟩) 1 1]) (by simp [results, Tryz.results46, go_sem, v0, v1, v2, v3]) rfl ?_
      exact HX.out
    · obtain ⟨V, hV⟩ : ∃ V, ((((wa.setCell ⟨q + 3, 0, none⟩ (.int .i64 0)).setCell ⟨q + 3, 1, none⟩ (.slice (some ⟨gS, 0, none⟩) st.length cS)).setCell ⟨q + 3, 2, none⟩ (.slice ea SG.length ec)).setCell ⟨q + 3, 3, none⟩ (.slice (some ⟨w5.heap.size, 0, none⟩) 1 1)) = V := ⟨_, rfl⟩
      rw [hV] at RV HX ⊢
      have v0 := RV.at_ 0 _ rfl
      have v1 := RV.at_ 1 _ rfl
      have v2 := RV.at_ 2 _ rfl
      have v3 := RV.at_ 3 _ rfl
      clear hV RV SV KA2 oE oE2 oW2 bE yy0 kk0 yy1 kk1 yy2 kk2 yy3 kk3 SA2 lE
      go_wp2
      refine bodyPost_ret (v := .agg #[.int .i64 0, .slice (some ⟨gS, 0, none⟩) st.length cS, .slice ea SG.length ec, .slice (some ⟨w5.heap.size, 0, none⟩) 1 1]) (by simp [results, Tryz.results46, go_sem, v0, v1, v2, v3]) rfl ?_
      exact HX.out
  | true =>
    have z5 := K5.sz
    have hgs := K5.lt
    cases EM with
    | false =>
      have hp : ¬ PI = ⟨#[]⟩ := fun e => by have := hPE.out.2 e; cases this
      have HZ : Hid (Z = (0, st, [(g0, 0, mo, PI)], [])) := hZ.symm.trans (if_neg hp)
      clear hZ hPE hp hSt
      have lS : ∀ j, (Value.slice (some ⟨gS, 0, none⟩) st.length cS).ownBlock = some j -> j < q := fun j hj => by have : gS = j := Option.some.inj hj; omega
      have KE := K5.below (allocBelow w5 (.cells #[.string g0, .int .i64 0, .int .i64 mo, .string PI] 86))
      have oE := ownE1 (w := w5) (b := q) g0 PI 0 mo (by have := K5.sz; omega)
      have yG := K5.rG.at_ 0 _ rfl
      have yy0 := KE.rV.at_ 0 _ rfl
      have kk0 := KE.rV.fz 0
      have yy1 := KE.rV.at_ 1 _ rfl
      have kk1 := KE.rV.fz 1
      have yy2 := KE.rV.at_ 2 _ rfl
      have kk2 := KE.rV.fz 2
      have yy3 := KE.rV.at_ 3 _ rfl
      have kk3 := KE.rV.fz 3
      have HX : Hid (BP base gS Z w (.returned (.agg #[.int .i64 0, .slice (some ⟨gS, 0, none⟩) st.length cS, .slice (some ⟨w5.heap.size, 0, none⟩) 1 1, .slice none 0 0])) _) := bp_make (p := q + 3) hqq HZ.out KE.bel (by omega) KE.oS (fun j hj => by have := lS j hj; omega) oE (fun j hj => by have : w5.heap.size = j := Option.some.inj hj; have := K5.sz; omega) nilW (fun j hj => (noOwn hj).elim) (fun j hj => ⟨fun c => by have := lS j hj; have : w5.heap.size = j := Option.some.inj c; have := K5.sz; omega, noOwn⟩) (fun j _ => noOwn) (fun j hj => .inl (Option.some.inj hj).symm)
      have RV := ((((KE.rV).set (o := 0) (by simp) (.int .i64 0)).set (o := 1) (by simp) (.slice (some ⟨gS, 0, none⟩) st.length cS)).set (o := 2) (by simp) (.slice (some ⟨w5.heap.size, 0, none⟩) 1 1)).set (o := 3) (by simp) (.slice none 0 0)
      obtain ⟨V, hV⟩ : ∃ V, ((((w5.alloc (.cells #[.string g0, .int .i64 0, .int .i64 mo, .string PI] 86)).setCell ⟨q + 3, 0, none⟩ (.int .i64 0)).setCell ⟨q + 3, 1, none⟩ (.slice (some ⟨gS, 0, none⟩) st.length cS)).setCell ⟨q + 3, 2, none⟩ (.slice (some ⟨w5.heap.size, 0, none⟩) 1 1)).setCell ⟨q + 3, 3, none⟩ (.slice none 0 0) = V := ⟨_, rfl⟩
      rw [hV] at RV HX
      have HVV : Hid (_ = V) := hV
      have v0 := RV.at_ 0 _ rfl
      have v1 := RV.at_ 1 _ rfl
      have v2 := RV.at_ 2 _ rfl
      have v3 := RV.at_ 3 _ rfl
      clear hV RV
      go_wp2
      rw [HVV.out]
      refine bodyPost_ret (v := .agg #[.int .i64 0, .slice (some ⟨gS, 0, none⟩) st.length cS, .slice (some ⟨w5.heap.size, 0, none⟩) 1 1, .slice none 0 0]) (by simp [results, Tryz.results46, go_sem, v0, v1, v2, v3]) rfl ?_
      exact HX.out
    | true =>
      have hp : PI = ⟨#[]⟩ := hPE.out.1 rfl
      rw [if_neg (fun c => by cases c), if_pos hp] at hZ
      have hPut := l5Put gS 0 cS st 1 wk w5 K5.st hc hn rfl swk
      unfold PT at hPut
      clear hPE hp hSt
      by_cases e0 : pC st 1 wk = 0
      · rw [if_pos e0] at hZ
        rw [e0] at hPut
        have HZ : Hid (Z = (0, pL st 1 wk, [(g0, 0, mo, pS st 1 wk)], [])) := hZ.symm
        obtain ⟨PL, hPL⟩ : ∃ x, pL st 1 wk = x := ⟨_, rfl⟩
        obtain ⟨PS, hPS⟩ : ∃ x, pS st 1 wk = x := ⟨_, rfl⟩
        rw [hPL, hPS] at HZ
        rw [hPL, hPS] at hPut
        clear hZ hPL hPS e0
        go_wp2_with fail
        refine hPut.mono ?_; rintro e w6 ⟨vn, rfl, _, oN, b6⟩
        obtain ⟨na, nc, rfl⟩ := En.shapeK3 oN
        have K6 := K5.below b6
        have z6 : w5.heap.size <= w6.heap.size := b6.size
        clear K5 hPut b6
        have lS : ∀ j, (Value.slice na PL.length nc).ownBlock = some j -> w5.heap.size <= j /\ j < w6.heap.size := fun j hj => oN.lt j hj
        have KE := K6.below (allocBelow w6 (.cells #[.string g0, .int .i64 0, .int .i64 mo, .string PS] 86))
        have oE := ownE1 (w := w6) (b := q) g0 PS 0 mo (by have := K6.sz; omega)
        have yG := K6.rG.at_ 0 _ rfl
        have oS := oN.kept (grownOfBelow (allocBelow w6 (.cells #[.string g0, .int .i64 0, .int .i64 mo, .string PS] 86)) none) (blockCases _ _ fun b c1 c2 => by cases c2)
        have yy0 := KE.rV.at_ 0 _ rfl
        have kk0 := KE.rV.fz 0
        have yy1 := KE.rV.at_ 1 _ rfl
        have kk1 := KE.rV.fz 1
        have yy2 := KE.rV.at_ 2 _ rfl
        have kk2 := KE.rV.fz 2
        have yy3 := KE.rV.at_ 3 _ rfl
        have kk3 := KE.rV.fz 3
        have HX : Hid (BP base gS Z w (.returned (.agg #[.int .i64 0, .slice na PL.length nc, .slice (some ⟨w6.heap.size, 0, none⟩) 1 1, .slice none 0 0])) _) := bp_make (p := q + 3) hqq HZ.out KE.bel (by omega) (En.ownMonoF (b := base) oS (by omega)) (fun j hj => by have := lS j hj; omega) oE (fun j hj => by have : w6.heap.size = j := Option.some.inj hj; have := K6.sz; omega) nilW (fun j hj => (noOwn hj).elim) (fun j hj => ⟨fun c => by have := lS j hj; have : w6.heap.size = j := Option.some.inj c; have := K6.sz; omega, noOwn⟩) (fun j _ => noOwn) (fun j hj => .inr (by have := lS j hj; omega))
        have RV := ((((KE.rV).set (o := 0) (by simp) (.int .i64 0)).set (o := 1) (by simp) (.slice na PL.length nc)).set (o := 2) (by simp) (.slice (some ⟨w6.heap.size, 0, none⟩) 1 1)).set (o := 3) (by simp) (.slice none 0 0)
        obtain ⟨V, hV⟩ : ∃ V, ((((w6.alloc (.cells #[.string g0, .int .i64 0, .int .i64 mo, .string PS] 86)).setCell ⟨q + 3, 0, none⟩ (.int .i64 0)).setCell ⟨q + 3, 1, none⟩ (.slice na PL.length nc)).setCell ⟨q + 3, 2, none⟩ (.slice (some ⟨w6.heap.size, 0, none⟩) 1 1)).setCell ⟨q + 3, 3, none⟩ (.slice none 0 0) = V := ⟨_, rfl⟩
        rw [hV] at RV HX
        have HVV : Hid (_ = V) := hV
        have v0 := RV.at_ 0 _ rfl
        have v1 := RV.at_ 1 _ rfl
        have v2 := RV.at_ 2 _ rfl
        have v3 := RV.at_ 3 _ rfl
        clear hV RV
        go_wp2
        rw [HVV.out]
        refine bodyPost_ret (v := .agg #[.int .i64 0, .slice na PL.length nc, .slice (some ⟨w6.heap.size, 0, none⟩) 1 1, .slice none 0 0]) (by simp [results, Tryz.results46, go_sem, v0, v1, v2, v3]) rfl ?_
        exact HX.out
      · rw [if_neg e0] at hZ
        have HZ : Hid (Z = (pC st 1 wk, [], [], [])) := hZ.symm
        obtain ⟨CC, hCC⟩ : ∃ x, pC st 1 wk = x := ⟨_, rfl⟩
        rw [hCC] at HZ hPut e0
        have q1 : (CC != 0) = true := by simpa using e0
        clear hZ hCC e0
        go_wp2_with fail
        refine hPut.mono ?_; rintro e w6 ⟨vn, rfl, _, oN, b6⟩
        have K6 := K5.below b6
        clear K5 hPut b6 oN
        have yy0 := K6.rV.at_ 0 _ rfl
        have kk0 := K6.rV.fz 0
        have yy1 := K6.rV.at_ 1 _ rfl
        have kk1 := K6.rV.fz 1
        have yy2 := K6.rV.at_ 2 _ rfl
        have kk2 := K6.rV.fz 2
        have yy3 := K6.rV.at_ 3 _ rfl
        have kk3 := K6.rV.fz 3
        have HX : Hid (BP base gS Z w (.returned (.agg #[.int .i64 CC, .slice none 0 0, .slice none 0 0, .slice none 0 0])) _) := bp_make (p := q + 3) hqq HZ.out K6.bel (by omega) nilS (fun j hj => (noOwn hj).elim) nilE (fun j hj => (noOwn hj).elim) nilW (fun j hj => (noOwn hj).elim) (fun j hj => (noOwn hj).elim) (fun j hj => (noOwn hj).elim) (fun j hj => (noOwn hj).elim)
        have RV := ((((K6.rV).set (o := 0) (by simp) (.int .i64 CC)).set (o := 1) (by simp) (.slice none 0 0)).set (o := 2) (by simp) (.slice none 0 0)).set (o := 3) (by simp) (.slice none 0 0)
        obtain ⟨V, hV⟩ : ∃ V, ((((w6).setCell ⟨q + 3, 0, none⟩ (.int .i64 CC)).setCell ⟨q + 3, 1, none⟩ (.slice none 0 0)).setCell ⟨q + 3, 2, none⟩ (.slice none 0 0)).setCell ⟨q + 3, 3, none⟩ (.slice none 0 0) = V := ⟨_, rfl⟩
        rw [hV] at RV HX
        have HVV : Hid (_ = V) := hV
        have v0 := RV.at_ 0 _ rfl
        have v1 := RV.at_ 1 _ rfl
        have v2 := RV.at_ 2 _ rfl
        have v3 := RV.at_ 3 _ rfl
        clear hV RV
        go_wp2
        rw [HVV.out]
        refine bodyPost_ret (v := .agg #[.int .i64 CC, .slice none 0 0, .slice none 0 0, .slice none 0 0]) (by simp [results, Tryz.results46, go_sem, v0, v1, v2, v3]) rfl ?_
        exact HX.out
end Go.Proofs.YtcfnkndbhpdfnaaGreatDoor.Tm
