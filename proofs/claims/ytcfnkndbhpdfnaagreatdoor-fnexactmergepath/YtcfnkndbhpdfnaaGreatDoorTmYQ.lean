/- Where a merge begins, and what it answers. No statement is proved here. -/
import Derived.Test.YtcfnkndbhpdfnaaGreatDoorTmCQ
set_option linter.unusedVariables false
namespace Go.Proofs.YtcfnkndbhpdfnaaGreatDoor.Tm
open Go.ChangeShapes Go.WideShapes Go.ChangeAt Go.RowKit
open Go.Proofs.YtcfnkndbhpdfnaaGreatDoor.Pv
def TG (P : Nat) (M : List Ob) (w : World) (e : Ending) (w' : World) : Prop := ∃ Q Pm vE, e = .returned (.pointer (some ⟨Pm, 0, none⟩)) /\ TS P Q Pm M [] [] vE (.slice none 0 0) w' /\ Below w.heap.size w w' /\ w.heap.size <= Q
theorem ixf_nil : En.ixf [] = 0 := by rfl
set_option maxRecDepth 20000 in
set_option maxHeartbeats 4000000 in
theorem treeMergeOnC (P : Nat) (M : List Ob) (w : World) (hR : Rf w (P + 1) [.map (some P), .int .i64 (M.length : Int)]) (hS : Sh w P M) (hp : P + 1 < w.heap.size) :
  Calls Tryz.prog 25 #[.pointer (some ⟨P + 1, 0, none⟩)] w fun e w' => TG P M w e w' := by
 have hI : Calls Tryz.prog 51 #[.slice none 0 0] w fun e w' => e = .returned (.pointer (some ⟨w.heap.size, 0, none⟩)) /\ (∃ v, En.SL w' w.heap.size [] v) /\ Below w.heap.size w w' := En.indexOfC none 0 [] w (fun k hk => absurd hk (Nat.not_lt_zero _)) (fun o ho => by cases ho) ixf_nil
 go_enter Tryz.func25, Tryz.ntmps25
 go_wp2_with fail
 refine hI.mono ?_; rintro e wa ⟨rfl, ⟨vE, sl⟩, ba⟩
 have bN := allocBelow wa (.cells #[.pointer (some ⟨P + 1, 0, none⟩), .pointer (some ⟨w.heap.size, 0, none⟩), .slice none 0 0] 61)
 have lQ := sl.lt
 have hX : TG P M w (.returned (.pointer (some ⟨wa.heap.size, 0, none⟩))) (wa.alloc (.cells #[.pointer (some ⟨P + 1, 0, none⟩), .pointer (some ⟨w.heap.size, 0, none⟩), .slice none 0 0] 61)) := by
  refine ⟨w.heap.size, wa.heap.size, vE, rfl, ⟨(hR.below hp ba).below (by omega) bN, (hS.below ba).below bN, sl.below bN, Rf.new wa #[.pointer (some ⟨P + 1, 0, none⟩), .pointer (some ⟨w.heap.size, 0, none⟩), .slice none 0 0] _, ⟨rfl, .inl ⟨rfl, rfl⟩⟩, hp, lQ, by simp, fun e => ?_, fun e => (by cases e), fun e => (by cases e), fun j e => (by cases e)⟩, ba.trans (bN.mono ba.size), Nat.le_refl _⟩
  have := (sl.own.lt _ e).2
  omega
 have HX : Hid (TG P M w _ _) := hX
 clear hX hI sl ba bN hR hS
 go_wp2
 go_ret
 exact HX.out
def RS (P Q Pm : Nat) (M : List Ob) (E : List En.Ob) (K : List Wk.Ob) (vE vW : Value) (L : List Ob) (w : World) (e : Ending) (w' : World) : Prop := ∃ vS, e = .returned (.agg #[.int .i64 0, vS, vE, vW]) /\ w'.ownsRow w.heap.size 50 3 vS L.length (ocells L) /\ TS P Q Pm M E K vE vW w' /\ Below w.heap.size w w'
theorem s16 {w : World} {q Pm Q : Nat} {a b d e v0 v1 v2 v3 : Value} (h : w.cell? ⟨Pm, 0, none⟩ = some a /\ w.cell? ⟨Pm, 1, none⟩ = some b /\ w.cell? ⟨Pm, 2, none⟩ = some d /\ w.cell? ⟨Q, 1, none⟩ = some e) (h1 : Pm ≠ q) (h2 : Q ≠ q) : (((((w.setCell ⟨q, 0, none⟩ v0).setCell ⟨q, 1, none⟩ v1).setCell ⟨q, 2, none⟩ v2).setCell ⟨q, 3, none⟩ v3)).cell? ⟨Pm, 0, none⟩ = some a /\ (((((w.setCell ⟨q, 0, none⟩ v0).setCell ⟨q, 1, none⟩ v1).setCell ⟨q, 2, none⟩ v2).setCell ⟨q, 3, none⟩ v3)).cell? ⟨Pm, 1, none⟩ = some b /\ (((((w.setCell ⟨q, 0, none⟩ v0).setCell ⟨q, 1, none⟩ v1).setCell ⟨q, 2, none⟩ v2).setCell ⟨q, 3, none⟩ v3)).cell? ⟨Pm, 2, none⟩ = some d /\ (((((w.setCell ⟨q, 0, none⟩ v0).setCell ⟨q, 1, none⟩ v1).setCell ⟨q, 2, none⟩ v2).setCell ⟨q, 3, none⟩ v3)).cell? ⟨Q, 1, none⟩ = some e := by
 have one : ∀ (w : World) (o : Nat) (v : Value) (g i : Nat) (x : Value), g ≠ q -> w.cell? ⟨g, i, none⟩ = some x -> (w.setCell ⟨q, o, none⟩ v).cell? ⟨g, i, none⟩ = some x := fun w o v g i x hg hc => by
  rw [World.cell?_setCell_other _ _ _ _ (by intro c; simp only [Addr.mk.injEq] at c; omega)]; exact hc
 obtain ⟨c0, c1, c2, c3⟩ := h
 exact ⟨one _ _ _ _ _ _ h1 (one _ _ _ _ _ _ h1 (one _ _ _ _ _ _ h1 (one _ _ _ _ _ _ h1 c0))), one _ _ _ _ _ _ h1 (one _ _ _ _ _ _ h1 (one _ _ _ _ _ _ h1 (one _ _ _ _ _ _ h1 c1))), one _ _ _ _ _ _ h1 (one _ _ _ _ _ _ h1 (one _ _ _ _ _ _ h1 (one _ _ _ _ _ _ h1 c2))), one _ _ _ _ _ _ h2 (one _ _ _ _ _ _ h2 (one _ _ _ _ _ _ h2 (one _ _ _ _ _ _ h2 c3)))⟩
set_option maxRecDepth 20000 in
set_option maxHeartbeats 8000000 in
theorem resultC (P Q Pm : Nat) (M L : List Ob) (E : List En.Ob) (K : List Wk.Ob) (vE vW : Value) (w : World) (h : TS P Q Pm M E K vE vW w) (hd : (M.map fun o => o.1).Nodup) (hl : M.length <= 200) (hs : SmallO M) (hL : Asc L) (hp : L.Perm M) :
  Calls Tryz.prog 30 #[.pointer (some ⟨Pm, 0, none⟩)] w fun e w' => RS P Q Pm M E K vE vW L w e w' := by
 obtain ⟨ea, ec, rfl⟩ := En.shapeK3 h.sl.own
 obtain ⟨ka, kc, rfl⟩ := En.shapeK3 h.ow
 obtain ⟨q, hq⟩ : ∃ q, w.heap.size = q := ⟨_, rfl⟩
 have HQ : Hid (w.heap.size = q) := hq
 obtain ⟨W1, hW1⟩ : ∃ W, w.alloc (.cells #[.int .i64 0, .slice none 0 0, .slice none 0 0, .slice none 0 0] 31) = W := ⟨_, rfl⟩
 have b1 : Below q w W1 := by rw [<- hW1, <- hq]; exact allocBelow _ _
 have r1 : Rf W1 q [.int .i64 0, .slice none 0 0, .slice none 0 0, .slice none 0 0] := by rw [<- hW1, <- hq]; exact Rf.new w #[.int .i64 0, .slice none 0 0, .slice none 0 0, .slice none 0 0] _
 have z1 : W1.heap.size = q + 1 := by rw [<- hW1, <- hq]; simp
 have hPm : Pm < q := by rw [<- hq]; exact h.lt
 have hQ := h.qm
 have HH : Hid (TS P Q Pm M E K (.slice ea E.length ec) (.slice ka K.length kc) w) := h
 have T1 : TS P Q Pm M E K (.slice ea E.length ec) (.slice ka K.length kc) W1 := h.below (by rw [hq]; exact b1)
 have TD := T1.below (below_drew (Below.refl _ _))
 have hLi := listC (P + 1) P M L (.int .i64 (M.length : Int)) W1.drew TD.rp TD.sh hd hl hs hL hp
 have RD : Rf W1.drew q _ := r1.below (by omega) (below_drew (Below.refl _ _))
 have c0 := TD.rm.at_ 0 _ rfl
 have c1 := TD.rm.at_ 1 _ rfl
 have c2 := TD.rm.at_ 2 _ rfl
 have c3 := TD.sl.rf.at_ 1 _ rfl
 have hqD : q < W1.drew.heap.size := by show q < W1.heap.size; omega
 have zD : W1.drew.heap.size = q + 1 := z1
 have bD : Below q w W1.drew := b1.drew
 have hne1 : Pm ≠ q := by omega
 have hne2 : Q ≠ q := by omega
 clear h T1 TD r1 b1
 go_enter Tryz.func30, Tryz.ntmps30
 go_wp2
 clear hq hW1
 go_region_held (fun w' => w'.cell? ⟨Pm, 0, none⟩ = some (.pointer (some ⟨P + 1, 0, none⟩)) /\ w'.cell? ⟨Pm, 1, none⟩ = some (.pointer (some ⟨Q, 0, none⟩)) /\ w'.cell? ⟨Pm, 2, none⟩ = some (.slice ka K.length kc) /\ w'.cell? ⟨Q, 1, none⟩ = some (.slice ea E.length ec)) (first | with_reducible exact ⟨c0, c1, c2, c3⟩ | with_reducible exact ⟨d0, d1, d2, d3⟩ | exact s16 ⟨d0, d1, d2, d3⟩ hne1 hne2)
  ((go_at_call 59; refine hLi.mono ?_; rintro e wa ⟨vS, rfl, oS, ba⟩; obtain ⟨sa, sc, rfl⟩ := En.shapeK3 oS; have d0 := zS ba c0; have d1 := zS ba c1; have d2 := zS ba c2; have d3 := zS ba c3; have RA := RD.below hqD ba; have y0 := RA.at_ 0 _ rfl; have y1 := RA.at_ 1 _ rfl; have y2 := RA.at_ 2 _ rfl; have y3 := RA.at_ 3 _ rfl; have k0 := RA.fz 0; have k1 := RA.fz 1; have k2 := RA.fz 2; have k3 := RA.fz 3))
 all_goals
  have RV := (((RA.set (o := 0) (by simp) (.int .i64 0)).set (o := 1) (by simp) (.slice sa L.length sc)).set (o := 2) (by simp) (.slice ea E.length ec)).set (o := 3) (by simp) (.slice ka K.length kc)
  have BA : Below q w wa := bD.trans (ba.mono (by omega))
  have BV := (((BA.setCell (p := ⟨q, 0, none⟩) (Nat.le_refl _) (.int .i64 0)).setCell (p := ⟨q, 1, none⟩) (Nat.le_refl _) (.slice sa L.length sc)).setCell (p := ⟨q, 2, none⟩) (Nat.le_refl _) (.slice ea E.length ec)).setCell (p := ⟨q, 3, none⟩) (Nat.le_refl _) (.slice ka K.length kc)
  have oV : (((((wa.setCell ⟨q, 0, none⟩ (.int .i64 0)).setCell ⟨q, 1, none⟩ (.slice sa L.length sc)).setCell ⟨q, 2, none⟩ (.slice ea E.length ec)).setCell ⟨q, 3, none⟩ (.slice ka K.length kc))).ownsRow q 50 3 (.slice sa L.length sc) L.length (ocells L) := by
   have g := grownTrans (grownTrans (grownTrans (grownSet wa q 0 (.int .i64 0)) (grownSet _ q 1 (.slice sa L.length sc))) (grownSet _ q 2 (.slice ea E.length ec))) (grownSet _ q 3 (.slice ka K.length kc))
   exact En.ownMonoF (oS.kept g (blockCases _ _ fun j c1 c2 => by cases c2; have := (oS.lt _ c1).1; omega)) (by omega)
  obtain ⟨V, hV⟩ : ∃ V, ((((wa.setCell ⟨q, 0, none⟩ (.int .i64 0)).setCell ⟨q, 1, none⟩ (.slice sa L.length sc)).setCell ⟨q, 2, none⟩ (.slice ea E.length ec)).setCell ⟨q, 3, none⟩ (.slice ka K.length kc)) = V := ⟨_, rfl⟩
  rw [hV] at RV BV oV
  have HVV : Hid (_ = V) := hV
  have v0 := RV.at_ 0 _ rfl
  have v1 := RV.at_ 1 _ rfl
  have v2 := RV.at_ 2 _ rfl
  have v3 := RV.at_ 3 _ rfl
  have HO : Hid (V.ownsRow q 50 3 (.slice sa L.length sc) L.length (ocells L)) := oV
  clear hV RV oV RA oS d0 d1 d2 d3 RD bD BA ba c0 c1 c2 c3 hLi y0 y1 y2 y3 k0 k1 k2 k3
  go_wp2
  rw [HVV.out]
  refine bodyPost_ret (v := .agg #[.int .i64 0, .slice sa L.length sc, .slice ea E.length ec, .slice ka K.length kc]) (by simp [results, Tryz.results30, go_sem, v0, v1, v2, v3]) rfl ?_
  exact ⟨_, rfl, by rw [HQ.out]; exact HO.out, HH.out.below (by rw [HQ.out]; exact BV), by rw [HQ.out]; exact BV⟩
end Go.Proofs.YtcfnkndbhpdfnaaGreatDoor.Tm
set_option linter.unusedVariables false
namespace Go.Proofs.YtcfnkndbhpdfnaaGreatDoor.Tm
open Go.ChangeShapes Go.WideShapes Go.ChangeAt Go.RowKit
open Go.Proofs.YtcfnkndbhpdfnaaGreatDoor.Pv
def fiO (o : Fl.Ob) : Int := Fl.fi o.1 o.2.1 o.2.2
def vfG (p : ByteArray) : List Fl.Ob -> Int
 | [] => 0
 | o :: t => if fiO o = 0 then (if o.1 = p then vfG p t else 1) else fiO o
def vff (fs : List Fl.Ob) : Int := vfG (fs.getD 0 Fl.onil).1 fs
theorem drop_cons (l : List Fl.Ob) (k : Nat) (h : k < l.length) : l.drop k = l.getD k Fl.onil :: l.drop (k + 1) := by
 rw [List.drop_eq_getElem_cons h, List.getD, List.getElem?_eq_getElem h]; rfl
theorem vf_bad {p : ByteArray} {o : Fl.Ob} {t : List Fl.Ob} (h : ¬ fiO o = 0) : vfG p (o :: t) = fiO o := if_neg h
theorem vf_path {p : ByteArray} {o : Fl.Ob} {t : List Fl.Ob} (h : fiO o = 0) (e : ¬ o.1 = p) : vfG p (o :: t) = 1 := (if_pos h).trans (if_neg e)
theorem vf_go {p : ByteArray} {o : Fl.Ob} {t : List Fl.Ob} (h : fiO o = 0) (e : o.1 = p) : vfG p (o :: t) = vfG p t := (if_pos h).trans (if_pos e)
theorem pf_some {x : ByteArray} (h : pf x = 0) : ¬ x = ⟨#[]⟩ := fun e => by
 subst e
 exact absurd h (by decide)
theorem nonE {t : ByteArray} (h : ¬ t = ⟨#[]⟩) : t.toList.isEmpty = false := by
 have e := beq_bytes_false h
 cases q : t.toList with
 | nil => rw [q] at e; simp at e
 | cons a l => rfl
theorem som_small {fs : List Fl.Ob} (h : ∀ o ∈ fs, o.1.size <= 1048576) : ∀ k, k < (som fs).length -> ((som fs).getD k Fl.onil).1.size <= 1048576 := fun k hk => by
 rw [List.getD, List.getElem?_eq_getElem hk]
 exact h _ (List.mem_filter.1 (List.getElem_mem hk)).1
set_option maxRecDepth 20000 in
set_option maxHeartbeats 4000000 in
theorem faultC (f0 f2 g0 g2 h0 h2 : ByteArray) (f1 g1 h1 : Int) (w : World) (hs : ∀ o ∈ [((f0, f1, f2) : Fl.Ob), (g0, g1, g2), (h0, h1, h2)], o.1.size <= 1048576) :
  Calls Tryz.prog 24 #[.agg #[.string f0, .int .i64 f1, .string f2, .string g0, .int .i64 g1, .string g2, .string h0, .int .i64 h1, .string h2]] w fun e w' => e = .returned (.int .i64 (vff (som [((f0, f1, f2) : Fl.Ob), (g0, g1, g2), (h0, h1, h2)]))) /\ Below w.heap.size w w' := by
 have hF := fun W => filesC f0 f2 g0 g2 h0 h2 f1 g1 h1 W
 have hsm := som_small hs
 have hl3 : (som [((f0, f1, f2) : Fl.Ob), (g0, g1, g2), (h0, h1, h2)]).length <= 3 := List.length_filter_le _ _
 obtain ⟨fs, hfs⟩ : ∃ fs, som [((f0, f1, f2) : Fl.Ob), (g0, g1, g2), (h0, h1, h2)] = fs := ⟨_, rfl⟩
 rw [hfs] at hF hsm hl3 ⊢
 clear hfs hs
 have HSM : Hid (∀ k, k < fs.length -> (fs.getD k Fl.onil).1.size <= 1048576) := hsm
 obtain ⟨q, hq⟩ : ∃ q, w.heap.size = q := ⟨_, rfl⟩
 have HQ : Hid (w.heap.size = q) := hq
 obtain ⟨R, hR⟩ : ∃ R, vff fs = R := ⟨_, rfl⟩
 obtain ⟨p0, hp0⟩ : ∃ p, (fs.getD 0 Fl.onil).1 = p := ⟨_, rfl⟩
 have HR : Hid (vfG p0 (fs.drop 0) = R) := by show _ = _; rw [<- hR, <- hp0]; rfl
 have HP0 : Hid ((fs.getD 0 Fl.onil).1 = p0) := hp0
 rw [hR]
 obtain ⟨W1, hW1⟩ : ∃ W, w.alloc (.cells #[.string f0, .int .i64 f1, .string f2, .string g0, .int .i64 g1, .string g2, .string h0, .int .i64 h1, .string h2] 53) = W := ⟨_, rfl⟩
 have b1 : Below q w W1 := by rw [<- hW1, <- hq]; exact allocBelow _ _
 have r1 : Rf W1 q [.string f0, .int .i64 f1, .string f2, .string g0, .int .i64 g1, .string g2, .string h0, .int .i64 h1, .string h2] := by rw [<- hW1, <- hq]; exact Rf.new _ #[.string f0, .int .i64 f1, .string f2, .string g0, .int .i64 g1, .string g2, .string h0, .int .i64 h1, .string h2] _
 have z1 : q + 1 <= W1.heap.size := by rw [<- hW1, <- hq]; simp
 have c0 := r1.at_ 0 _ rfl
 have c1 := r1.at_ 1 _ rfl
 have c2 := r1.at_ 2 _ rfl
 have c3 := r1.at_ 3 _ rfl
 have c4 := r1.at_ 4 _ rfl
 have c5 := r1.at_ 5 _ rfl
 have c6 := r1.at_ 6 _ rfl
 have c7 := r1.at_ 7 _ rfl
 have c8 := r1.at_ 8 _ rfl
 clear r1 hsm hR hp0
 go_enter Tryz.func24, Tryz.ntmps24
 go_wp2_with fail
 refine (hF _).mono ?_; rintro e w2 ⟨v2, rfl, o2, b2⟩
 obtain ⟨va, vc, rfl⟩ := En.shapeK3 o2
 have B2 : Below q w w2 := b1.trans (b2.mono (by omega))
 have OB2 := Fl.OB.of o2
 have z2 : q <= w2.heap.size := by have := b2.size; omega
 clear o2 b2 c0 c1 c2 c3 c4 c5 c6 c7 c8 hW1 hq hF b1 z1
 go_wp2
 go_loopw [3, 5, 6, 10] (fun p _a _b i wr => ∃ (k : Nat) (t : ByteArray), k <= fs.length /\ i = .int .i64 (k : Int) /\ p = .string t /\ (k = 0 -> t = ⟨#[]⟩) /\ (0 < k -> t = p0 /\ ¬ t = ⟨#[]⟩) /\ Hid (vfG p0 (fs.drop k) = R) /\ Below w2.heap.size w2 wr) (fun _ _ _ i _ => fs.length - (intOf i).toNat)
 case atStart => exact ⟨0, ⟨#[]⟩, Nat.zero_le _, rfl, rfl, fun _ => rfl, fun c => absurd c (Nat.lt_irrefl _), HR, Below.refl _ _⟩
 case round =>
  obtain ⟨k, t, hk, rfl, rfl, ht0, ht1, hG, hbel⟩ := hrel
  have hsz := hbel.size
  by_cases hlt : k < fs.length
  ·have qk : (k : Int) < (fs.length : Int) := by omega
   obtain ⟨g, off, e, hg, d0, d1, d2⟩ := (flBelowAt OB2 hbel (Nat.le_refl _)) k hlt
   subst e
   have hG2 := hG.out
   rw [drop_cons fs k hlt] at hG2
   have hsk := HSM.out k hlt
   have hz : k = 0 -> (fs.getD k Fl.onil).1 = p0 := fun e => by rw [e]; exact HP0.out
   obtain ⟨C, hCe⟩ : ∃ C, fs.getD k Fl.onil = C := ⟨_, rfl⟩
   obtain ⟨x0, x1, x2⟩ := C
   rw [hCe] at d0 d1 d2 hG2 hsk hz
   simp only [] at d0 d1 d2 hsk hz
   have hFi := fun W => Fl.fileFaultC x0 x2 x1 W hsk
   obtain ⟨N, hN⟩ : ∃ N, Fl.fi x0 x1 x2 = N := ⟨_, rfl⟩
   have hfe : fiO (x0, x1, x2) = N := hN
   have hpz : N = 0 -> ¬ x0 = ⟨#[]⟩ := fun e => pf_some (fi_zero (hN.trans e)).1
   rw [hN] at hFi
   obtain ⟨W, hW⟩ : ∃ W, wr.alloc (.cells #[.string x0, .int .i64 x1, .string x2] 34) = W := ⟨_, rfl⟩
   have bW : Below wr.heap.size wr W := by rw [<- hW]; exact allocBelow _ _
   have oW : Rf W wr.heap.size [.string x0, .int .i64 x1, .string x2] := by rw [<- hW]; exact Rf.new wr #[.string x0, .int .i64 x1, .string x2] _
   have zW : wr.heap.size < W.heap.size := by rw [<- hW]; simp
   have m0 := oW.at_ 0 _ rfl
   have m1 := oW.at_ 1 _ rfl
   have m2 := oW.at_ 2 _ rfl
   have BW : Below w2.heap.size w2 W := hbel.trans (bW.mono hsz)
   clear hCe hN bW hbel hG
   go_wp2_with fail
   refine (hFi _).mono ?_; rintro e w4 ⟨rfl, b4⟩
   have B4 : Below w2.heap.size w2 w4 := BW.trans (b4.mono (by omega))
   have o4 := oW.below zW b4
   clear hW m0 m1 m2 hFi BW oW b4 d0 d1 d2
   have m0 := o4.at_ 0 _ rfl
   by_cases e1 : N = 0
   ·subst e1
    have hp := hpz rfl
    by_cases e2 : x0 = p0
    ·have hH : Hid (vfG p0 (fs.drop (k + 1)) = R) := by show _ = _; rw [<- hG2]; exact (vf_go hfe e2).symm
     have HE : Hid (x0 = p0 /\ ¬ x0 = ⟨#[]⟩) := ⟨e2, hp⟩
     by_cases hk0 : k = 0
     ·have ht := ht0 hk0
      subst ht
      clear hG2 ht0 ht1 hz hpz hfe e2 hp
      go_wp2
      go_roundw
      case rel => exact ⟨k + 1, x0, by omega, by go_num, rfl, fun c => absurd c (by omega), fun _ => HE.out, hH, B4⟩
      case measure => first | (simp [intOf]; omega) | simp [intOf]
     ·obtain ⟨ht, hn⟩ := ht1 (by omega)
      have q1 := nonE hn
      have q2 : (x0.toList == t.toList) = true := beq_bytes_true (by rw [e2, ht])
      clear hG2 ht0 ht1 hz hpz hfe e2 hp ht hn
      go_wp2
      go_roundw
      case rel => exact ⟨k + 1, x0, by omega, by go_num, rfl, fun c => absurd c (by omega), fun _ => HE.out, hH, B4⟩
      case measure => first | (simp [intOf]; omega) | simp [intOf]
    ·have hk0 : 0 < k := Nat.pos_of_ne_zero fun c => e2 (hz c)
     obtain ⟨ht, hn⟩ := ht1 hk0
     subst ht
     have hX : Hid (R = 1) := by show _ = _; rw [<- hG2]; exact vf_path hfe e2
     have q1 := nonE hn
     have q2 : (x0.toList == t.toList) = false := beq_bytes_false e2
     clear hG2 ht0 ht1 hz hpz hfe HR HP0 hn e2 hp
     go_wp2
     go_ret
     exact ⟨by rw [hX.out]; rfl, by rw [HQ.out]; exact B2.trans (B4.mono z2)⟩
   ·have hX : Hid (R = N) := by show _ = _; rw [<- hG2, vf_bad (by rw [hfe]; exact e1), hfe]
    have qn : (N != 0) = true := by simpa using e1
    clear hG2 ht0 ht1 hz hpz hfe m0 o4 e1 HR HP0
    go_wp2
    go_ret
    exact ⟨by rw [hX.out]; rfl, by rw [HQ.out]; exact B2.trans (B4.mono z2)⟩
  ·have qk : ¬ (k : Int) < (fs.length : Int) := by omega
   have ek : fs.drop k = [] := List.drop_eq_nil_of_le (by omega)
   have hX : Hid (R = 0) := by show _ = _; rw [<- hG.out, ek]; rfl
   clear hG ek
   go_wp2
   go_ret
   exact ⟨by rw [hX.out]; rfl, by rw [HQ.out]; exact B2.trans (hbel.mono z2)⟩
end Go.Proofs.YtcfnkndbhpdfnaaGreatDoor.Tm
