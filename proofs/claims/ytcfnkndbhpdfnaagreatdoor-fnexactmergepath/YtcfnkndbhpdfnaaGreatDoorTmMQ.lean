/- A path that is merged: the mathematics. No statement is proved here. -/
import Derived.Test.YtcfnkndbhpdfnaaGreatDoorTvMQ
import Derived.Test.YtcfnkndbhpdfnaaGreatDoorMsLQ
import Derived.Test.YtcfnkndbhpdfnaaGreatDoorSlBQ
set_option linter.unusedVariables false
namespace Go.Proofs.YtcfnkndbhpdfnaaGreatDoor.Tm
open Go.RowKit
open Go.Proofs.YtcfnkndbhpdfnaaGreatDoor.Pv
def entF (f : Fl.Ob) (s : Int) : En.Ob := (f.1, s, f.2.1, f.2.2)
def stgK (fs : List Fl.Ob) : Nat -> List En.Ob
 | 0 => []
 | k + 1 => if fs.getD k Fl.onil = Fl.onil then stgK fs k else stgK fs k ++ [entF (fs.getD k Fl.onil) ((k : Int) + 1)]
theorem stgK_no {fs : List Fl.Ob} {k : Nat} (h : fs.getD k Fl.onil = Fl.onil) : stgK fs (k + 1) = stgK fs k := if_pos h
theorem stgK_yes {fs : List Fl.Ob} {k : Nat} (h : ¬ fs.getD k Fl.onil = Fl.onil) : stgK fs (k + 1) = stgK fs k ++ [entF (fs.getD k Fl.onil) ((k : Int) + 1)] := if_neg h
theorem stgK_len (fs : List Fl.Ob) : ∀ k, (stgK fs k).length <= k
 | 0 => Nat.le_refl _
 | k + 1 => by
  have := stgK_len fs k
  unfold stgK
  split
  ·omega
  ·rw [List.length_append]; simp; omega
theorem stgK_mem (fs : List Fl.Ob) : ∀ k, ∀ e ∈ stgK fs k, ∃ j, j < k /\ ¬ fs.getD j Fl.onil = Fl.onil /\ e = entF (fs.getD j Fl.onil) ((j : Int) + 1)
 | 0, e, h => by cases h
 | k + 1, e, h => by
  by_cases q : fs.getD k Fl.onil = Fl.onil
  ·rw [stgK_no q] at h
   obtain ⟨j, hj, h2⟩ := stgK_mem fs k e h
   exact ⟨j, by omega, h2⟩
  ·rw [stgK_yes q] at h
   rcases List.mem_append.1 h with h | h
   ·obtain ⟨j, hj, h2⟩ := stgK_mem fs k e h
    exact ⟨j, by omega, h2⟩
   ·exact ⟨k, by omega, q, by simpa using h⟩
def agM (b o t : Int) : Int × Bool := if o = t \/ t = b then (o, true) else if o = b then (t, true) else (0, false)
def agS (b o t : ByteArray) : ByteArray × Bool := if o = t \/ t = b then (o, true) else if o = b then (t, true) else (⟨#[]⟩, false)
def moS (f g h : Fl.Ob) : Int × Bool := if g.2.1 = h.2.1 then (g.2.1, true) else if f = Fl.onil then (0, false) else if g.2.1 = f.2.1 then (h.2.1, true) else (g.2.1, true)
def piS (f g h : Fl.Ob) : ByteArray := if g.2.2 = h.2.2 then g.2.2 else if f = Fl.onil then ⟨#[]⟩ else if g.2.2 = f.2.2 then h.2.2 else if h.2.2 = f.2.2 then g.2.2 else ⟨#[]⟩
def FOk (f : Fl.Ob) : Prop := f = Fl.onil \/ Fl.fi f.1 f.2.1 f.2.2 = 0
theorem fi_zero {x0 x2 : ByteArray} {x1 : Int} (h : Fl.fi x0 x1 x2 = 0) : pf x0 = 0 /\ inB x1 1 2 = true /\ isOf 1 x2 = true := by
 unfold Fl.fi at h
 split at h
 ·rename_i hp
  split at h
  ·rename_i hm
   split at h
   ·rename_i hi; exact ⟨hp, hm, hi⟩
   ·omega
  ·omega
 ·rename_i hp; exact absurd h hp
theorem id_some {x : ByteArray} (h : isOf 1 x = true) : ¬ x = ⟨#[]⟩ := fun e => by
 subst e
 unfold isOf at h
 simp [idB] at h
theorem FOk.mode {f : Fl.Ob} (h : FOk f) (hn : ¬ f = Fl.onil) : f.2.1 = 1 \/ f.2.1 = 2 := by
 rcases h with h | h
 ·exact absurd h hn
 ·exact En.inB12 (fi_zero h).2.1
theorem FOk.id {f : Fl.Ob} (h : FOk f) (hn : ¬ f = Fl.onil) : ¬ f.2.2 = ⟨#[]⟩ := by
 rcases h with h | h
 ·exact absurd h hn
 ·exact id_some (fi_zero h).2.2
theorem mo_same {f g h : Fl.Ob} (hf : FOk f) (hg : FOk g) (hh : FOk h) (ng : ¬ g = Fl.onil) (nh : ¬ h = Fl.onil) : moS f g h = agM f.2.1 g.2.1 h.2.1 := by
 have mg := hg.mode ng
 have mh := hh.mode nh
 unfold moS agM
 by_cases e : g.2.1 = h.2.1
 ·rw [if_pos e, if_pos (.inl e)]
 ·rw [if_neg e]
  by_cases nf : f = Fl.onil
  ·have z : f.2.1 = 0 := by rw [nf]; rfl
   rw [if_pos nf, if_neg (by omega), if_neg (by omega)]
  ·have mf := hf.mode nf
   rw [if_neg nf]
   by_cases e2 : g.2.1 = f.2.1
   ·rw [if_pos e2, if_neg (by omega), if_pos e2]
   ·rw [if_neg e2, if_pos (by omega)]
theorem pi_same {f g h : Fl.Ob} (hf : FOk f) (hg : FOk g) (hh : FOk h) (ng : ¬ g = Fl.onil) (nh : ¬ h = Fl.onil) : piS f g h = (agS f.2.2 g.2.2 h.2.2).1 /\ ((agS f.2.2 g.2.2 h.2.2).2 = false ↔ piS f g h = ⟨#[]⟩) := by
 have ig := hg.id ng
 have ih := hh.id nh
 unfold piS agS
 by_cases e : g.2.2 = h.2.2
 ·rw [if_pos e, if_pos (.inl e)]; simp [ig]
 ·rw [if_neg e]
  by_cases nf : f = Fl.onil
  ·have z : f.2.2 = ⟨#[]⟩ := by rw [nf]; rfl
   rw [if_pos nf, z, if_neg (not_or.2 ⟨e, ih⟩), if_neg ig]; simp
  ·have jf := hf.id nf
   rw [if_neg nf]
   by_cases e2 : g.2.2 = f.2.2
   ·rw [if_pos e2, if_neg (not_or.2 ⟨e, fun q => e (e2.trans q.symm)⟩), if_pos e2]; simp [ih]
   ·rw [if_neg e2]
    by_cases e3 : h.2.2 = f.2.2
    ·rw [if_pos e3, if_pos (.inr e3)]; simp [ig]
    ·rw [if_neg e3, if_neg (not_or.2 ⟨e, e3⟩), if_neg e2]; simp
def boR (st : List Ob) (f g h : Fl.Ob) : Int × List Ob × List En.Ob × List Wk.Ob :=
 if (agS f.2.2 g.2.2 h.2.2).2 = true then
  (if (agM f.2.1 g.2.1 h.2.1).2 = true then (0, st, [(g.1, 0, (agM f.2.1 g.2.1 h.2.1).1, (agS f.2.2 g.2.2 h.2.2).1)], []) else (0, st, stgK [f, g, h] 3, [(g.1, tx st g)]))
 else if bin3 (tx st f) (tx st g) (tx st h) = true \/ ¬ mtR (tx st f) (tx st g) (tx st h) = 0 then (0, st, stgK [f, g, h] 3, [(g.1, tx st g)])
 else if mtN (tx st f) (tx st g) (tx st h) = 0 /\ (agM f.2.1 g.2.1 h.2.1).2 = true then
  (if pC st 1 (mtT (tx st f) (tx st g) (tx st h)) = 0 then (0, pL st 1 (mtT (tx st f) (tx st g) (tx st h)), [(g.1, 0, (agM f.2.1 g.2.1 h.2.1).1, pS st 1 (mtT (tx st f) (tx st g) (tx st h)))], []) else (pC st 1 (mtT (tx st f) (tx st g) (tx st h)), [], [], []))
 else (0, st, stgK [f, g, h] 3, [(g.1, mtT (tx st f) (tx st g) (tx st h))])
def lef (g h : Fl.Ob) : Fl.Ob := if g = Fl.onil then h else g
def paR (st : List Ob) (f g h : Fl.Ob) : Int × List Ob × List En.Ob × List Wk.Ob :=
 if Fl.mk f g h = 3 then boR st f g h
 else if Fl.mk f g h = 4 then (0, st, stgK [f, g, h] 3, [((lef g h).1, tx st (lef g h))])
 else if Fl.mk f g h = 2 then (if h = Fl.onil then (0, st, [], []) else (0, st, [entF h 0], []))
 else (if g = Fl.onil then (0, st, [], []) else (0, st, [entF g 0], []))
theorem kp_nil (x2 x3 : List ByteArray) : kpL [] x2 x3 = [] := by
 have := kp_len [] x2 x3
 simpa using this
theorem nb_lines (x2 x3 : List ByteArray) (h : cc (ckT [] x2 x3) = 0) : ptsA (ckT [] x2 x3) = x2 \/ ptsA (ckT [] x2 x3) = x3 := by
 have e : ckT [] x2 x3 = putK [] x2 x3 := by
  unfold ckT
  rw [kp_nil, segs_nil]
  simp [ptK, sgK]
 rw [e] at h ⊢
 cases hb : bare (0, ([] : List ByteArray), x2, x3) with
 | true =>
  rw [putK_yes hb]
  unfold bare at hb
  have hx : x2.length = 0 := (of_decide_eq_true hb).2.1
  left
  rw [List.length_eq_zero_iff.1 hx]; rfl
 | false =>
  rw [putK_no hb] at h ⊢
  have hk : ¬ kd [] x2 x3 = 4 := fun q => by
   rw [q] at h
   simp [cc, cc1] at h
  unfold ptsA pts
  simp only [List.flatMap_cons, List.flatMap_nil, List.append_nil]
  rw [if_neg hk]
  split
  ·exact .inr rfl
  ·exact .inl rfl
theorem lines_nil : linesOf (⟨#[]⟩ : ByteArray) = [] := by rfl
theorem nb_merge {y z : ByteArray} (h : mtR ⟨#[]⟩ y z = 0) (hn : mtN ⟨#[]⟩ y z = 0) : mtT ⟨#[]⟩ y z = y \/ mtT ⟨#[]⟩ y z = z := by
 unfold mtN at hn
 rw [if_pos h] at hn
 unfold mtT
 rw [if_pos h]
 unfold mtB mgB
 rw [lines_nil] at hn ⊢
 rcases nb_lines (linesOf y) (linesOf z) hn with e | e
 ·left; rw [e]; exact jn_lines y
 ·right; rw [e]; exact jn_lines z
end Go.Proofs.YtcfnkndbhpdfnaaGreatDoor.Tm
set_option linter.unusedVariables false
namespace Go.Proofs.YtcfnkndbhpdfnaaGreatDoor.En
open Go.ChangeShapes Go.WideShapes Go.ChangeAt Go.RowKit
def AK (b : Nat) (L : List Ob) (v : Value) (w : World) (e : Ending) (w' : World) : Prop := e = .returned (.tuple #[]) /\ ∃ v', SL w' b L v' /\ Below b w w' /\ w.heap.size <= w'.heap.size /\ (∀ k, k < w.heap.size -> k ≠ b -> v.ownBlock ≠ some k -> w'.heap[k]? = w.heap[k]?) /\ (v'.ownBlock = v.ownBlock \/ ∃ j, v'.ownBlock = some j /\ w.heap.size <= j)
set_option maxRecDepth 20000 in
set_option maxHeartbeats 4000000 in
theorem addEndK (b : Nat) (l : List Ob) (v : Value) (E : Ob) (w : World) (h : SL w b l v) (hn : l.length <= 1048575) (hl : Last l E) :
  Calls Tryz.prog 82 #[.pointer (some ⟨b, 0, none⟩), .agg #[.string E.1, .int .i64 E.2.1, .int .i64 E.2.2.1, .string E.2.2.2]] w fun e w' => AK b (l ++ [E]) v w e w' := by
 obtain ⟨va, vc, rfl⟩ := shapeK3 h.own
 have hS := fun W p => searchC va vc l E l.length W p (by omega) hl.cuts
 simp only [Last.hit] at hS
 have hI := fun g W p q r => insertEndC (b + 1) va vc g l E W p (by omega) q r
 clear hl
 obtain ⟨x0, x1, x2, x3⟩ := E
 simp only [] at hS hI ⊢
 obtain ⟨W, hW⟩ : ∃ W, w.alloc (.cells #[.string x0, .int .i64 x1, .int .i64 x2, .string x3] 86) = W := ⟨_, rfl⟩
 have bW : Below w.heap.size w W := by rw [<- hW]; exact allocBelow _ _
 have oW : Rf W w.heap.size [.string x0, .int .i64 x1, .int .i64 x2, .string x3] := by rw [<- hW]; exact Rf.new _ _ _
 have zW : w.heap.size < W.heap.size := by rw [<- hW]; simp
 have h1 := h.below bW
 have k0 := h1.rf.at_ 0 _ rfl
 have k1 := h1.rf.at_ 1 _ rfl
 have m0 := oW.at_ 0 _ rfl
 have m1 := oW.at_ 1 _ rfl
 have m2 := oW.at_ 2 _ rfl
 have m3 := oW.at_ 3 _ rfl
 have hbw := h.lt
 go_enter Tryz.func82, Tryz.ntmps82
 go_wp2_with fail
 go_cut [4, 5] from 6 to 18 (fun s t wx => s = .int .i64 l.length /\ t = .bool false /\ Below W.heap.size W wx)
 case first =>
  have OD : OB W.drew.heap.size W.drew va l := OB.of h1.own
  clear hI h1 oW h hbw hW bW zW
  go_region_held (fun w' => w'.cell? ⟨b, 0, none⟩ = some (.func (.func 81) #[] #[]) /\ w'.cell? ⟨b, 1, none⟩ = some (.slice va l.length vc) /\ w'.cell? ⟨w.heap.size, 0, none⟩ = some (.string x0) /\ w'.cell? ⟨w.heap.size, 1, none⟩ = some (.int .i64 x1) /\ w'.cell? ⟨w.heap.size, 2, none⟩ = some (.int .i64 x2) /\ w'.cell? ⟨w.heap.size, 3, none⟩ = some (.string x3)) (first | with_reducible exact ⟨k0, k1, m0, m1, m2, m3⟩ | with_reducible exact ⟨f0, f1, e0, e1, e2, e3⟩ | exact ⟨k0, k1, m0, m1, m2, m3⟩)
   ((go_at_call 111; refine (hS _ OD).mono ?_; rintro e wb ⟨rfl, bb⟩; have fb := Fr.ofBelow (lo := 0) (hi := 0) bb; have e0 := fb.cell m0 (.inr (Nat.zero_le _)); have e1 := fb.cell m1 (.inr (Nat.zero_le _)); have e2 := fb.cell m2 (.inr (Nat.zero_le _)); have e3 := fb.cell m3 (.inr (Nat.zero_le _)); have f0 := fb.cell k0 (.inr (Nat.zero_le _)); have f1 := fb.cell k1 (.inr (Nat.zero_le _)); have Bt1 : Below W.heap.size W wb := (below_drew (Below.refl _ _)).trans bb))
  all_goals (go_wp2_with fail; go_meet; exact ⟨rfl, rfl, Bt1⟩)
 case rest =>
 obtain ⟨rfl, rfl, hB⟩ := hcut
 have h2 := h1.below hB
 have o2 := oW.below zW hB
 have k1 := h2.rf.at_ 1 _ rfl
 have fz := h2.rf.fz 1
 have m0 := o2.at_ 0 _ rfl
 have m1 := o2.at_ 1 _ rfl
 have m2 := o2.at_ 2 _ rfl
 have m3 := o2.at_ 3 _ rfl
 have BA : Below b w wc := ((bW.trans (hB.mono bW.size)).mono (Nat.le_of_lt hbw))
 have hbc : b + 1 <= wc.heap.size := h2.lt
 obtain ⟨V, hV⟩ : ∃ V, wc.alloc (.cells #[.string x0, .int .i64 x1, .int .i64 x2, .string x3] 86) = V := ⟨_, rfl⟩
 have nw := newE wc (x0, x1, x2, x3)
 have bV : Below wc.heap.size wc V := by rw [<- hV]; exact allocBelow _ _
 simp only [] at nw
 rw [hV] at nw
 have h3 := h2.below bV
 have hII := hI wc.heap.size V.drew h3.own.drew nw h3.lt
 have BV : Below b w V := BA.trans (bV.mono (by omega))
 have BWV : Hid (Below w.heap.size w V) := (bW.trans (hB.mono bW.size)).trans (bV.mono (Nat.le_trans bW.size hB.size))
 have R3 := h3.rf
 have zV := h3.lt
 have hvb : ∀ j, (Value.slice va l.length vc).ownBlock = some j -> b + 1 <= j := fun j hj => (h3.own.lt j hj).1
 clear hS hI h h1 h2 h3 oW o2 bW zW hW hB BA nw bV k0
 go_wp2_with fail
 have hne : some b ≠ (Value.slice va l.length vc).ownBlock := fun e => absurd (hvb b e.symm) (by omega)
 have R3D : Rf V.drew b [.func (.func 81) #[] #[], .slice va l.length vc] := ⟨R3.at_, R3.fz⟩
 have BVD : Below b w V.drew := BV.drew
 have k1V := R3.at_ 1 _ rfl
 have fzV := R3.fz 1
 go_region_with (go_at_call 112; refine hII.mono ?_; rintro e w5 ⟨v5, rfl, o5, g5, k5⟩; obtain ⟨ua, uc, rfl⟩ := shapeK3 o5; have K5 : Hid (_ \/ _) := k5; clear k5; have R5 := rfGrew R3D g5 hne zV; have c5 := R5.at_ 1 _ rfl; have z5 := R5.fz 1)
 all_goals
  have z6 : b < w5.heap.size := Nat.lt_of_lt_of_le zV g5.size
  have R6 : Rf (w5.setCell ⟨b, 1, none⟩ (.slice ua (l ++ [(x0, x1, x2, x3)]).length uc)) b [.func (.func 81) #[] #[], .slice ua (l ++ [(x0, x1, x2, x3)]).length uc] := R5.set (o := 1) (by simp) _
  have o6 := o5.kept (grownSet w5 b 1 (.slice ua (l ++ [(x0, x1, x2, x3)]).length uc)) (blockCases _ _ fun j c1 c2 => by cases c2; have := (o5.lt _ c1).1; omega)
  have B6 : Below b w (w5.setCell ⟨b, 1, none⟩ (.slice ua (l ++ [(x0, x1, x2, x3)]).length uc)) := (BVD.grown g5 (Nat.le_of_lt zV) (fun j hj => by have := hvb j hj; omega)).setCell (p := ⟨b, 1, none⟩) (Nat.le_refl _) _
  have S6 : w.heap.size <= (w5.setCell ⟨b, 1, none⟩ (.slice ua (l ++ [(x0, x1, x2, x3)]).length uc)).heap.size := by
   rw [World.size_setCell]; exact Nat.le_trans BWV.out.size g5.size
  have P6 : ∀ k, k < w.heap.size -> k ≠ b -> (Value.slice va l.length vc).ownBlock ≠ some k -> (w5.setCell ⟨b, 1, none⟩ (.slice ua (l ++ [(x0, x1, x2, x3)]).length uc)).heap[k]? = w.heap[k]? := fun k hk h1 h2 =>
   ((Below.heap_setCell w5 ⟨b, 1, none⟩ _ k h1).trans (g5.block k (Nat.lt_of_lt_of_le hk BWV.out.size) (fun e => h2 e.symm))).trans (BWV.out.block k hk)
  have Q6 : (Value.slice ua (l ++ [(x0, x1, x2, x3)]).length uc).ownBlock = (Value.slice va l.length vc).ownBlock \/ ∃ j, (Value.slice ua (l ++ [(x0, x1, x2, x3)]).length uc).ownBlock = some j /\ w.heap.size <= j := by
   rcases K5.out with q | q
   ·exact .inl q
   ·exact .inr ⟨_, q, BWV.out.size⟩
  have HF : Hid (AK b (l ++ [(x0, x1, x2, x3)]) (.slice va l.length vc) w (.returned (.tuple #[])) (w5.setCell ⟨b, 1, none⟩ (.slice ua (l ++ [(x0, x1, x2, x3)]).length uc))) := ⟨rfl, _, ⟨R6, o6, by rw [World.size_setCell]; exact z6⟩, B6, S6, P6, Q6⟩
  clear R6 o6 B6 R5 o5 g5 c5 z5 R3 R3D BV BVD S6 P6 Q6 K5 BWV
  have hl2 : (l ++ [(x0, x1, x2, x3)]).length = l.length + 1 := by simp
  have HF2 := HF.out
  rw [hl2] at HF2
  have HF3 : Hid (AK b (l ++ [(x0, x1, x2, x3)]) (.slice va l.length vc) w (.returned (.tuple #[])) (w5.setCell ⟨b, 1, none⟩ (.slice ua (l.length + 1) uc))) := HF2
  clear HF HF2 hl2
  go_wp2
  refine bodyPost_end (results_none rfl _ _ _) rfl ?_
  exact HF3.out
end Go.Proofs.YtcfnkndbhpdfnaaGreatDoor.En
set_option linter.unusedVariables false
namespace Go.Proofs.YtcfnkndbhpdfnaaGreatDoor.Pv
open Go.ChangeShapes Go.WideShapes Go.ChangeAt Go.RowKit
theorem flBelowAt {B b : Nat} {w w' : World} {a : Option Addr} {l : List Fl.Ob} (h : Fl.OB B w a l) (hb : Below b w w') (hB : B <= b) : Fl.OB B w' a l := fun k hk => by
 obtain ⟨g, off, e, hg, d0, d1, d2⟩ := h k hk
 have q : g < b := by omega
 exact ⟨g, off, e, hg, (hb.cell (p := ⟨g, _, none⟩) q).trans d0, (hb.cell (p := ⟨g, _, none⟩) q).trans d1, (hb.cell (p := ⟨g, _, none⟩) q).trans d2⟩
theorem litF (w : World) : (w.alloc (.cells #[] 34)).ownsRow w.heap.size 34 3 (.slice (some ⟨w.heap.size, 0, none⟩) 0 0) ([] : List Fl.Ob).length (Fl.ocells []) := World.ownsRow_lit w #[] 0 (Nat.le_refl _) (Nat.zero_le _) rfl
set_option maxRecDepth 20000 in
set_option maxHeartbeats 4000000 in
theorem l11SomeC (a : Option Addr) (c : Nat) (fs : List Fl.Ob) (w : World) (h : Fl.OB w.heap.size w a fs) (hn : fs.length <= 1048576) :
  Calls Tryz.prog 17 #[.slice a fs.length c] w fun e w' => En.SF (som fs) w e w' := by
 obtain ⟨q, hq⟩ : ∃ q, w.heap.size = q := ⟨_, rfl⟩
 have HQ : Hid (w.heap.size = q) := hq
 obtain ⟨W0, hW0⟩ : ∃ W, w.alloc (.cells #[] 34) = W := ⟨_, rfl⟩
 have b0 : Below q w W0 := by rw [<- hW0, <- hq]; exact allocBelow _ _
 have o0 : W0.ownsRow q 34 3 (.slice (some ⟨q, 0, none⟩) 0 0) (som (fs.take 0)).length (Fl.ocells (som (fs.take 0))) := by rw [<- hW0, <- hq]; exact litF w
 rw [hq] at h
 go_enter Tryz.func17, Tryz.ntmps17
 go_wp2
 clear hW0 hq
 go_loopw [3, 4] (fun o i wr => ∃ k : Nat, k <= fs.length /\ i = .int .i64 k /\ wr.ownsRow q 34 3 o (som (fs.take k)).length (Fl.ocells (som (fs.take k))) /\ Below q w wr) (fun _ i _ => fs.length - (intOf i).toNat)
 case atStart => exact ⟨0, Nat.zero_le _, rfl, o0, b0⟩
 case round =>
  obtain ⟨k, hk, rfl, ho, hbel⟩ := hrel
  clear o0 b0
  have hsz : q <= wr.heap.size := by have := hbel.size; have := HQ.out; omega
  by_cases hlt : k < fs.length
  ·have qk : (k : Int) < (fs.length : Int) := by omega
   obtain ⟨g, off, e, hg, d0, d1, d2⟩ := (flBelowAt h hbel (Nat.le_refl _)) k hlt
   subst e
   have hy := som_yes fs k hlt
   have hno := som_no fs k hlt
   have hln := som_len fs k
   obtain ⟨C, hCe⟩ : ∃ C, fs.getD k Fl.onil = C := ⟨_, rfl⟩
   obtain ⟨x0, x1, x2⟩ := C
   rw [hCe] at d0 d1 d2 hy hno
   simp only [] at d0 d1 d2
   obtain ⟨T, hTe⟩ : ∃ T, som (fs.take k) = T := ⟨_, rfl⟩
   rw [hTe] at ho hy hno hln
   obtain ⟨va, vc, rfl⟩ := En.shapeK3 ho
   clear hCe hTe
   by_cases hx : ((x0, x1, x2) : Fl.Ob) = Fl.onil
   ·have HN : Hid (som (fs.take (k + 1)) = T) := hno hx
    have hE := Fl.ef_nil hx
    have O1 : Hid (wr.ownsRow q 34 3 (.slice va T.length vc) T.length (Fl.ocells T)) := ho
    clear hy hno ho hx
    go_wp2
    go_roundw
    case rel => exact ⟨k + 1, by omega, by go_num, by rw [HN.out]; exact O1.out, hbel⟩
    case measure => first | (simp [intOf]; omega) | simp [intOf]
   ·have HY : Hid (som (fs.take (k + 1)) = T ++ [(x0, x1, x2)]) := hy hx
    have hE := Fl.ef_some hx
    have bN := allocBelow wr (.cells #[.string x0, .int .i64 x1, .string x2] 34)
    have o4 := ho.kept (grownOfBelow bN none) (blockCases _ _ fun b c1 c2 => by cases c2)
    have nw := En.newF wr (x0, x1, x2)
    have B4 : Below q w (wr.alloc (.cells #[.string x0, .int .i64 x1, .string x2] 34)) := hbel.trans (bN.mono hsz)
    have z4 : q <= (wr.alloc (.cells #[.string x0, .int .i64 x1, .string x2] 34)).heap.size := Nat.le_trans hsz bN.size
    clear hy hno ho hx bN hbel
    go_wp2_with (at_builtin; refine En.wpList_appF rfl (.tmp 18) (.tmp 23) rfl q (.slice va T.length vc) _ rfl o4 _ _ [(x0, x1, x2)] rfl nw (by simp; omega) z4 ?_; intro v5 w5 o5 g5 n5 k5)
    have B5 : Below q w w5 := B4.grown g5 z4 (fun j hj => (o4.lt j hj).1)
    have O5 : Hid (w5.ownsRow q 34 3 v5 (T ++ [(x0, x1, x2)]).length (Fl.ocells (T ++ [(x0, x1, x2)]))) := o5
    clear o4 nw g5 n5 B4 o5
    go_wp2
    go_roundw
    case rel => exact ⟨k + 1, by omega, by go_num, by rw [HY.out]; exact O5.out, B5⟩
    case measure => first | (simp [intOf]; omega) | simp [intOf]
  ·have qk : ¬ (k : Int) < (fs.length : Int) := by omega
   have ek : fs.take k = fs := List.take_of_length_le (by omega)
   rw [ek] at ho
   have HO : Hid (World.ownsRow _ _ _ _ _ _ _) := ho
   clear ho ek
   go_wp2
   go_ret
   exact ⟨_, rfl, by rw [HQ.out]; exact HO.out, by rw [HQ.out]; exact hbel⟩
set_option maxRecDepth 20000 in
set_option maxHeartbeats 4000000 in
theorem l11TextC (a : Option Addr) (c : Nat) (st : List Ob) (f : Fl.Ob) (w : World) (h : OB w.heap.size w a st) (hz : sf st = 0) (hn : st.length <= 1048576) :
  Calls Tryz.prog 47 #[.slice a st.length c, .agg #[.string f.1, .int .i64 f.2.1, .string f.2.2]] w fun e w' => e = .returned (.string (tx st f)) /\ Below w.heap.size w w' := by
 obtain ⟨x0, x1, x2⟩ := f
 simp only []
 obtain ⟨W1, hW1⟩ : ∃ W, w.alloc (.cells #[.string x0, .int .i64 x1, .string x2] 34) = W := ⟨_, rfl⟩
 have b1 : Below w.heap.size w W1 := by rw [<- hW1]; exact allocBelow _ _
 have r1 : Rs W1 w.heap.size [.string x0, .int .i64 x1, .string x2] := by rw [<- hW1]; exact Rs.new _ #[.string x0, .int .i64 x1, .string x2] _
 have A1 : OB W1.heap.size W1 a st := (h.below b1).mono b1.size
 have c0 := r1 0 _ rfl
 have c1 := r1 1 _ rfl
 have c2 := r1 2 _ rfl
 by_cases hx : ((x0, x1, x2) : Fl.Ob) = Fl.onil
 ·have hE := Fl.ef_nil hx
  have HT : Hid (tx st (x0, x1, x2) = ⟨#[]⟩) := by show _ = _; rw [hx]; exact tx_nil hz
  clear hx r1 A1 h
  go_enter Tryz.func47, Tryz.ntmps47
  go_wp2
  go_ret
  exact ⟨by rw [HT.out]; rfl, b1⟩
 ·have hE := Fl.ef_some hx
  have hG := l5Get a c st 1 x2 W1 A1 hn
  have HT : Hid (tx st (x0, x1, x2) = (gt st 1 x2).getD ⟨#[]⟩) := rfl
  generalize hGe : gt st 1 x2 = G at hG HT
  clear hx r1 A1 h hGe
  go_enter Tryz.func47, Tryz.ntmps47
  go_wp2_with fail
  refine hG.mono ?_; rintro e w2 ⟨rfl, rfl⟩
  go_wp2
  go_ret
  exact ⟨by rw [HT.out]; first | rfl | (cases G <;> rfl), b1⟩
end Go.Proofs.YtcfnkndbhpdfnaaGreatDoor.Pv
set_option linter.unusedVariables false
namespace Go.Proofs.YtcfnkndbhpdfnaaGreatDoor.Pv
open Go.ChangeShapes Go.WideShapes Go.ChangeAt Go.RowKit
theorem zS {w w' : World} {g o : Nat} {v : Value} (b : Below w.heap.size w w') (h : w.cell? ⟨g, o, none⟩ = some v) : w'.cell? ⟨g, o, none⟩ = some v := (Fr.ofBelow (lo := 0) (hi := 0) b).cell h (.inr (Nat.zero_le _))
theorem keep3 {u : World} {p g o o1 o2 o3 : Nat} {v1 v2 v3 x : Value} (hc : u.cell? ⟨g, o, none⟩ = some x) (h : g ≠ p) : (((u.setCell ⟨p, o1, none⟩ v1).setCell ⟨p, o2, none⟩ v2).setCell ⟨p, o3, none⟩ v3).cell? ⟨g, o, none⟩ = some x :=
 (grownTrans (grownTrans (grownSet u p o1 v1) (grownSet _ p o2 v2)) (grownSet _ p o3 v3)).cell hc (by simpa using h)
theorem rfKeep {w w' : World} {b : Nat} {vs : List Value} {row : Option Nat} (h : Rf w b vs) (hg : w.grownBy w' row) (hne : some b ≠ row) (hlt : b < w.heap.size) : Rf w' b vs :=
 ⟨fun k v hk => hg.cell (h.at_ k v hk) hne, fun k => by
  have e := hg.block b hlt hne
  have h1 := h.fz k
  unfold World.frozen? at h1 ⊢
  rw [e]; exact h1⟩
end Go.Proofs.YtcfnkndbhpdfnaaGreatDoor.Pv
