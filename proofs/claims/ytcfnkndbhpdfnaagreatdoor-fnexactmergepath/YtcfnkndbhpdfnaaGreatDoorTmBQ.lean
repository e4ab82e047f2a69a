/- The stages of a path, as the specification makes them. No statement is proved here. -/
import Derived.Test.YtcfnkndbhpdfnaaGreatDoorRyIQ
set_option linter.unusedVariables false
namespace Go.Proofs.YtcfnkndbhpdfnaaGreatDoor.Tm
open Go.ChangeShapes Go.WideShapes Go.ChangeAt Go.RowKit
open Go.Proofs.YtcfnkndbhpdfnaaGreatDoor.Pv
def SE (L : List En.Ob) (w : World) (e : Ending) (w' : World) : Prop := ∃ v, e = .returned v /\ w'.ownsRow w.heap.size 86 4 v L.length (En.ocells L) /\ Below w.heap.size w w'
theorem litEn (w : World) : (w.alloc (.cells #[] 86)).ownsRow w.heap.size 86 4 (.slice (some ⟨w.heap.size, 0, none⟩) 0 0) (stgK [] 0).length (En.ocells (stgK [] 0)) := World.ownsRow_lit w #[] 0 (Nat.le_refl _) (Nat.zero_le _) rfl
theorem flBelow {B : Nat} {w w' : World} {a : Option Addr} {l : List Fl.Ob} (h : Fl.OB B w a l) (hb : Below B w w') : Fl.OB B w' a l := flBelowAt h hb (Nat.le_refl _)
set_option maxRecDepth 20000 in
set_option maxHeartbeats 4000000 in
theorem l11StagesC (f0 f2 g0 g2 h0 h2 : ByteArray) (f1 g1 h1 : Int) (w : World) :
  Calls Tryz.prog 48 #[.agg #[.string f0, .int .i64 f1, .string f2], .agg #[.string g0, .int .i64 g1, .string g2], .agg #[.string h0, .int .i64 h1, .string h2]] w fun e w' => SE (stgK [(f0, f1, f2), (g0, g1, g2), (h0, h1, h2)] 3) w e w' := by
 obtain ⟨q, hq⟩ : ∃ q, w.heap.size = q := ⟨_, rfl⟩
 have HQ : Hid (w.heap.size = q) := hq
 obtain ⟨W3, hW3⟩ : ∃ W, ((w.alloc (.cells #[.string f0, .int .i64 f1, .string f2] 34)).alloc (.cells #[.string g0, .int .i64 g1, .string g2] 34)).alloc (.cells #[.string h0, .int .i64 h1, .string h2] 34) = W := ⟨_, rfl⟩
 have b3 : Below q w W3 := by rw [<- hW3, <- hq]; exact ((((Below.refl _ _).alloc (Nat.le_refl _) _).alloc (by simp) _).alloc (by simp; omega) _)
 have z3 : q <= W3.heap.size := by rw [<- hW3, <- hq]; simp; omega
 have c0 : Rs W3 w.heap.size [.string f0, .int .i64 f1, .string f2] := by rw [<- hW3]; exact (Fr.ofAlloc (lo := 0) (hi := 0) _ _).rs ((Fr.ofAlloc (lo := 0) (hi := 0) _ _).rs (Rs.new w #[.string f0, .int .i64 f1, .string f2] _) (.inr (Nat.zero_le _))) (.inr (Nat.zero_le _))
 have e1 : (w.alloc (.cells #[.string f0, .int .i64 f1, .string f2] 34)).heap.size = w.heap.size + 1 := by simp
 have c1 : Rs W3 (w.heap.size + 1) [.string g0, .int .i64 g1, .string g2] := by rw [<- hW3, <- e1]; exact (Fr.ofAlloc (lo := 0) (hi := 0) _ _).rs (Rs.new _ #[.string g0, .int .i64 g1, .string g2] _) (.inr (Nat.zero_le _))
 have e2 : ((w.alloc (.cells #[.string f0, .int .i64 f1, .string f2] 34)).alloc (.cells #[.string g0, .int .i64 g1, .string g2] 34)).heap.size = w.heap.size + 1 + 1 := by simp
 have c2 : Rs W3 (w.heap.size + 1 + 1) [.string h0, .int .i64 h1, .string h2] := by rw [<- hW3, <- e2]; exact Rs.new _ #[.string h0, .int .i64 h1, .string h2] _
 have p0 := c0 0 _ rfl
 have p1 := c0 1 _ rfl
 have p2 := c0 2 _ rfl
 have p3 := c1 0 _ rfl
 have p4 := c1 1 _ rfl
 have p5 := c1 2 _ rfl
 have p6 := c2 0 _ rfl
 have p7 := c2 1 _ rfl
 have p8 := c2 2 _ rfl
 clear e1 e2 c0 c1 c2
 have hR := rowFl f0 f2 g0 g2 h0 h2 f1 g1 h1 W3
 obtain ⟨W4, hW4⟩ : ∃ W, W3.alloc (.cells #[.string f0, .int .i64 f1, .string f2, .string g0, .int .i64 g1, .string g2, .string h0, .int .i64 h1, .string h2] 34) = W := ⟨_, rfl⟩
 rw [hW4] at hR
 have b4 : Below W3.heap.size W3 W4 := by rw [<- hW4]; exact allocBelow _ _
 have B4 : Below q w W4 := b3.trans (b4.mono z3)
 have z4 := b4.size
 obtain ⟨fs, hfs⟩ : ∃ l, [((f0, f1, f2) : Fl.Ob), (g0, g1, g2), (h0, h1, h2)] = l := ⟨_, rfl⟩
 have hlen : fs.length = 3 := by rw [<- hfs]; rfl
 have HL : Hid (fs.length = 3) := hlen
 rw [hfs] at hR
 rw [hfs]
 obtain ⟨P, hP⟩ : ∃ P, W3.heap.size = P := ⟨_, rfl⟩
 rw [hP] at hR
 clear hfs hlen b3 b4 hq
 go_enter Tryz.func48, Tryz.ntmps48
 go_wp2
 go_loopw [8, 9] (fun v i wr => ∃ k : Nat, k <= 3 /\ i = .int .i64 k /\ wr.ownsRow W4.heap.size 86 4 v (stgK fs k).length (En.ocells (stgK fs k)) /\ Below W4.heap.size W4 wr) (fun _ i _ => 3 - (intOf i).toNat)
 case atStart => exact ⟨0, by omega, rfl, litEn _, allocBelow _ _⟩
 case round =>
  clear hW3 hW4 p0 p1 p2 p3 p4 p5 p6 p7 p8
  obtain ⟨k, hk, rfl, hor, hbel⟩ := hrel
  have hsz := hbel.size
  by_cases hlt : k < 3
  ·have qk : (k : Int) < 3 := by omega
   obtain ⟨g, off, e, hg, d0, d1, d2⟩ := (flBelow hR hbel) k (by rw [HL.out]; exact hlt)
   simp only [Option.some.injEq, Addr.mk.injEq] at e
   obtain ⟨rfl, rfl, _⟩ := e
   rw [Nat.zero_add] at d0 d1 d2
   have hy := fun q => stgK_yes (fs := fs) (k := k) q
   have hno := fun q => stgK_no (fs := fs) (k := k) q
   have hln := stgK_len fs k
   obtain ⟨C, hCe⟩ : ∃ C, fs.getD k Fl.onil = C := ⟨_, rfl⟩
   obtain ⟨x0, x1, x2⟩ := C
   rw [hCe] at d0 d1 d2 hy hno
   simp only [] at d0 d1 d2
   obtain ⟨T, hT⟩ : ∃ T, stgK fs k = T := ⟨_, rfl⟩
   rw [hT] at hor hy hno hln
   clear hCe hT
   by_cases hx : ((x0, x1, x2) : Fl.Ob) = Fl.onil
   ·have hE := Fl.ef_nil hx
    have HN : Hid (stgK fs (k + 1) = T) := hno hx
    have O1 : Hid (wr.ownsRow W4.heap.size 86 4 _ T.length (En.ocells T)) := hor
    clear hor hy hno hx
    go_wp2
    go_roundw
    case rel => exact ⟨k + 1, by omega, by go_num, by rw [HN.out]; exact O1.out, hbel⟩
    case measure => first | (simp [intOf]; omega) | simp [intOf]
   ·have hE := Fl.ef_some hx
    have HY : Hid (stgK fs (k + 1) = T ++ [(x0, (k : Int) + 1, x1, x2)]) := hy hx
    clear hy hno hx
    obtain ⟨i0, hi, hz0, hz1, hz2⟩ := info_parts En.infoObj
    have bN := allocBelow wr (.cells #[.string x0, .int .i64 ((k : Int) + 1), .int .i64 x1, .string x2] 86)
    have o4 := hor.kept (grownOfBelow bN none) (blockCases _ _ fun b c1 c2 => by cases c2)
    have nw := En.newE wr (x0, (k : Int) + 1, x1, x2)
    have B4' := below_step hbel hsz bN
    have z5 := B4'.size
    have B4D := B4'.drew
    have hm1 : T.length + 1 <= maxLen := by unfold maxLen; omega
    have hm2 : (T.length + 1) * 48 <= 140737488355328 := by omega
    have hw1 : IntKind.i64.wrap ((k : Int) + 1) = (k : Int) + 1 := by rw [IntKind.wrap_i64]; omega
    clear bN hor hbel
    go_wp2
    go_region_law (refine En.stepApp rfl (.tmp 25) (.tmp 44) 28 rfl W4.heap.size 86 i0 _ 4 48 Tryz.underlying28 hi hz0 hz1 hz2 rfl (by decide) _ _ _ rfl o4.drew ⟨wr.heap.size, 0, none⟩ 1 1 (En.ocells [(x0, (k : Int) + 1, x1, x2)]) rfl rfl nw (En.oneE _) hm1 hm2 z5 ?_; intro v5 w5 o5 g5 n5)
    all_goals
    have B5 : Below W4.heap.size W4 w5 := B4D.grown g5 z5 (fun j hj => (o4.lt j hj).1)
    have O5 : Hid (w5.ownsRow W4.heap.size 86 4 v5 (T ++ [(x0, (k : Int) + 1, x1, x2)]).length (En.ocells (T ++ [(x0, (k : Int) + 1, x1, x2)]))) := by
     show World.ownsRow _ _ _ _ _ _ _
     rw [List.length_append, En.ocells_app]; exact o5
    clear o4 nw g5 n5 B4' o5 B4D
    go_wp2
    go_roundw
    case rel => exact ⟨k + 1, by omega, by go_num, by rw [HY.out]; exact O5.out, B5⟩
    case measure => first | (simp [intOf]; omega) | simp [intOf]
  ·have qk : ¬ (k : Int) < 3 := by omega
   have ek : k = 3 := by omega
   rw [ek] at hor
   have HO : Hid (World.ownsRow _ _ _ _ _ _ _) := hor
   clear hor ek
   go_wp2
   go_ret
   exact ⟨_, rfl, En.ownMonoF HO.out (by rw [HQ.out]; omega), by rw [HQ.out]; exact B4.trans (hbel.mono (by omega))⟩
end Go.Proofs.YtcfnkndbhpdfnaaGreatDoor.Tm
set_option linter.unusedVariables false
namespace Go.Proofs.YtcfnkndbhpdfnaaGreatDoor.Tm
open Go.ChangeShapes Go.WideShapes Go.ChangeAt Go.RowKit
open Go.Proofs.YtcfnkndbhpdfnaaGreatDoor.Pv
theorem last_nil (x : En.Ob) : En.Last [] x := fun k hk => absurd hk (Nat.not_lt_zero _)
theorem vfG_all {p : ByteArray} : ∀ {l : List Fl.Ob}, vfG p l = 0 -> ∀ o ∈ l, fiO o = 0 /\ o.1 = p
 | [], _, o, ho => by cases ho
 | a :: t, h, o, ho => by
  by_cases e : fiO a = 0
  ·by_cases e2 : a.1 = p
   ·rw [vf_go e e2] at h
    rcases List.mem_cons.1 ho with rfl | ho
    ·exact ⟨e, e2⟩
    ·exact vfG_all h o ho
   ·rw [vf_path e e2] at h; omega
  ·rw [vf_bad e] at h; exact absurd h e
theorem vff_all {l : List Fl.Ob} (h : vff l = 0) {o : Fl.Ob} (ho : o ∈ l) : fiO o = 0 /\ o.1 = (l.getD 0 Fl.onil).1 := vfG_all h o ho
theorem som_mem {fs : List Fl.Ob} {k : Nat} (hk : k < fs.length) (h : ¬ fs.getD k Fl.onil = Fl.onil) : fs.getD k Fl.onil ∈ som fs :=
 List.mem_filter.2 ⟨by rw [List.getD, List.getElem?_eq_getElem hk]; exact List.getElem_mem hk, decide_eq_true h⟩
theorem fok {fs : List Fl.Ob} (h : vff (som fs) = 0) {k : Nat} (hk : k < fs.length) : FOk (fs.getD k Fl.onil) := by
 by_cases e : fs.getD k Fl.onil = Fl.onil
 ·exact .inl e
 ·exact .inr (vff_all h (som_mem hk e)).1
theorem one_path {fs : List Fl.Ob} (h : vff (som fs) = 0) {k : Nat} (hk : k < fs.length) (e : ¬ fs.getD k Fl.onil = Fl.onil) : (fs.getD k Fl.onil).1 = ((som fs).getD 0 Fl.onil).1 := (vff_all h (som_mem hk e)).2
theorem stg_last {fs : List Fl.Ob} (h : vff (som fs) = 0) {k : Nat} (hk : k < fs.length) (e : ¬ fs.getD k Fl.onil = Fl.onil) : En.Last ([] ++ stgK fs k) (entF (fs.getD k Fl.onil) ((k : Int) + 1)) := by
 rw [List.nil_append]
 intro i hi
 have hm : (stgK fs k).getD i En.onil ∈ stgK fs k := by rw [List.getD, List.getElem?_eq_getElem hi]; exact List.getElem_mem hi
 obtain ⟨j, hj, hn, he⟩ := stgK_mem fs k _ hm
 rw [he]
 have hp : (entF (fs.getD j Fl.onil) ((j : Int) + 1)).1 = (entF (fs.getD k Fl.onil) ((k : Int) + 1)).1 := (one_path h (by omega) hn).trans (one_path h hk e).symm
 exact En.cmE_lt.2 (.inr ⟨hp, by show ((j : Int) + 1) < ((k : Int) + 1); omega⟩)
theorem som_pos {f g h : Fl.Ob} (e : Fl.mk f g h = 3 \/ Fl.mk f g h = 4) : 0 < (som [f, g, h]).length := by
 have key : ¬ (g = Fl.onil /\ h = Fl.onil) := fun c => by
  unfold Fl.mk at e
  rw [if_pos (c.1.trans c.2.symm)] at e
  omega
 by_cases hg : g = Fl.onil
 ·have hh : ¬ h = Fl.onil := fun c => key ⟨hg, c⟩
  exact List.length_pos_of_mem (som_mem (fs := [f, g, h]) (k := 2) (by simp) hh)
 ·exact List.length_pos_of_mem (som_mem (fs := [f, g, h]) (k := 1) (by simp) hg)
theorem pre_of {f g h : Fl.Ob} (hsz : ∀ k, k < 3 -> (([f, g, h] : List Fl.Ob).getD k Fl.onil).1.size <= 1048576 /\ (([f, g, h] : List Fl.Ob).getD k Fl.onil).2.2.size <= 1048576) (hv : vff (som [f, g, h]) = 0) :
  (∀ k, k < 3 -> ¬ ([f, g, h] : List Fl.Ob).getD k Fl.onil = Fl.onil -> En.Last ([] ++ stgK [f, g, h] k) (entF (([f, g, h] : List Fl.Ob).getD k Fl.onil) ((k : Int) + 1))) /\ (Fl.mk f g h = 3 \/ Fl.mk f g h = 4 -> 0 < (som [f, g, h]).length /\ ((som [f, g, h]).getD 0 Fl.onil).1.size <= 1048576) :=
 ⟨fun k hk e => stg_last hv hk e, fun e => ⟨som_pos e, som_small (fun o ho => by
  simp only [List.mem_cons, List.not_mem_nil, or_false] at ho
  rcases ho with rfl | rfl | rfl
  ·exact (hsz 0 (by omega)).1
  ·exact (hsz 1 (by omega)).1
  ·exact (hsz 2 (by omega)).1) 0 (som_pos e)⟩⟩
end Go.Proofs.YtcfnkndbhpdfnaaGreatDoor.Tm
set_option linter.unusedVariables false
namespace Go.Proofs.YtcfnkndbhpdfnaaGreatDoor.Tm
open Go.ChangeShapes Go.WideShapes Go.ChangeAt Go.RowKit
open Go.Proofs.YtcfnkndbhpdfnaaGreatDoor.Pv
theorem hb_all {st : List Ob} : ∀ {l : List Fl.Ob}, hbF st l = true -> ∀ o ∈ l, (gt st 1 o.2.2).isSome = true
 | [], _, o, ho => by cases ho
 | a :: t, h, o, ho => by
  have hdef : hbF st (a :: t) = if (gt st 1 a.2.2).isSome = true then hbF st t else false := by rw [hbF]
  rw [hdef] at h
  by_cases e : (gt st 1 a.2.2).isSome = true
  ·rw [if_pos e] at h
   rcases List.mem_cons.1 ho with rfl | ho
   ·exact e
   ·exact hb_all h o ho
  ·rw [if_neg e] at h; cases h
theorem blob_same {st : List Ob} {f : Fl.Ob} (hz : sf st = 0) (h : (gt st 1 f.2.2).isSome = true) : pC st 1 (tx st f) = 0 /\ pL st 1 (tx st f) = st := by
 rcases fz_cases st f.2.2 with e | ⟨n, e, hn, hid⟩
 ·rw [gt_less e] at h; cases h
 ·by_cases e2 : (st.getD n onil).2.1 = 1
  ·have ht : tx st f = (st.getD n onil).2.2 := by unfold tx; rw [gt_yes e e2]; rfl
   have hi := (sf_ob hz n hn).2
   rw [e2] at hi
   have hN : fz st (idN 1 (tx st f)) = n := by rw [ht, <- hi, hid]; exact e
   have := p_same hN ht.symm
   exact ⟨this.1, this.2.1⟩
  ·rw [gt_no e e2] at h; cases h
theorem id_zero {x y z : ByteArray} (h : mtR x y z = 0) : idK 1 (mtT x y z) = 0 := by
 have e : mtT x y z = mtB x y z := by unfold mtT; rw [if_pos h]
 have t : tf (mtB x y z) = 0 := by
  unfold mtR at h
  split at h
  ·exact h
  ·rename_i q; exact absurd h q
 unfold idK
 rw [if_pos (by decide), e, t]
theorem ag_no {b o t : Int} (h : (agM b o t).2 = false) : ¬ o = t /\ ¬ t = b /\ ¬ o = b := by
 unfold agM at h
 split at h
 ·cases h
 ·rename_i e
  split at h
  ·cases h
  ·rename_i e2
   exact ⟨fun c => e (.inl c), fun c => e (.inr c), e2⟩
theorem ag_in {b o t : Int} (h : (agM b o t).2 = true) : (agM b o t).1 = o \/ (agM b o t).1 = t := by
 unfold agM at h ⊢
 split
 ·exact .inl rfl
 ·rename_i e
  rw [if_neg e] at h
  split
  ·exact .inr rfl
  ·rename_i e2; rw [if_neg e2] at h; cases h
theorem y_of {f g h x : Fl.Ob} {k : Nat} (hv : vff (som [f, g, h]) = 0) (hk : k < 3) (e : ([f, g, h] : List Fl.Ob).getD k Fl.onil = x) (hn : ¬ x = Fl.onil) : ((som [f, g, h]).getD 0 Fl.onil).1 = x.1 := by
 subst e
 exact (one_path hv hk hn).symm
theorem mode_no {x : ByteArray} {m : Int} {y : ByteArray} (h : m = 1 \/ m = 2) : ¬ ((x, m, y) : Fl.Ob) = Fl.onil := fun c => by
 have : m = 0 := congrArg (fun z => z.2.1) c
 omega
theorem bo_eq {st : List Ob} {f g h : Fl.Ob} (hz : sf st = 0) (hv : vff (som [f, g, h]) = 0) (hb : hbF st (som [f, g, h]) = true) (hg : ¬ g = Fl.onil) (hh : ¬ h = Fl.onil) :
  (boI st [] [] f g h ((som [f, g, h]).getD 0 Fl.onil).1).1 = (boR st f g h).1 /\ ((boR st f g h).1 = 0 -> (boI st [] [] f g h ((som [f, g, h]).getD 0 Fl.onil).1).2.2 = (boR st f g h).2.2 /\ Asc (boR st f g h).2.1 /\ (boR st f g h).2.1.Perm (boI st [] [] f g h ((som [f, g, h]).getD 0 Fl.onil).1).2.1) := by
 have hy : ((som [f, g, h]).getD 0 Fl.onil).1 = g.1 := y_of (k := 1) hv (by omega) rfl hg
 rw [hy]
 have oF : FOk f := fok (fs := [f, g, h]) hv (k := 0) (by simp)
 have oG : FOk g := fok (fs := [f, g, h]) hv (k := 1) (by simp)
 have oH : FOk h := fok (fs := [f, g, h]) hv (k := 2) (by simp)
 have mG := oG.mode hg
 have mH := oH.mode hh
 have hasc := asc_of hz
 have hAM : (agM f.2.1 g.2.1 h.2.1).2 = true -> (agM f.2.1 g.2.1 h.2.1).1 = 1 \/ (agM f.2.1 g.2.1 h.2.1).1 = 2 := fun e => by
  rcases ag_in e with c | c <;> rw [c] <;> assumption
 unfold boI boR
 simp only []
 by_cases es : (agS f.2.2 g.2.2 h.2.2).2 = true
 ·rw [if_pos es, if_pos es]
  by_cases ea : (agM f.2.1 g.2.1 h.2.1).2 = true
  ·rw [if_pos ea, if_pos ea, if_neg (mode_no (hAM ea))]
   exact ⟨rfl, fun _ => ⟨rfl, hasc, List.Perm.refl _⟩⟩
  ·rw [if_neg ea, if_neg ea]
   exact ⟨rfl, fun _ => ⟨rfl, hasc, List.Perm.refl _⟩⟩
 ·rw [if_neg es, if_neg es]
  by_cases eb : bin3 (tx st f) (tx st g) (tx st h) = true
  ·rw [md_bin eb]
   simp only []
   rw [if_pos (by decide), if_pos (show bin3 (tx st f) (tx st g) (tx st h) = true \/ ¬ mtR (tx st f) (tx st g) (tx st h) = 0 from .inl eb)]
   exact ⟨rfl, fun _ => ⟨rfl, hasc, List.Perm.refl _⟩⟩
  ·have eb2 : bin3 (tx st f) (tx st g) (tx st h) = false := by simpa using eb
   rw [md_text eb2]
   simp only []
   by_cases er : mtR (tx st f) (tx st g) (tx st h) = 0
   ·rw [if_neg (show ¬ ¬ mtR (tx st f) (tx st g) (tx st h) = 0 from fun c => c er), if_neg (show ¬ (bin3 (tx st f) (tx st g) (tx st h) = true \/ ¬ mtR (tx st f) (tx st g) (tx st h) = 0) from fun c => c.elim eb (fun d => d er))]
    have hid := id_zero er
    obtain ⟨a1, a2, a3⟩ := a_ok (l := st) hid
    by_cases en : mtN (tx st f) (tx st g) (tx st h) = 0
    ·rw [if_neg (show ¬ ¬ mtN (tx st f) (tx st g) (tx st h) = 0 from fun c => c en), a1, a2, a3]
     by_cases ea : (agM f.2.1 g.2.1 h.2.1).2 = true
     ·by_cases ep : pC st 1 (mtT (tx st f) (tx st g) (tx st h)) = 0
      ·rw [if_neg (show ¬ ¬ pC st 1 (mtT (tx st f) (tx st g) (tx st h)) = 0 from fun c => c ep), if_pos ea, if_neg (mode_no (hAM ea)), if_pos ⟨en, ea⟩, if_pos ep]
       have qp := q_perm hasc ep
       exact ⟨rfl, fun _ => ⟨rfl, qp.1, qp.2⟩⟩
      ·rw [if_pos ep, if_pos ⟨en, ea⟩, if_neg ep]
       exact ⟨rfl, fun c => absurd c ep⟩
     ·have ea2 : (agM f.2.1 g.2.1 h.2.1).2 = false := by simpa using ea
      obtain ⟨n1, n2, n3⟩ := ag_no ea2
      have fn : f = Fl.onil := Decidable.byContradiction fun c => by
       have mF := oF.mode c
       omega
      have tf0 : tx st f = ⟨#[]⟩ := by rw [fn]; exact tx_nil hz
      have hs : pC st 1 (mtT (tx st f) (tx st g) (tx st h)) = 0 /\ pL st 1 (mtT (tx st f) (tx st g) (tx st h)) = st := by
       rw [tf0] at er en
       rw [tf0]
       have iG : (gt st 1 g.2.2).isSome = true := hb_all hb g (som_mem (fs := [f, g, h]) (k := 1) (by simp) hg)
       have iH : (gt st 1 h.2.2).isSome = true := hb_all hb h (som_mem (fs := [f, g, h]) (k := 2) (by simp) hh)
       rcases nb_merge er en with c | c
       ·rw [c]; exact blob_same hz iG
       ·rw [c]; exact blob_same hz iH
      have qp := q_perm hasc hs.1
      rw [hs.2] at qp
      rw [if_neg (show ¬ ¬ pC st 1 (mtT (tx st f) (tx st g) (tx st h)) = 0 from fun c => c hs.1), if_neg ea, if_neg (show ¬ (mtN (tx st f) (tx st g) (tx st h) = 0 /\ (agM f.2.1 g.2.1 h.2.1).2 = true) from fun c => ea c.2)]
      exact ⟨rfl, fun _ => ⟨rfl, qp.1, qp.2⟩⟩
    ·rw [if_pos en, if_neg (show ¬ (mtN (tx st f) (tx st g) (tx st h) = 0 /\ (agM f.2.1 g.2.1 h.2.1).2 = true) from fun c => en c.1)]
     exact ⟨rfl, fun _ => ⟨rfl, hasc, List.Perm.refl _⟩⟩
   ·rw [if_pos er, if_pos (show bin3 (tx st f) (tx st g) (tx st h) = true \/ ¬ mtR (tx st f) (tx st g) (tx st h) = 0 from .inr er)]
    exact ⟨rfl, fun _ => ⟨rfl, hasc, List.Perm.refl _⟩⟩
end Go.Proofs.YtcfnkndbhpdfnaaGreatDoor.Tm
set_option linter.unusedVariables false
namespace Go.Proofs.YtcfnkndbhpdfnaaGreatDoor.Tm
open Go.ChangeShapes Go.WideShapes Go.ChangeAt Go.RowKit
open Go.Proofs.YtcfnkndbhpdfnaaGreatDoor.Pv
theorem mk_threeH {f g h : Fl.Ob} (e : Fl.mk f g h = 3) : ¬ h = Fl.onil := fun q => by
 have hg := mk_three e
 unfold Fl.mk at e
 by_cases e1 : g = h
 ·rw [if_pos e1] at e; omega
 ·rw [if_neg e1] at e
  by_cases e2 : h = f
  ·rw [if_pos e2] at e; omega
  ·rw [if_neg e2] at e
   by_cases e3 : g = f
   ·rw [if_pos e3] at e; omega
   ·rw [if_neg e3, if_neg hg, if_pos q] at e; omega
theorem mk_four {f g h : Fl.Ob} (e : Fl.mk f g h = 4) : ¬ (g = Fl.onil /\ h = Fl.onil) := fun c => by
 unfold Fl.mk at e
 rw [if_pos (c.1.trans c.2.symm)] at e
 omega
theorem pa_eq {st : List Ob} {f g h : Fl.Ob} (hz : sf st = 0) (hv : vff (som [f, g, h]) = 0) (hb : hbF st (som [f, g, h]) = true) :
  (paI st [] [] f g h ((som [f, g, h]).getD 0 Fl.onil).1).1 = (paR st f g h).1 /\ ((paR st f g h).1 = 0 -> (paI st [] [] f g h ((som [f, g, h]).getD 0 Fl.onil).1).2.2 = (paR st f g h).2.2 /\ Asc (paR st f g h).2.1 /\ (paR st f g h).2.1.Perm (paI st [] [] f g h ((som [f, g, h]).getD 0 Fl.onil).1).2.1) := by
 have hasc := asc_of hz
 by_cases e3 : Fl.mk f g h = 3
 ·have eI : paI st [] [] f g h ((som [f, g, h]).getD 0 Fl.onil).1 = boI st [] [] f g h ((som [f, g, h]).getD 0 Fl.onil).1 := if_pos e3
  have eR : paR st f g h = boR st f g h := if_pos e3
  rw [eI, eR]
  exact bo_eq hz hv hb (mk_three e3) (mk_threeH e3)
 ·by_cases e4 : Fl.mk f g h = 4
  ·have hy : ((som [f, g, h]).getD 0 Fl.onil).1 = (lef g h).1 := by
    unfold lef
    by_cases hg : g = Fl.onil
    ·rw [if_pos hg]
     exact y_of (k := 2) hv (by omega) rfl (fun c => mk_four e4 ⟨hg, c⟩)
    ·rw [if_neg hg]
     exact y_of (k := 1) hv (by omega) rfl hg
   have eI : paI st [] [] f g h ((som [f, g, h]).getD 0 Fl.onil).1 = (0, st, [] ++ stgK [f, g, h] 3, [] ++ [(((som [f, g, h]).getD 0 Fl.onil).1, tx st (lef g h))]) := (if_neg e3).trans (if_pos e4)
   have eR : paR st f g h = (0, st, stgK [f, g, h] 3, [((lef g h).1, tx st (lef g h))]) := (if_neg e3).trans (if_pos e4)
   rw [eI, eR, hy]
   exact ⟨rfl, fun _ => ⟨rfl, hasc, List.Perm.refl _⟩⟩
  ·by_cases e2 : Fl.mk f g h = 2
   ·have eI : paI st [] [] f g h ((som [f, g, h]).getD 0 Fl.onil).1 = (0, st, (if h = Fl.onil then [] else [] ++ [entF h 0]), []) := (if_neg e3).trans ((if_neg e4).trans (if_pos e2))
    have eR : paR st f g h = if h = Fl.onil then (0, st, [], []) else (0, st, [entF h 0], []) := (if_neg e3).trans ((if_neg e4).trans (if_pos e2))
    rw [eI, eR]
    by_cases hh : h = Fl.onil
    ·rw [if_pos hh, if_pos hh]; exact ⟨rfl, fun _ => ⟨rfl, hasc, List.Perm.refl _⟩⟩
    ·rw [if_neg hh, if_neg hh]; exact ⟨rfl, fun _ => ⟨rfl, hasc, List.Perm.refl _⟩⟩
   ·have eI : paI st [] [] f g h ((som [f, g, h]).getD 0 Fl.onil).1 = (0, st, (if g = Fl.onil then [] else [] ++ [entF g 0]), []) := (if_neg e3).trans ((if_neg e4).trans (if_neg e2))
    have eR : paR st f g h = if g = Fl.onil then (0, st, [], []) else (0, st, [entF g 0], []) := (if_neg e3).trans ((if_neg e4).trans (if_neg e2))
    rw [eI, eR]
    by_cases hh : g = Fl.onil
    ·rw [if_pos hh, if_pos hh]; exact ⟨rfl, fun _ => ⟨rfl, hasc, List.Perm.refl _⟩⟩
    ·rw [if_neg hh, if_neg hh]; exact ⟨rfl, fun _ => ⟨rfl, hasc, List.Perm.refl _⟩⟩
end Go.Proofs.YtcfnkndbhpdfnaaGreatDoor.Tm
