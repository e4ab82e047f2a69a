/- Proved: at every store and every three files FnExactMergePath returns true (MergePath answers as its specification, field by field; its answer owns its memory, behind another call too; no argument is changed). Its condition: the laid variables hold what the row says (the tied card FnExactMergePathCardSaid). -/
import Derived.Test.YtcfnkndbhpdfnaaGreatDoorTmSQ
import Derived.Test.YtcfnkndbhpdfnaaGreatDoorTie
import Derived.Test.YtcfnkndbhpdfnaaGreatDoorCards
import Derived.ChangeVars
import Derived.OpenVars
import Derived.LaidMore
import Derived.Lay
import Derived.SevenTiedAt
import Derived.Stop.Joined
import Derived.JoinedOf
namespace Go.Proofs.YtcfnkndbhpdfnaaGreatDoor.TsLaw
open Go.ChangeShapes Go.WideShapes Go.ChangeAt Go.RowKit
theorem shapeO {w : World} {base : Nat} {e : TypeId} {s : Nat} {v : Value} {n : Nat} {xs : List Value} (h : w.ownsRow base e s v n xs) : ∃ a c, v = .slice a n c := by
 rcases h.2 with ⟨h', h0'⟩ | ⟨g, c, cur, h', _⟩
 ·exact ⟨none, 0, by rw [h', h0']⟩
 ·exact ⟨_, _, h'⟩
theorem obMk {w : World} {base n c m : Nat} {a : Option Addr} (h : w.ownsRow base 50 3 (.slice a n c) n (ocells (mkO m n))) : OB w.heap.size w a (mkO m n) :=
 OB.of (c := c) (base := base) (by rw [mkO_length]; exact h)
structure T0 (B : Nat) (W0 W : World) : Prop where
 bel : Below B W0 W
 le : B <= W.heap.size
structure T1 (B : Nat) (W0 : World) (p : Nat) (W : World) : Prop where
 bel : Below B W0 W
 le : B <= W.heap.size
 var : Rf W p [.int .i64 0, .slice none 0 0, .slice none 0 0, .slice none 0 0]
 lo : B <= p
 hi : p < W.heap.size
theorem T0.step {B : Nat} {W0 W W' : World} (h : T0 B W0 W) (b : Below W.heap.size W W') : T0 B W0 W' := ⟨h.bel.trans (b.mono h.le), Nat.le_trans h.le b.size⟩
theorem T1.step {B p : Nat} {W0 W W' : World} (h : T1 B W0 p W) (b : Below W.heap.size W W') : T1 B W0 p W' := ⟨h.bel.trans (b.mono h.le), Nat.le_trans h.le b.size, h.var.below h.hi b, h.lo, Nat.lt_of_lt_of_le h.hi b.size⟩
theorem T0.var {B : Nat} {W0 W : World} (h : T0 B W0 W) : T1 B W0 W.heap.size (W.alloc (.cells #[.int .i64 0, .slice none 0 0, .slice none 0 0, .slice none 0 0] 31)) :=
 ⟨h.bel.alloc h.le _, by rw [World.size_alloc]; have := h.le; omega, Rf.new W #[.int .i64 0, .slice none 0 0, .slice none 0 0, .slice none 0 0] _, h.le, by rw [World.size_alloc]; omega⟩
theorem below_drewT {W : World} : Below W.heap.size W W.drew := (Below.refl _ _).drew
def RX (B : Nat) (W0 : World) (Z : Int × List Ob × List En.Ob × List Wk.Ob) (s : Value) (wx : World) : Prop :=
 ∃ (p lo hi : Nat) (sa ea ka : Option Addr) (sc ec kc : Nat), s = .pointer (some ⟨p, 0, none⟩) /\ Rs wx p [.int .i64 Z.1, .slice sa Z.2.1.length sc, .slice ea Z.2.2.1.length ec, .slice ka Z.2.2.2.length kc] /\ (B <= p /\ p < wx.heap.size /\ B <= lo /\ lo <= hi /\ hi <= wx.heap.size /\ (p < lo \/ hi <= p)) /\ wx.ownsRow lo 50 3 (.slice sa Z.2.1.length sc) Z.2.1.length (ocells Z.2.1) /\ (∀ j, (Value.slice sa Z.2.1.length sc).ownBlock = some j -> lo <= j /\ j < hi) /\ wx.ownsRow lo 86 4 (.slice ea Z.2.2.1.length ec) Z.2.2.1.length (En.ocells Z.2.2.1) /\ (∀ j, (Value.slice ea Z.2.2.1.length ec).ownBlock = some j -> lo <= j /\ j < hi) /\ wx.ownsRow lo 83 2 (.slice ka Z.2.2.2.length kc) Z.2.2.2.length (Wk.ocells Z.2.2.2) /\ (∀ j, (Value.slice ka Z.2.2.2.length kc).ownBlock = some j -> lo <= j /\ j < hi) /\ (∀ j, (Value.slice sa Z.2.1.length sc).ownBlock = some j -> (Value.slice ea Z.2.2.1.length ec).ownBlock ≠ some j) /\ (∀ j, (Value.slice sa Z.2.1.length sc).ownBlock = some j -> (Value.slice ka Z.2.2.2.length kc).ownBlock ≠ some j) /\ (∀ j, (Value.slice ea Z.2.2.1.length ec).ownBlock = some j -> (Value.slice ka Z.2.2.2.length kc).ownBlock ≠ some j) /\ Below B W0 wx
theorem RX.late {B : Nat} {W0 wc wm : World} {Z : Int × List Ob × List En.Ob × List Wk.Ob} {vS vE vW : Value} (h : T0 B W0 wc) (b : Below wc.heap.size wc wm) (oS : wm.ownsRow wc.heap.size 50 3 vS Z.2.1.length (ocells Z.2.1)) (oE : wm.ownsRow wc.heap.size 86 4 vE Z.2.2.1.length (En.ocells Z.2.2.1)) (oW : wm.ownsRow wc.heap.size 83 2 vW Z.2.2.2.length (Wk.ocells Z.2.2.2)) (d1 : ∀ j, vS.ownBlock = some j -> vE.ownBlock ≠ some j /\ vW.ownBlock ≠ some j) (d2 : ∀ j, vE.ownBlock = some j -> vW.ownBlock ≠ some j) :
  RX B W0 Z (.pointer (some ⟨wm.heap.size, 0, none⟩)) (wm.alloc (.cells #[.int .i64 Z.1, vS, vE, vW] 31)) := by
 obtain ⟨sa, sc, rfl⟩ := shapeO oS
 obtain ⟨ea, ec, rfl⟩ := shapeO oE
 obtain ⟨ka, kc, rfl⟩ := shapeO oW
 have z := b.size
 have zl := h.le
 exact ⟨wm.heap.size, wc.heap.size, wm.heap.size, sa, ea, ka, sc, ec, kc, rfl, Rs.new wm #[.int .i64 Z.1, .slice sa Z.2.1.length sc, .slice ea Z.2.2.1.length ec, .slice ka Z.2.2.2.length kc] _, ⟨by omega, by rw [World.size_alloc]; omega, zl, z, by rw [World.size_alloc]; omega, .inr (Nat.le_refl _)⟩, oS.alloc _, fun j hj => oS.lt j hj, oE.alloc _, fun j hj => oE.lt j hj, oW.alloc _, fun j hj => oW.lt j hj, fun j hj => (d1 j hj).1, fun j hj => (d1 j hj).2, d2, ((h.step b).bel).alloc (by omega) _⟩
theorem RX.early {B p : Nat} {W0 wc wm : World} {Z : Int × List Ob × List En.Ob × List Wk.Ob} {vS vE vW : Value} (h : T1 B W0 p wc) (b : Below wc.heap.size wc wm) (oS : wm.ownsRow wc.heap.size 50 3 vS Z.2.1.length (ocells Z.2.1)) (oE : wm.ownsRow wc.heap.size 86 4 vE Z.2.2.1.length (En.ocells Z.2.2.1)) (oW : wm.ownsRow wc.heap.size 83 2 vW Z.2.2.2.length (Wk.ocells Z.2.2.2)) (d1 : ∀ j, vS.ownBlock = some j -> vE.ownBlock ≠ some j /\ vW.ownBlock ≠ some j) (d2 : ∀ j, vE.ownBlock = some j -> vW.ownBlock ≠ some j) :
  RX B W0 Z (.pointer (some ⟨p, 0, none⟩)) ((((wm.setCell ⟨p, 0, none⟩ (.int .i64 Z.1)).setCell ⟨p, 1, none⟩ vS).setCell ⟨p, 2, none⟩ vE).setCell ⟨p, 3, none⟩ vW) := by
 obtain ⟨sa, sc, rfl⟩ := shapeO oS
 obtain ⟨ea, ec, rfl⟩ := shapeO oE
 obtain ⟨ka, kc, rfl⟩ := shapeO oW
 have z := b.size
 have zl := h.le
 have hp := h.hi
 have hlo := h.lo
 have hv := (h.step b).var
 have g := grownTrans (grownTrans (grownTrans (grownSet wm p 0 (.int .i64 Z.1)) (grownSet _ p 1 (.slice sa Z.2.1.length sc))) (grownSet _ p 2 (.slice ea Z.2.2.1.length ec))) (grownSet _ p 3 (.slice ka Z.2.2.2.length kc))
 have zg := g.size
 have RV := (((hv.set (o := 0) (by simp) (.int .i64 Z.1)).set (o := 1) (by simp) (.slice sa Z.2.1.length sc)).set (o := 2) (by simp) (.slice ea Z.2.2.1.length ec)).set (o := 3) (by simp) (.slice ka Z.2.2.2.length kc)
 exact ⟨p, wc.heap.size, wm.heap.size, sa, ea, ka, sc, ec, kc, rfl, RV.at_, ⟨hlo, by omega, zl, z, zg, .inl hp⟩, oS.kept g (blockCases _ _ fun j c1 c2 => by cases c2; have := (oS.lt _ c1).1; omega), fun j hj => oS.lt j hj, oE.kept g (blockCases _ _ fun j c1 c2 => by cases c2; have := (oE.lt _ c1).1; omega), fun j hj => oE.lt j hj, oW.kept g (blockCases _ _ fun j c1 c2 => by cases c2; have := (oW.lt _ c1).1; omega), fun j hj => oW.lt j hj, fun j hj => (d1 j hj).1, fun j hj => (d1 j hj).2, d2, ((((h.step b).bel.setCell (p := ⟨p, 0, none⟩) hlo _).setCell (p := ⟨p, 1, none⟩) hlo _).setCell (p := ⟨p, 2, none⟩) hlo _).setCell (p := ⟨p, 3, none⟩) hlo _⟩
theorem RX.bel {B : Nat} {W0 wx : World} {Z : Int × List Ob × List En.Ob × List Wk.Ob} {s : Value} (h : RX B W0 Z s wx) : Below B W0 wx := by
 obtain ⟨_, _, _, _, _, _, _, _, _, _, _, _, _, _, _, _, _, _, _, _, _, b⟩ := h
 exact b
theorem ownOne (b n cap : Nat) : ∀ j, (Value.slice (some ⟨b, 0, none⟩) n cap).ownBlock = some j -> b <= j /\ j < b + 1 := by
 intro j hj
 have e : b = j := by simpa [Value.ownBlock] using hj
 omega
set_option maxRecDepth 20000 in
set_option maxHeartbeats 16000000 in
theorem walk (a1 : Option Addr) (c1 : Nat) (l1o : List Ob) (f0 : ByteArray) (f1 : Int) (f2 g0 : ByteArray) (g1 : Int) (g2 h0 : ByteArray) (h1 : Int) (h2 : ByteArray) (w : World) (hOO : OB w.heap.size w a1 l1o) (hf1 : FitsO l1o) (n1 : l1o.length <= 9223372036854775807) (ff : f0.size <= 9223372036854775807 /\ f2.size <= 9223372036854775807) (fg : g0.size <= 9223372036854775807 /\ g2.size <= 9223372036854775807) (fh : h0.size <= 9223372036854775807 /\ h2.size <= 9223372036854775807) :
  Calls Tryz.prog 3 #[.slice a1 l1o.length c1, .agg #[.string f0, .int .i64 f1, .string f2], .agg #[.string g0, .int .i64 g1, .string g2], .agg #[.string h0, .int .i64 h1, .string h2]] w fun e w' => e = .returned (.bool true) /\ Below w.heap.size w w' := by
 have BB := Below.refl w.heap.size w
 have A1 := hOO
 clear hOO
 obtain ⟨Q1, hQ1⟩ : ∃ Q, leftO 1048576 l1o = Q := ⟨_, rfl⟩
 have HQ1 : Hid (leftO 1048576 l1o = Q1) := hQ1
 have hZ1 := fun W h => szObjectS a1 c1 l1o 1048576 W h hf1 n1 (by omega) (by omega)
 rw [hQ1] at hZ1
 obtain ⟨W0, hW0⟩ : ∃ W, ((w.alloc (.cells #[.string f0, .int .i64 f1, .string f2] 24)).alloc (.cells #[.string g0, .int .i64 g1, .string g2] 24)).alloc (.cells #[.string h0, .int .i64 h1, .string h2] 24) = W := ⟨_, rfl⟩
 obtain ⟨q, hq⟩ : ∃ q, w.heap.size = q := ⟨_, rfl⟩
 have e1 : (w.alloc (.cells #[.string f0, .int .i64 f1, .string f2] 24)).heap.size = q + 1 := by rw [<- hq]; simp
 have e2 : ((w.alloc (.cells #[.string f0, .int .i64 f1, .string f2] 24)).alloc (.cells #[.string g0, .int .i64 g1, .string g2] 24)).heap.size = q + 2 := by rw [<- hq]; simp
 have FW0 : Below w.heap.size w W0 := by rw [<- hW0]; exact (((Below.refl _ _).alloc (Nat.le_refl _) _).alloc (by simp) _).alloc (by simp <;> omega) _
 have zW0 : W0.heap.size = q + 3 := by rw [<- hW0, <- hq]; simp
 have RF : Rs W0 q [.string f0, .int .i64 f1, .string f2] := by rw [<- hW0, <- hq]; exact (Fr.ofAlloc (lo := 0) (hi := 0) _ _).rs ((Fr.ofAlloc (lo := 0) (hi := 0) _ _).rs (Rs.new w #[.string f0, .int .i64 f1, .string f2] _) (.inr (Nat.zero_le _))) (.inr (Nat.zero_le _))
 have RG : Rs W0 (q + 1) [.string g0, .int .i64 g1, .string g2] := by rw [<- hW0, <- e1]; exact (Fr.ofAlloc (lo := 0) (hi := 0) _ _).rs (Rs.new _ #[.string g0, .int .i64 g1, .string g2] _) (.inr (Nat.zero_le _))
 have RH : Rs W0 (q + 2) [.string h0, .int .i64 h1, .string h2] := by rw [<- hW0, <- e2]; exact Rs.new _ #[.string h0, .int .i64 h1, .string h2] _
 clear e1 e2
 have F0 : Fr w.heap.size w.heap.size w W0 := Fr.ofBelow FW0
 replace A1 := A1.fr F0 (.inl (by omega))
 replace BB := F0.below BB (by omega) (by omega)
 have SF0 := F0.size
 clear F0 FW0
 have cf0 := RF 0 _ rfl
 have cf1 := RF 1 _ rfl
 have cf2 := RF 2 _ rfl
 have cg0 := RG 0 _ rfl
 have cg1 := RG 1 _ rfl
 have cg2 := RG 2 _ rfl
 have ch0 := RH 0 _ rfl
 have ch1 := RH 1 _ rfl
 have ch2 := RH 2 _ rfl
 go_enter Tryz.func3, Tryz.ntmps3
 go_wp2_with fail
 refine (hZ1 _ (A1.mono (by omega))).mono ?_; rintro e w1 ⟨rfl, b⟩
 have F2 : Fr w.heap.size w.heap.size W0 w1 := Fr.ofBelow b
 replace A1 := A1.fr F2 (.inl (by omega))
 replace BB := F2.below BB (by omega) (by omega)
 replace RF := F2.rs RF (by omega)
 replace RG := F2.rs RG (by omega)
 replace RH := F2.rs RH (by omega)
 have SF2 := F2.size
 clear b F2
 clear cf0 cf1 cf2 cg0 cg1 cg2 ch0 ch1 ch2
 clear hW0
 by_cases hx1 : Q1 < 0
 ·go_wp2_with fail
  go_ret
  exact ⟨rfl, BB⟩
 have hq1a : 0 <= Q1 := by omega
 have hq1b : Q1 <= 1048576 := by have hb := leftO_bd (l := l1o) (n := 1048576) (by rw [HQ1.out]; exact hx1); rw [HQ1.out] at hb; have := Int.le_refl (1048576 : Int); omega
 have hx1' : ¬ leftO 1048576 l1o < 0 := by rw [hQ1]; exact hx1
 obtain ⟨hs1, l1⟩ := leftO_nums hx1' (by omega)
 clear hQ1
 have hZf := fun W => Fl.szFile (f0, f1, f2) Q1 W ff.1 ff.2 (by omega) (by omega)
 have hnf := fun h => Fl.left1_nums (n := Q1) (o := (f0, f1, f2)) h
 obtain ⟨N1, hN1⟩ : ∃ n, Fl.left1 Q1 (f0, f1, f2) = n := ⟨_, rfl⟩
 rw [hN1] at hZf hnf
 simp only [] at hZf hnf
 clear hN1
 have cf0 := RF 0 _ rfl
 have cf1 := RF 1 _ rfl
 have cf2 := RF 2 _ rfl
 have cg0 := RG 0 _ rfl
 have cg1 := RG 1 _ rfl
 have cg2 := RG 2 _ rfl
 have ch0 := RH 0 _ rfl
 have ch1 := RH 1 _ rfl
 have ch2 := RH 2 _ rfl
 go_wp2_with fail
 refine (hZf _).mono ?_; rintro e w3 ⟨rfl, b⟩
 have F4 : Fr w.heap.size w.heap.size w1 w3 := Fr.ofBelow b
 replace A1 := A1.fr F4 (.inl (by omega))
 replace BB := F4.below BB (by omega) (by omega)
 replace RF := F4.rs RF (by omega)
 replace RG := F4.rs RG (by omega)
 replace RH := F4.rs RH (by omega)
 have SF4 := F4.size
 clear b F4
 clear cf0 cf1 cf2 cg0 cg1 cg2 ch0 ch1 ch2
 by_cases hxf : N1 < 0
 ·go_wp2_with fail
  go_ret
  exact ⟨rfl, BB⟩
 obtain ⟨nf1, nf2, nf3⟩ := hnf (by omega)
 clear hZf hnf
 have hfb : 0 <= N1 /\ N1 <= 1048576 := ⟨by omega, by omega⟩
 have zf : f0.size <= 1048576 /\ f2.size <= 1048576 := ⟨by omega, by omega⟩
 clear nf1 nf2 nf3
 have hZg := fun W => Fl.szFile (g0, g1, g2) N1 W fg.1 fg.2 (by omega) (by omega)
 have hng := fun h => Fl.left1_nums (n := N1) (o := (g0, g1, g2)) h
 obtain ⟨N2, hN2⟩ : ∃ n, Fl.left1 N1 (g0, g1, g2) = n := ⟨_, rfl⟩
 rw [hN2] at hZg hng
 simp only [] at hZg hng
 clear hN2
 have cf0 := RF 0 _ rfl
 have cf1 := RF 1 _ rfl
 have cf2 := RF 2 _ rfl
 have cg0 := RG 0 _ rfl
 have cg1 := RG 1 _ rfl
 have cg2 := RG 2 _ rfl
 have ch0 := RH 0 _ rfl
 have ch1 := RH 1 _ rfl
 have ch2 := RH 2 _ rfl
 go_wp2_with fail
 refine (hZg _).mono ?_; rintro e w5 ⟨rfl, b⟩
 have F6 : Fr w.heap.size w.heap.size w3 w5 := Fr.ofBelow b
 replace A1 := A1.fr F6 (.inl (by omega))
 replace BB := F6.below BB (by omega) (by omega)
 replace RF := F6.rs RF (by omega)
 replace RG := F6.rs RG (by omega)
 replace RH := F6.rs RH (by omega)
 have SF6 := F6.size
 clear b F6
 clear cf0 cf1 cf2 cg0 cg1 cg2 ch0 ch1 ch2
 by_cases hxg : N2 < 0
 ·go_wp2_with fail
  go_ret
  exact ⟨rfl, BB⟩
 obtain ⟨ng1, ng2, ng3⟩ := hng (by omega)
 clear hZg hng
 have hgb : 0 <= N2 /\ N2 <= 1048576 := ⟨by omega, by omega⟩
 have zg : g0.size <= 1048576 /\ g2.size <= 1048576 := ⟨by omega, by omega⟩
 clear ng1 ng2 ng3
 have hZh := fun W => Fl.szFile (h0, h1, h2) N2 W fh.1 fh.2 (by omega) (by omega)
 have hnh := fun h => Fl.left1_nums (n := N2) (o := (h0, h1, h2)) h
 obtain ⟨N3, hN3⟩ : ∃ n, Fl.left1 N2 (h0, h1, h2) = n := ⟨_, rfl⟩
 rw [hN3] at hZh hnh
 simp only [] at hZh hnh
 clear hN3
 have cf0 := RF 0 _ rfl
 have cf1 := RF 1 _ rfl
 have cf2 := RF 2 _ rfl
 have cg0 := RG 0 _ rfl
 have cg1 := RG 1 _ rfl
 have cg2 := RG 2 _ rfl
 have ch0 := RH 0 _ rfl
 have ch1 := RH 1 _ rfl
 have ch2 := RH 2 _ rfl
 go_wp2_with fail
 refine (hZh _).mono ?_; rintro e w7 ⟨rfl, b⟩
 have F8 : Fr w.heap.size w.heap.size w5 w7 := Fr.ofBelow b
 replace A1 := A1.fr F8 (.inl (by omega))
 replace BB := F8.below BB (by omega) (by omega)
 replace RF := F8.rs RF (by omega)
 replace RG := F8.rs RG (by omega)
 replace RH := F8.rs RH (by omega)
 have SF8 := F8.size
 clear b F8
 clear cf0 cf1 cf2 cg0 cg1 cg2 ch0 ch1 ch2
 by_cases hxh : N3 < 0
 ·go_wp2_with fail
  go_ret
  exact ⟨rfl, BB⟩
 obtain ⟨nh1, nh2, nh3⟩ := hnh (by omega)
 clear hZh hnh
 have hhb : 0 <= N3 /\ N3 <= 1048576 := ⟨by omega, by omega⟩
 have zh : h0.size <= 1048576 /\ h2.size <= 1048576 := ⟨by omega, by omega⟩
 clear nh1 nh2 nh3
 have hsz : ∀ o ∈ [((f0, f1, f2) : Fl.Ob), (g0, g1, g2), (h0, h1, h2)], o.1.size <= 1048576 /\ o.2.2.size <= 1048576 := fun o ho => by
  simp only [List.mem_cons, List.not_mem_nil, or_false] at ho
  rcases ho with rfl | rfl | rfl <;> (constructor <;> (simp only []; omega))
 have hS := fun (gx cx : Nat) W y => Tm.specMergePath gx cx l1o f0 f2 g0 g2 h0 h2 f1 g1 h1 W y hs1 l1 hsz
 have hI := fun (gx cx : Nat) W y => Tm.implMP (some ⟨gx, 0, none⟩) cx l1o f0 f2 g0 g2 h0 h2 f1 g1 h1 W y hs1 l1 hsz
 have hZn := Tm.mpS_len (st := l1o) (f := (f0, f1, f2)) (g := (g0, g1, g2)) (h := (h0, h1, h2)) hs1 l1
 unfold Tm.MP at hS hI
 obtain ⟨Z, hZ⟩ : ∃ Z, Tm.mpS l1o (f0, f1, f2) (g0, g1, g2) (h0, h1, h2) = Z := ⟨_, rfl⟩
 rw [hZ] at hS hI hZn
 obtain ⟨r0, L1, L2, L3⟩ := Z
 simp only [] at hS hI hZn
 obtain ⟨hL1, hL2, hL3⟩ := hZn
 clear hZ hsz zf zg zh
 have hzq : q + 3 <= w7.heap.size := by omega
 have BD0 : T0 w7.heap.size w7 w7.drew := ⟨below_drewT, Nat.le_refl _⟩
 have BB0 : T1 w7.heap.size w7 w7.heap.size (w7.alloc (.cells #[.int .i64 0, .slice none 0 0, .slice none 0 0, .slice none 0 0] 31)).drew := (T0.var ⟨Below.refl _ _, Nat.le_refl _⟩).step below_drewT
 have hS9 : ∀ W, Below w7.heap.size w7 W -> (W.cell? ⟨q, 0, none⟩ = some (.string f0) /\ W.cell? ⟨q, 1, none⟩ = some (.int .i64 f1) /\ W.cell? ⟨q, 2, none⟩ = some (.string f2) /\ W.cell? ⟨q + 1, 0, none⟩ = some (.string g0) /\ W.cell? ⟨q + 1, 1, none⟩ = some (.int .i64 g1) /\ W.cell? ⟨q + 1, 2, none⟩ = some (.string g2) /\ W.cell? ⟨q + 2, 0, none⟩ = some (.string h0) /\ W.cell? ⟨q + 2, 1, none⟩ = some (.int .i64 h1) /\ W.cell? ⟨q + 2, 2, none⟩ = some (.string h2)) := fun W b => ⟨(b.cell (p := ⟨q, 0, none⟩) (by dsimp only; omega)).trans (RF 0 _ rfl), (b.cell (p := ⟨q, 1, none⟩) (by dsimp only; omega)).trans (RF 1 _ rfl), (b.cell (p := ⟨q, 2, none⟩) (by dsimp only; omega)).trans (RF 2 _ rfl), (b.cell (p := ⟨q + 1, 0, none⟩) (by dsimp only; omega)).trans (RG 0 _ rfl), (b.cell (p := ⟨q + 1, 1, none⟩) (by dsimp only; omega)).trans (RG 1 _ rfl), (b.cell (p := ⟨q + 1, 2, none⟩) (by dsimp only; omega)).trans (RG 2 _ rfl), (b.cell (p := ⟨q + 2, 0, none⟩) (by dsimp only; omega)).trans (RH 0 _ rfl), (b.cell (p := ⟨q + 2, 1, none⟩) (by dsimp only; omega)).trans (RH 1 _ rfl), (b.cell (p := ⟨q + 2, 2, none⟩) (by dsimp only; omega)).trans (RH 2 _ rfl)⟩
 have hTo := fun W (b : Below w7.heap.size w7 W) => toObjectS a1 c1 l1o W (((A1.mono (by omega : w.heap.size <= w7.heap.size)).below b).mono b.size) l1
 go_upto_region 14 with fail
 go_cut [10] from 37 to 46 (fun s wx => RX w7.heap.size w7 (r0, L1, L2, L3) s wx)
 case first =>
  go_region_held (fun w' => w'.cell? ⟨q, 0, none⟩ = some (.string f0) /\ w'.cell? ⟨q, 1, none⟩ = some (.int .i64 f1) /\ w'.cell? ⟨q, 2, none⟩ = some (.string f2) /\ w'.cell? ⟨q + 1, 0, none⟩ = some (.string g0) /\ w'.cell? ⟨q + 1, 1, none⟩ = some (.int .i64 g1) /\ w'.cell? ⟨q + 1, 2, none⟩ = some (.string g2) /\ w'.cell? ⟨q + 2, 0, none⟩ = some (.string h0) /\ w'.cell? ⟨q + 2, 1, none⟩ = some (.int .i64 h1) /\ w'.cell? ⟨q + 2, 2, none⟩ = some (.string h2)) (first | with_reducible exact hS9 _ BD0.bel | with_reducible exact hS9 _ BB0.bel | with_reducible exact hS9 _ ST0.bel | with_reducible exact hS9 _ ST1.bel | with_reducible exact hS9 _ ST0.var.bel | with_reducible exact hS9 _ SBd | with_reducible exact hS9 _ (SAl _) | with_reducible exact hS9 _ SFin | exact hS9 _ ST0.var.bel | exact hS9 _ SFin | exact hS9 _ (SAl _))
   (first
    | (go_at_call 7; (with_reducible refine (hTo w7.drew BD0.bel).mono ?_); rintro e wa ⟨rfl, ox, b⟩; simp only [World.size_drew] at ox; have ST0 := BD0.step b; have OXc := OB.of ox)
    | (go_at_call 7; (with_reducible refine (hTo (w7.alloc (.cells #[.int .i64 0, .slice none 0 0, .slice none 0 0, .slice none 0 0] 31)).drew BB0.bel).mono ?_); rintro e wa ⟨rfl, ox, b⟩; simp only [World.size_drew, World.size_alloc] at ox; have ST1 := BB0.step b; have OXc := OB.of ox)
    | (go_at_call 8; (with_reducible refine (Fl.toFile _ _ _ wa).mono ?_); rintro e wa ⟨rfl, b⟩; have ST1 := ST1.step b; have OXc := (OXc.below b).mono b.size)
    | (go_at_call 8; (with_reducible refine (Fl.toFile _ _ _ wa).mono ?_); rintro e wa ⟨rfl, b⟩; have ST0 := ST0.step b; have OXc := (OXc.below b).mono b.size)
    | (go_at_call 8; (with_reducible refine (Fl.toFile _ _ _ (wa.alloc (.cells #[.int .i64 0, .slice none 0 0, .slice none 0 0, .slice none 0 0] 31))).mono ?_); rintro e wa ⟨rfl, b⟩; have ST1 := ST0.var.step b; have OXc := (((OXc.below (allocBelow _ _)).mono (allocBelow _ _).size).below b).mono b.size)
    | (go_at_call 6; (with_reducible refine (hS _ _ wa OXc).mono ?_); rintro e wm ⟨vS, vE, vW, rfl, oS, oE, oW, d1, d2, bm⟩; obtain ⟨sa, sc, rfl⟩ := shapeO oS; obtain ⟨ea, ec, rfl⟩ := shapeO oE; obtain ⟨ka, kc, rfl⟩ := shapeO oW; have SBd := (ST1.step bm).bel; have SAl := (fun o => SBd.alloc (ST1.step bm).le o); have rZ := (ST1.step bm).var; have yy0 := rZ.at_ 0 _ rfl; have yy1 := rZ.at_ 1 _ rfl; have yy2 := rZ.at_ 2 _ rfl; have yy3 := rZ.at_ 3 _ rfl; have kk0 := rZ.fz 0; have kk1 := rZ.fz 1; have kk2 := rZ.fz 2; have kk3 := rZ.fz 3; have HX : Hid (RX _ _ (r0, L1, L2, L3) _ _) := RX.early ST1 bm oS oE oW d1 d2; have SFin := RX.bel HX.out)
    | (go_at_call 6; (with_reducible refine (hS _ _ wa OXc).mono ?_); rintro e wm ⟨vS, vE, vW, rfl, oS, oE, oW, d1, d2, bm⟩; obtain ⟨sa, sc, rfl⟩ := shapeO oS; obtain ⟨ea, ec, rfl⟩ := shapeO oE; obtain ⟨ka, kc, rfl⟩ := shapeO oW; have SBd := (ST0.step bm).bel; have SAl := (fun o => SBd.alloc (ST0.step bm).le o); have HX : Hid (RX _ _ (r0, L1, L2, L3) _ _) := RX.late ST0 bm oS oE oW d1 d2; have SFin := RX.bel HX.out)
    | (go_at_call 6; (with_reducible refine (hS _ _ (wa.alloc (.cells #[.int .i64 0, .slice none 0 0, .slice none 0 0, .slice none 0 0] 31)) ((OXc.below (allocBelow _ _)).mono (allocBelow _ _).size)).mono ?_); rintro e wm ⟨vS, vE, vW, rfl, oS, oE, oW, d1, d2, bm⟩; obtain ⟨sa, sc, rfl⟩ := shapeO oS; obtain ⟨ea, ec, rfl⟩ := shapeO oE; obtain ⟨ka, kc, rfl⟩ := shapeO oW; have SBd := (ST0.var.step bm).bel; have SAl := (fun o => SBd.alloc (ST0.var.step bm).le o); have rZ := (ST0.var.step bm).var; have yy0 := rZ.at_ 0 _ rfl; have yy1 := rZ.at_ 1 _ rfl; have yy2 := rZ.at_ 2 _ rfl; have yy3 := rZ.at_ 3 _ rfl; have kk0 := rZ.fz 0; have kk1 := rZ.fz 1; have kk2 := rZ.fz 2; have kk3 := rZ.fz 3; have HX : Hid (RX _ _ (r0, L1, L2, L3) _ _) := RX.early ST0.var bm oS oE oW d1 d2; have SFin := RX.bel HX.out))
  all_goals (go_wp2_with fail; go_meet; exact HX.out)
 case rest =>
 obtain ⟨pp, plo, phi, p1a, p2a, p3a, p1c, p2c, p3c, rfl, Rp, ⟨pz1, pz2, pz3, pz4, pz5, pz6⟩, p1, jp1, p2, jp2, p3, jp3, _, _, _, bp⟩ := hcut
 obtain ⟨w9, hw⟩ : ∃ W, wc = W := ⟨_, rfl⟩
 rw [hw] at Rp p1 p2 p3 pz2 pz5 bp ⊢
 clear hw BD0 BB0 hS9
 simp only [] at Rp p1 p2 p3 jp1 jp2 jp3
 have F10 : Fr w.heap.size w.heap.size w7 w9 := Fr.ofBelow bp
 replace A1 := A1.fr F10 (.inl (by omega))
 replace BB := F10.below BB (by omega) (by omega)
 replace RF := F10.rs RF (by omega)
 replace RG := F10.rs RG (by omega)
 replace RH := F10.rs RH (by omega)
 have SF10 := F10.size
 clear bp F10
 clear hS hTo
 go_wp2_with fail
 refine (toObjectS a1 c1 l1o _ (A1.mono (by omega)) l1).mono ?_; rintro e w11 ⟨rfl, X1, b⟩
 have jX1 : ∀ j, (Value.slice (some ⟨w9.heap.size, 0, none⟩) l1o.length l1o.length).ownBlock = some j -> w9.heap.size <= j /\ j < w11.heap.size := fun j hj => X1.lt j hj
 have zw11 : w9.heap.size < w11.heap.size := (jX1 _ rfl).2
 have F12 : Fr w.heap.size w.heap.size w9 w11 := Fr.ofBelow b
 replace A1 := A1.fr F12 (.inl (by omega))
 replace BB := F12.below BB (by omega) (by omega)
 replace RF := F12.rs RF (by omega)
 replace RG := F12.rs RG (by omega)
 replace RH := F12.rs RH (by omega)
 replace p1 := F12.own p1 (fun j hj => by have := jp1 j hj; omega)
 replace p2 := F12.own p2 (fun j hj => by have := jp2 j hj; omega)
 replace p3 := F12.own p3 (fun j hj => by have := jp3 j hj; omega)
 replace Rp := F12.rs Rp (by omega)
 have SF12 := F12.size
 clear b F12
 have BD0 : T0 w11.heap.size w11 w11.drew := ⟨below_drewT, Nat.le_refl _⟩
 have BB0 : T1 w11.heap.size w11 w11.heap.size (w11.alloc (.cells #[.int .i64 0, .slice none 0 0, .slice none 0 0, .slice none 0 0] 31)).drew := (T0.var ⟨Below.refl _ _, Nat.le_refl _⟩).step below_drewT
 have hS9 : ∀ W, Below w11.heap.size w11 W -> (W.cell? ⟨q, 0, none⟩ = some (.string f0) /\ W.cell? ⟨q, 1, none⟩ = some (.int .i64 f1) /\ W.cell? ⟨q, 2, none⟩ = some (.string f2) /\ W.cell? ⟨q + 1, 0, none⟩ = some (.string g0) /\ W.cell? ⟨q + 1, 1, none⟩ = some (.int .i64 g1) /\ W.cell? ⟨q + 1, 2, none⟩ = some (.string g2) /\ W.cell? ⟨q + 2, 0, none⟩ = some (.string h0) /\ W.cell? ⟨q + 2, 1, none⟩ = some (.int .i64 h1) /\ W.cell? ⟨q + 2, 2, none⟩ = some (.string h2)) := fun W b => ⟨(b.cell (p := ⟨q, 0, none⟩) (by dsimp only; omega)).trans (RF 0 _ rfl), (b.cell (p := ⟨q, 1, none⟩) (by dsimp only; omega)).trans (RF 1 _ rfl), (b.cell (p := ⟨q, 2, none⟩) (by dsimp only; omega)).trans (RF 2 _ rfl), (b.cell (p := ⟨q + 1, 0, none⟩) (by dsimp only; omega)).trans (RG 0 _ rfl), (b.cell (p := ⟨q + 1, 1, none⟩) (by dsimp only; omega)).trans (RG 1 _ rfl), (b.cell (p := ⟨q + 1, 2, none⟩) (by dsimp only; omega)).trans (RG 2 _ rfl), (b.cell (p := ⟨q + 2, 0, none⟩) (by dsimp only; omega)).trans (RH 0 _ rfl), (b.cell (p := ⟨q + 2, 1, none⟩) (by dsimp only; omega)).trans (RH 1 _ rfl), (b.cell (p := ⟨q + 2, 2, none⟩) (by dsimp only; omega)).trans (RH 2 _ rfl)⟩
 have OXq : OB w11.heap.size w11 _ l1o := OB.of X1
 have OXd : OB w11.drew.heap.size w11.drew _ l1o := (OXq.below below_drewT).mono below_drewT.size
 have OXb : OB (w11.alloc (.cells #[.int .i64 0, .slice none 0 0, .slice none 0 0, .slice none 0 0] 31)).drew.heap.size (w11.alloc (.cells #[.int .i64 0, .slice none 0 0, .slice none 0 0, .slice none 0 0] 31)).drew _ l1o := (((OXq.below (allocBelow _ _)).mono (allocBelow _ _).size).below below_drewT).mono below_drewT.size
 go_upto_region 16 with fail
 go_cut [12] from 48 to 56 (fun s wx => RX w11.heap.size w11 (r0, L1, L2, L3) s wx)
 case first =>
  go_region_held (fun w' => w'.cell? ⟨q, 0, none⟩ = some (.string f0) /\ w'.cell? ⟨q, 1, none⟩ = some (.int .i64 f1) /\ w'.cell? ⟨q, 2, none⟩ = some (.string f2) /\ w'.cell? ⟨q + 1, 0, none⟩ = some (.string g0) /\ w'.cell? ⟨q + 1, 1, none⟩ = some (.int .i64 g1) /\ w'.cell? ⟨q + 1, 2, none⟩ = some (.string g2) /\ w'.cell? ⟨q + 2, 0, none⟩ = some (.string h0) /\ w'.cell? ⟨q + 2, 1, none⟩ = some (.int .i64 h1) /\ w'.cell? ⟨q + 2, 2, none⟩ = some (.string h2)) (first | with_reducible exact hS9 _ BD0.bel | with_reducible exact hS9 _ BB0.bel | with_reducible exact hS9 _ ST0.bel | with_reducible exact hS9 _ ST1.bel | with_reducible exact hS9 _ ST0.var.bel | with_reducible exact hS9 _ SBd | with_reducible exact hS9 _ (SAl _) | with_reducible exact hS9 _ SFin | exact hS9 _ ST0.var.bel | exact hS9 _ SFin | exact hS9 _ (SAl _))
   (first
    | (go_at_call 8; (with_reducible refine (Fl.toFile _ _ _ wa).mono ?_); rintro e wa ⟨rfl, b⟩; have ST1 := ST1.step b; have OXc := (OXc.below b).mono b.size)
    | (go_at_call 8; (with_reducible refine (Fl.toFile _ _ _ wa).mono ?_); rintro e wa ⟨rfl, b⟩; have ST0 := ST0.step b; have OXc := (OXc.below b).mono b.size)
    | (go_at_call 8; (with_reducible refine (Fl.toFile _ _ _ (wa.alloc (.cells #[.int .i64 0, .slice none 0 0, .slice none 0 0, .slice none 0 0] 31))).mono ?_); rintro e wa ⟨rfl, b⟩; have ST1 := ST0.var.step b; have OXc := (((OXc.below (allocBelow _ _)).mono (allocBelow _ _).size).below b).mono b.size)
    | (go_at_call 8; (with_reducible refine (Fl.toFile _ _ _ w11.drew).mono ?_); rintro e wa ⟨rfl, b⟩; have ST0 := BD0.step b; have OXc := (OXd.below b).mono b.size)
    | (go_at_call 8; (with_reducible refine (Fl.toFile _ _ _ (w11.alloc (.cells #[.int .i64 0, .slice none 0 0, .slice none 0 0, .slice none 0 0] 31)).drew).mono ?_); rintro e wa ⟨rfl, b⟩; have ST1 := BB0.step b; have OXc := (OXb.below b).mono b.size)
    | (go_at_call 9; (with_reducible refine (hI _ _ wa OXc).mono ?_); rintro e wm ⟨vS, vE, vW, rfl, oS, oE, oW, d1, d2, bm⟩; obtain ⟨sa, sc, rfl⟩ := shapeO oS; obtain ⟨ea, ec, rfl⟩ := shapeO oE; obtain ⟨ka, kc, rfl⟩ := shapeO oW; have SBd := (ST1.step bm).bel; have SAl := (fun o => SBd.alloc (ST1.step bm).le o); have rZ := (ST1.step bm).var; have yy0 := rZ.at_ 0 _ rfl; have yy1 := rZ.at_ 1 _ rfl; have yy2 := rZ.at_ 2 _ rfl; have yy3 := rZ.at_ 3 _ rfl; have kk0 := rZ.fz 0; have kk1 := rZ.fz 1; have kk2 := rZ.fz 2; have kk3 := rZ.fz 3; have HX : Hid (RX _ _ (r0, L1, L2, L3) _ _) := RX.early ST1 bm oS oE oW d1 d2; have SFin := RX.bel HX.out)
    | (go_at_call 9; (with_reducible refine (hI _ _ wa OXc).mono ?_); rintro e wm ⟨vS, vE, vW, rfl, oS, oE, oW, d1, d2, bm⟩; obtain ⟨sa, sc, rfl⟩ := shapeO oS; obtain ⟨ea, ec, rfl⟩ := shapeO oE; obtain ⟨ka, kc, rfl⟩ := shapeO oW; have SBd := (ST0.step bm).bel; have SAl := (fun o => SBd.alloc (ST0.step bm).le o); have HX : Hid (RX _ _ (r0, L1, L2, L3) _ _) := RX.late ST0 bm oS oE oW d1 d2; have SFin := RX.bel HX.out)
    | (go_at_call 9; (with_reducible refine (hI _ _ (wa.alloc (.cells #[.int .i64 0, .slice none 0 0, .slice none 0 0, .slice none 0 0] 31)) ((OXc.below (allocBelow _ _)).mono (allocBelow _ _).size)).mono ?_); rintro e wm ⟨vS, vE, vW, rfl, oS, oE, oW, d1, d2, bm⟩; obtain ⟨sa, sc, rfl⟩ := shapeO oS; obtain ⟨ea, ec, rfl⟩ := shapeO oE; obtain ⟨ka, kc, rfl⟩ := shapeO oW; have SBd := (ST0.var.step bm).bel; have SAl := (fun o => SBd.alloc (ST0.var.step bm).le o); have rZ := (ST0.var.step bm).var; have yy0 := rZ.at_ 0 _ rfl; have yy1 := rZ.at_ 1 _ rfl; have yy2 := rZ.at_ 2 _ rfl; have yy3 := rZ.at_ 3 _ rfl; have kk0 := rZ.fz 0; have kk1 := rZ.fz 1; have kk2 := rZ.fz 2; have kk3 := rZ.fz 3; have HX : Hid (RX _ _ (r0, L1, L2, L3) _ _) := RX.early ST0.var bm oS oE oW d1 d2; have SFin := RX.bel HX.out))
  all_goals (go_wp2_with fail; go_meet; exact HX.out)
 case rest =>
 obtain ⟨qp, qlo, qhi, q1a, q2a, q3a, q1c, q2c, q3c, rfl, Rq, ⟨qz1, qz2, qz3, qz4, qz5, qz6⟩, q1, jq1, q2, jq2, q3, jq3, ddq12, ddq13, ddq23, bq⟩ := hcut
 obtain ⟨w13, hw⟩ : ∃ W, wc = W := ⟨_, rfl⟩
 rw [hw] at Rq q1 q2 q3 qz2 qz5 bq ⊢
 clear hw BD0 BB0 hS9
 simp only [] at Rq q1 q2 q3 jq1 jq2 jq3 ddq12 ddq13 ddq23
 have F14 : Fr w.heap.size w.heap.size w11 w13 := Fr.ofBelow bq
 replace A1 := A1.fr F14 (.inl (by omega))
 replace BB := F14.below BB (by omega) (by omega)
 replace RF := F14.rs RF (by omega)
 replace RG := F14.rs RG (by omega)
 replace RH := F14.rs RH (by omega)
 replace p1 := F14.own p1 (fun j hj => by have := jp1 j hj; omega)
 replace p2 := F14.own p2 (fun j hj => by have := jp2 j hj; omega)
 replace p3 := F14.own p3 (fun j hj => by have := jp3 j hj; omega)
 replace Rp := F14.rs Rp (by omega)
 replace X1 := F14.own X1 (fun j hj => by have := jX1 j hj; omega)
 have SF14 := F14.size
 clear bq F14
 clear OXq OXd OXb
 have dp0 := Rp 0 _ rfl
 have dp1 := Rp 1 _ rfl
 have dp2 := Rp 2 _ rfl
 have dp3 := Rp 3 _ rfl
 have dq0 := Rq 0 _ rfl
 have dq1 := Rq 1 _ rfl
 have dq2 := Rq 2 _ rfl
 have dq3 := Rq 3 _ rfl
 go_wp2_with fail
 refine (TsR.eqR _ _ _ _ _ L1 _ _ _ _ L2 _ _ _ _ L3 _ (OB.of q1) (OB.of p1) (by omega) (En.OB.of q2) (En.OB.of p2) (by omega) (Wk.OB.of q3) (Wk.OB.of p3) (by omega)).mono ?_; rintro e w15 ⟨rfl, b⟩
 have F16 : Fr w.heap.size w.heap.size w13 w15 := Fr.ofBelow b
 replace A1 := A1.fr F16 (.inl (by omega))
 replace BB := F16.below BB (by omega) (by omega)
 replace RF := F16.rs RF (by omega)
 replace RG := F16.rs RG (by omega)
 replace RH := F16.rs RH (by omega)
 replace p1 := F16.own p1 (fun j hj => by have := jp1 j hj; omega)
 replace p2 := F16.own p2 (fun j hj => by have := jp2 j hj; omega)
 replace p3 := F16.own p3 (fun j hj => by have := jp3 j hj; omega)
 replace Rp := F16.rs Rp (by omega)
 replace X1 := F16.own X1 (fun j hj => by have := jX1 j hj; omega)
 replace q1 := F16.own q1 (fun j hj => by have := jq1 j hj; omega)
 replace q2 := F16.own q2 (fun j hj => by have := jq2 j hj; omega)
 replace q3 := F16.own q3 (fun j hj => by have := jq3 j hj; omega)
 replace Rq := F16.rs Rq (by omega)
 have SF16 := F16.size
 clear b F16
 clear dp0 dp1 dp2 dp3
 clear dq0 dq1 dq2 dq3
 go_wp2_with fail
 refine (toObjectS a1 c1 l1o _ (A1.mono (by omega)) l1).mono ?_; rintro e w17 ⟨rfl, y, b⟩
 have jy : ∀ j, (Value.slice (some ⟨w15.heap.size, 0, none⟩) l1o.length l1o.length).ownBlock = some j -> w15.heap.size <= j /\ j < w17.heap.size := fun j hj => y.lt j hj
 have zw17 : w15.heap.size < w17.heap.size := (jy _ rfl).2
 have F18 : Fr w.heap.size w.heap.size w15 w17 := Fr.ofBelow b
 replace A1 := A1.fr F18 (.inl (by omega))
 replace BB := F18.below BB (by omega) (by omega)
 replace RF := F18.rs RF (by omega)
 replace RG := F18.rs RG (by omega)
 replace RH := F18.rs RH (by omega)
 replace p1 := F18.own p1 (fun j hj => by have := jp1 j hj; omega)
 replace p2 := F18.own p2 (fun j hj => by have := jp2 j hj; omega)
 replace p3 := F18.own p3 (fun j hj => by have := jp3 j hj; omega)
 replace Rp := F18.rs Rp (by omega)
 replace X1 := F18.own X1 (fun j hj => by have := jX1 j hj; omega)
 replace q1 := F18.own q1 (fun j hj => by have := jq1 j hj; omega)
 replace q2 := F18.own q2 (fun j hj => by have := jq2 j hj; omega)
 replace q3 := F18.own q3 (fun j hj => by have := jq3 j hj; omega)
 replace Rq := F18.rs Rq (by omega)
 have SF18 := F18.size
 clear b F18
 go_wp2_with fail
 refine (eqObjectS _ _ _ _ l1o _ (OB.of X1) (OB.of y) l1).mono ?_; rintro e w19 ⟨rfl, b⟩
 clear y jy
 have F20 : Fr w.heap.size w.heap.size w17 w19 := Fr.ofBelow b
 replace A1 := A1.fr F20 (.inl (by omega))
 replace BB := F20.below BB (by omega) (by omega)
 replace RF := F20.rs RF (by omega)
 replace RG := F20.rs RG (by omega)
 replace RH := F20.rs RH (by omega)
 replace p1 := F20.own p1 (fun j hj => by have := jp1 j hj; omega)
 replace p2 := F20.own p2 (fun j hj => by have := jp2 j hj; omega)
 replace p3 := F20.own p3 (fun j hj => by have := jp3 j hj; omega)
 replace Rp := F20.rs Rp (by omega)
 replace X1 := F20.own X1 (fun j hj => by have := jX1 j hj; omega)
 replace q1 := F20.own q1 (fun j hj => by have := jq1 j hj; omega)
 replace q2 := F20.own q2 (fun j hj => by have := jq2 j hj; omega)
 replace q3 := F20.own q3 (fun j hj => by have := jq3 j hj; omega)
 replace Rq := F20.rs Rq (by omega)
 have SF20 := F20.size
 clear b F20
 go_wp2_with fail
 refine (markObjectS _ _ _ _ (1) _ _ (by omega) (by omega) X1).mono ?_; rintro e w21 ⟨rfl, o, gg⟩
 have F22 : Fr w9.heap.size (w9.heap.size + 1) w19 w21 := Fr.ofGrown gg (ownOne _ _ _)
 clear o gg X1
 replace A1 := A1.fr F22 (.inl (by omega))
 replace BB := F22.below BB (by omega) (by omega)
 replace RF := F22.rs RF (by omega)
 replace RG := F22.rs RG (by omega)
 replace RH := F22.rs RH (by omega)
 replace p1 := F22.own p1 (fun j hj => by have := jp1 j hj; omega)
 replace p2 := F22.own p2 (fun j hj => by have := jp2 j hj; omega)
 replace p3 := F22.own p3 (fun j hj => by have := jp3 j hj; omega)
 replace Rp := F22.rs Rp (by omega)
 replace q1 := F22.own q1 (fun j hj => by have := jq1 j hj; omega)
 replace q2 := F22.own q2 (fun j hj => by have := jq2 j hj; omega)
 replace q3 := F22.own q3 (fun j hj => by have := jq3 j hj; omega)
 replace Rq := F22.rs Rq (by omega)
 have SF22 := F22.size
 clear F22 jX1
 obtain ⟨K, hK⟩ : ∃ K : Int, ((1 + 3 * l1o.length : Nat) : Int) = K := ⟨_, rfl⟩
 have hK0 : ¬ K < 0 := by omega
 rw [hK]
 clear hK
 have dp0 := Rp 0 _ rfl
 have dp1 := Rp 1 _ rfl
 have dp2 := Rp 2 _ rfl
 have dp3 := Rp 3 _ rfl
 have dq0 := Rq 0 _ rfl
 have dq1 := Rq 1 _ rfl
 have dq2 := Rq 2 _ rfl
 have dq3 := Rq 3 _ rfl
 go_wp2_with fail
 refine (TsR.eqR _ _ _ _ _ L1 _ _ _ _ L2 _ _ _ _ L3 _ (OB.of q1) (OB.of p1) (by omega) (En.OB.of q2) (En.OB.of p2) (by omega) (Wk.OB.of q3) (Wk.OB.of p3) (by omega)).mono ?_; rintro e w23 ⟨rfl, b⟩
 have F24 : Fr w.heap.size w.heap.size w21 w23 := Fr.ofBelow b
 replace A1 := A1.fr F24 (.inl (by omega))
 replace BB := F24.below BB (by omega) (by omega)
 replace RF := F24.rs RF (by omega)
 replace RG := F24.rs RG (by omega)
 replace RH := F24.rs RH (by omega)
 replace p1 := F24.own p1 (fun j hj => by have := jp1 j hj; omega)
 replace p2 := F24.own p2 (fun j hj => by have := jp2 j hj; omega)
 replace p3 := F24.own p3 (fun j hj => by have := jp3 j hj; omega)
 replace Rp := F24.rs Rp (by omega)
 replace q1 := F24.own q1 (fun j hj => by have := jq1 j hj; omega)
 replace q2 := F24.own q2 (fun j hj => by have := jq2 j hj; omega)
 replace q3 := F24.own q3 (fun j hj => by have := jq3 j hj; omega)
 replace Rq := F24.rs Rq (by omega)
 have SF24 := F24.size
 clear b F24
 clear dp0 dp1 dp2 dp3
 clear dq0 dq1 dq2 dq3
 have dq0 := Rq 0 _ rfl
 have dq1 := Rq 1 _ rfl
 have dq2 := Rq 2 _ rfl
 have dq3 := Rq 3 _ rfl
 go_wp2_with fail
 refine (TsR.markR qlo qhi _ _ L1.length _ _ _ L2.length _ _ _ L3.length _ _ 1 _ (by omega) (by omega) q1 (fun j hj => (jq1 j hj).2) q2 (fun j hj => (jq2 j hj).2) q3 (fun j hj => (jq3 j hj).2) ddq12 ddq13 ddq23).mono ?_; rintro e w25 ⟨rfl, Q1, Q2, Q3, FM⟩
 clear q1 q2 q3
 clear dq0 dq1 dq2 dq3
 replace A1 := A1.fr FM (.inl (by omega))
 replace BB := FM.below BB (by omega) (by omega)
 replace RF := FM.rs RF (by omega)
 replace RG := FM.rs RG (by omega)
 replace RH := FM.rs RH (by omega)
 replace p1 := FM.own p1 (fun j hj => by have := jp1 j hj; omega)
 replace p2 := FM.own p2 (fun j hj => by have := jp2 j hj; omega)
 replace p3 := FM.own p3 (fun j hj => by have := jp3 j hj; omega)
 replace Rp := FM.rs Rp (by omega)
 replace Rq := FM.rs Rq (by omega)
 have SFM := FM.size
 clear FM
 have jQ1 := jq1
 have jQ2 := jq2
 have jQ3 := jq3
 obtain ⟨M, hM⟩ : ∃ M : Int, ((1 + 3 * L1.length + 4 * L2.length + 2 * L3.length : Nat) : Int) = M := ⟨_, rfl⟩
 have hM0 : ¬ M < 0 := by omega
 have hMM : (M != M) = false := by simp
 rw [hM]
 have dq0 := Rq 0 _ rfl
 have dq1 := Rq 1 _ rfl
 have dq2 := Rq 2 _ rfl
 have dq3 := Rq 3 _ rfl
 go_wp2_with fail
 refine (TsR.heldR _ _ L1.length _ _ L2.length _ _ L3.length _ 1 _ (by omega) (by omega) (obMk Q1) (En.obMk Q2) (Wk.obMk Q3)).mono ?_; rintro e w26 ⟨rfl, b⟩
 rw [hM]
 clear dq0 dq1 dq2 dq3
 have F27 : Fr w.heap.size w.heap.size w25 w26 := Fr.ofBelow b
 replace A1 := A1.fr F27 (.inl (by omega))
 replace BB := F27.below BB (by omega) (by omega)
 replace RF := F27.rs RF (by omega)
 replace RG := F27.rs RG (by omega)
 replace RH := F27.rs RH (by omega)
 replace p1 := F27.own p1 (fun j hj => by have := jp1 j hj; omega)
 replace p2 := F27.own p2 (fun j hj => by have := jp2 j hj; omega)
 replace p3 := F27.own p3 (fun j hj => by have := jp3 j hj; omega)
 replace Rp := F27.rs Rp (by omega)
 replace Rq := F27.rs Rq (by omega)
 replace Q1 := F27.own Q1 (fun j hj => by have := jQ1 j hj; omega)
 replace Q2 := F27.own Q2 (fun j hj => by have := jQ2 j hj; omega)
 replace Q3 := F27.own Q3 (fun j hj => by have := jQ3 j hj; omega)
 have SF27 := F27.size
 clear b F27
 have BD0 : T0 w26.heap.size w26 w26.drew := ⟨below_drewT, Nat.le_refl _⟩
 have BB0 : T1 w26.heap.size w26 w26.heap.size (w26.alloc (.cells #[.int .i64 0, .slice none 0 0, .slice none 0 0, .slice none 0 0] 31)).drew := (T0.var ⟨Below.refl _ _, Nat.le_refl _⟩).step below_drewT
 have hS9 : ∀ W, Below w26.heap.size w26 W -> (W.cell? ⟨q, 0, none⟩ = some (.string f0) /\ W.cell? ⟨q, 1, none⟩ = some (.int .i64 f1) /\ W.cell? ⟨q, 2, none⟩ = some (.string f2) /\ W.cell? ⟨q + 1, 0, none⟩ = some (.string g0) /\ W.cell? ⟨q + 1, 1, none⟩ = some (.int .i64 g1) /\ W.cell? ⟨q + 1, 2, none⟩ = some (.string g2) /\ W.cell? ⟨q + 2, 0, none⟩ = some (.string h0) /\ W.cell? ⟨q + 2, 1, none⟩ = some (.int .i64 h1) /\ W.cell? ⟨q + 2, 2, none⟩ = some (.string h2)) := fun W b => ⟨(b.cell (p := ⟨q, 0, none⟩) (by dsimp only; omega)).trans (RF 0 _ rfl), (b.cell (p := ⟨q, 1, none⟩) (by dsimp only; omega)).trans (RF 1 _ rfl), (b.cell (p := ⟨q, 2, none⟩) (by dsimp only; omega)).trans (RF 2 _ rfl), (b.cell (p := ⟨q + 1, 0, none⟩) (by dsimp only; omega)).trans (RG 0 _ rfl), (b.cell (p := ⟨q + 1, 1, none⟩) (by dsimp only; omega)).trans (RG 1 _ rfl), (b.cell (p := ⟨q + 1, 2, none⟩) (by dsimp only; omega)).trans (RG 2 _ rfl), (b.cell (p := ⟨q + 2, 0, none⟩) (by dsimp only; omega)).trans (RH 0 _ rfl), (b.cell (p := ⟨q + 2, 1, none⟩) (by dsimp only; omega)).trans (RH 1 _ rfl), (b.cell (p := ⟨q + 2, 2, none⟩) (by dsimp only; omega)).trans (RH 2 _ rfl)⟩
 have hTo := fun W (b : Below w26.heap.size w26 W) => toObjectS a1 c1 l1o W (((A1.mono (by omega : w.heap.size <= w26.heap.size)).below b).mono b.size) l1
 go_upto_region 33 with fail
 go_cut [16] from 87 to 96 (fun s wx => RX w26.heap.size w26 (r0, L1, L2, L3) s wx)
 case first =>
  go_region_held (fun w' => w'.cell? ⟨q, 0, none⟩ = some (.string f0) /\ w'.cell? ⟨q, 1, none⟩ = some (.int .i64 f1) /\ w'.cell? ⟨q, 2, none⟩ = some (.string f2) /\ w'.cell? ⟨q + 1, 0, none⟩ = some (.string g0) /\ w'.cell? ⟨q + 1, 1, none⟩ = some (.int .i64 g1) /\ w'.cell? ⟨q + 1, 2, none⟩ = some (.string g2) /\ w'.cell? ⟨q + 2, 0, none⟩ = some (.string h0) /\ w'.cell? ⟨q + 2, 1, none⟩ = some (.int .i64 h1) /\ w'.cell? ⟨q + 2, 2, none⟩ = some (.string h2)) (first | with_reducible exact hS9 _ BD0.bel | with_reducible exact hS9 _ BB0.bel | with_reducible exact hS9 _ ST0.bel | with_reducible exact hS9 _ ST1.bel | with_reducible exact hS9 _ ST0.var.bel | with_reducible exact hS9 _ SBd | with_reducible exact hS9 _ (SAl _) | with_reducible exact hS9 _ SFin | exact hS9 _ ST0.var.bel | exact hS9 _ SFin | exact hS9 _ (SAl _))
   (first
    | (go_at_call 7; (with_reducible refine (hTo w26.drew BD0.bel).mono ?_); rintro e wa ⟨rfl, ox, b⟩; simp only [World.size_drew] at ox; have ST0 := BD0.step b; have OXc := OB.of ox)
    | (go_at_call 7; (with_reducible refine (hTo (w26.alloc (.cells #[.int .i64 0, .slice none 0 0, .slice none 0 0, .slice none 0 0] 31)).drew BB0.bel).mono ?_); rintro e wa ⟨rfl, ox, b⟩; simp only [World.size_drew, World.size_alloc] at ox; have ST1 := BB0.step b; have OXc := OB.of ox)
    | (go_at_call 8; (with_reducible refine (Fl.toFile _ _ _ wa).mono ?_); rintro e wa ⟨rfl, b⟩; have ST1 := ST1.step b; have OXc := (OXc.below b).mono b.size)
    | (go_at_call 8; (with_reducible refine (Fl.toFile _ _ _ wa).mono ?_); rintro e wa ⟨rfl, b⟩; have ST0 := ST0.step b; have OXc := (OXc.below b).mono b.size)
    | (go_at_call 8; (with_reducible refine (Fl.toFile _ _ _ (wa.alloc (.cells #[.int .i64 0, .slice none 0 0, .slice none 0 0, .slice none 0 0] 31))).mono ?_); rintro e wa ⟨rfl, b⟩; have ST1 := ST0.var.step b; have OXc := (((OXc.below (allocBelow _ _)).mono (allocBelow _ _).size).below b).mono b.size)
    | (go_at_call 9; (with_reducible refine (hI _ _ wa OXc).mono ?_); rintro e wm ⟨vS, vE, vW, rfl, oS, oE, oW, d1, d2, bm⟩; obtain ⟨sa, sc, rfl⟩ := shapeO oS; obtain ⟨ea, ec, rfl⟩ := shapeO oE; obtain ⟨ka, kc, rfl⟩ := shapeO oW; have SBd := (ST1.step bm).bel; have SAl := (fun o => SBd.alloc (ST1.step bm).le o); have rZ := (ST1.step bm).var; have yy0 := rZ.at_ 0 _ rfl; have yy1 := rZ.at_ 1 _ rfl; have yy2 := rZ.at_ 2 _ rfl; have yy3 := rZ.at_ 3 _ rfl; have kk0 := rZ.fz 0; have kk1 := rZ.fz 1; have kk2 := rZ.fz 2; have kk3 := rZ.fz 3; have HX : Hid (RX _ _ (r0, L1, L2, L3) _ _) := RX.early ST1 bm oS oE oW d1 d2; have SFin := RX.bel HX.out)
    | (go_at_call 9; (with_reducible refine (hI _ _ wa OXc).mono ?_); rintro e wm ⟨vS, vE, vW, rfl, oS, oE, oW, d1, d2, bm⟩; obtain ⟨sa, sc, rfl⟩ := shapeO oS; obtain ⟨ea, ec, rfl⟩ := shapeO oE; obtain ⟨ka, kc, rfl⟩ := shapeO oW; have SBd := (ST0.step bm).bel; have SAl := (fun o => SBd.alloc (ST0.step bm).le o); have HX : Hid (RX _ _ (r0, L1, L2, L3) _ _) := RX.late ST0 bm oS oE oW d1 d2; have SFin := RX.bel HX.out)
    | (go_at_call 9; (with_reducible refine (hI _ _ (wa.alloc (.cells #[.int .i64 0, .slice none 0 0, .slice none 0 0, .slice none 0 0] 31)) ((OXc.below (allocBelow _ _)).mono (allocBelow _ _).size)).mono ?_); rintro e wm ⟨vS, vE, vW, rfl, oS, oE, oW, d1, d2, bm⟩; obtain ⟨sa, sc, rfl⟩ := shapeO oS; obtain ⟨ea, ec, rfl⟩ := shapeO oE; obtain ⟨ka, kc, rfl⟩ := shapeO oW; have SBd := (ST0.var.step bm).bel; have SAl := (fun o => SBd.alloc (ST0.var.step bm).le o); have rZ := (ST0.var.step bm).var; have yy0 := rZ.at_ 0 _ rfl; have yy1 := rZ.at_ 1 _ rfl; have yy2 := rZ.at_ 2 _ rfl; have yy3 := rZ.at_ 3 _ rfl; have kk0 := rZ.fz 0; have kk1 := rZ.fz 1; have kk2 := rZ.fz 2; have kk3 := rZ.fz 3; have HX : Hid (RX _ _ (r0, L1, L2, L3) _ _) := RX.early ST0.var bm oS oE oW d1 d2; have SFin := RX.bel HX.out))
  all_goals (go_wp2_with fail; go_meet; exact HX.out)
 case rest =>
 obtain ⟨sp, slo, shi, s1a, s2a, s3a, s1c, s2c, s3c, rfl, Rs, ⟨sz1, sz2, sz3, sz4, sz5, sz6⟩, s1, js1, s2, js2, s3, js3, _, _, _, bs⟩ := hcut
 obtain ⟨w28, hw⟩ : ∃ W, wc = W := ⟨_, rfl⟩
 rw [hw] at Rs s1 s2 s3 sz2 sz5 bs ⊢
 clear hw BD0 BB0 hS9
 simp only [] at Rs s1 s2 s3 js1 js2 js3
 have F29 : Fr w.heap.size w.heap.size w26 w28 := Fr.ofBelow bs
 replace A1 := A1.fr F29 (.inl (by omega))
 replace BB := F29.below BB (by omega) (by omega)
 replace RF := F29.rs RF (by omega)
 replace RG := F29.rs RG (by omega)
 replace RH := F29.rs RH (by omega)
 replace p1 := F29.own p1 (fun j hj => by have := jp1 j hj; omega)
 replace p2 := F29.own p2 (fun j hj => by have := jp2 j hj; omega)
 replace p3 := F29.own p3 (fun j hj => by have := jp3 j hj; omega)
 replace Rp := F29.rs Rp (by omega)
 replace Rq := F29.rs Rq (by omega)
 replace Q1 := F29.own Q1 (fun j hj => by have := jQ1 j hj; omega)
 replace Q2 := F29.own Q2 (fun j hj => by have := jQ2 j hj; omega)
 replace Q3 := F29.own Q3 (fun j hj => by have := jQ3 j hj; omega)
 have SF29 := F29.size
 clear bs F29
 clear hI hTo
 have dp0 := Rp 0 _ rfl
 have dp1 := Rp 1 _ rfl
 have dp2 := Rp 2 _ rfl
 have dp3 := Rp 3 _ rfl
 have ds0 := Rs 0 _ rfl
 have ds1 := Rs 1 _ rfl
 have ds2 := Rs 2 _ rfl
 have ds3 := Rs 3 _ rfl
 go_wp2_with fail
 refine (TsR.eqR _ _ _ _ _ L1 _ _ _ _ L2 _ _ _ _ L3 _ (OB.of s1) (OB.of p1) (by omega) (En.OB.of s2) (En.OB.of p2) (by omega) (Wk.OB.of s3) (Wk.OB.of p3) (by omega)).mono ?_; rintro e w30 ⟨rfl, b⟩
 have F31 : Fr w.heap.size w.heap.size w28 w30 := Fr.ofBelow b
 replace A1 := A1.fr F31 (.inl (by omega))
 replace BB := F31.below BB (by omega) (by omega)
 replace RF := F31.rs RF (by omega)
 replace RG := F31.rs RG (by omega)
 replace RH := F31.rs RH (by omega)
 replace p1 := F31.own p1 (fun j hj => by have := jp1 j hj; omega)
 replace p2 := F31.own p2 (fun j hj => by have := jp2 j hj; omega)
 replace p3 := F31.own p3 (fun j hj => by have := jp3 j hj; omega)
 replace Rp := F31.rs Rp (by omega)
 replace Rq := F31.rs Rq (by omega)
 replace Q1 := F31.own Q1 (fun j hj => by have := jQ1 j hj; omega)
 replace Q2 := F31.own Q2 (fun j hj => by have := jQ2 j hj; omega)
 replace Q3 := F31.own Q3 (fun j hj => by have := jQ3 j hj; omega)
 replace s1 := F31.own s1 (fun j hj => by have := js1 j hj; omega)
 replace s2 := F31.own s2 (fun j hj => by have := js2 j hj; omega)
 replace s3 := F31.own s3 (fun j hj => by have := js3 j hj; omega)
 replace Rs := F31.rs Rs (by omega)
 have SF31 := F31.size
 clear b F31
 clear dp0 dp1 dp2 dp3
 clear ds0 ds1 ds2 ds3
 have dq0 := Rq 0 _ rfl
 have dq1 := Rq 1 _ rfl
 have dq2 := Rq 2 _ rfl
 have dq3 := Rq 3 _ rfl
 go_wp2_with fail
 refine (TsR.heldR _ _ L1.length _ _ L2.length _ _ L3.length _ 1 _ (by omega) (by omega) (obMk Q1) (En.obMk Q2) (Wk.obMk Q3)).mono ?_; rintro e w32 ⟨rfl, b⟩
 rw [hM]
 clear dq0 dq1 dq2 dq3
 have F33 : Fr w.heap.size w.heap.size w30 w32 := Fr.ofBelow b
 replace A1 := A1.fr F33 (.inl (by omega))
 replace BB := F33.below BB (by omega) (by omega)
 replace RF := F33.rs RF (by omega)
 replace RG := F33.rs RG (by omega)
 replace RH := F33.rs RH (by omega)
 replace p1 := F33.own p1 (fun j hj => by have := jp1 j hj; omega)
 replace p2 := F33.own p2 (fun j hj => by have := jp2 j hj; omega)
 replace p3 := F33.own p3 (fun j hj => by have := jp3 j hj; omega)
 replace Rp := F33.rs Rp (by omega)
 replace Rq := F33.rs Rq (by omega)
 replace Q1 := F33.own Q1 (fun j hj => by have := jQ1 j hj; omega)
 replace Q2 := F33.own Q2 (fun j hj => by have := jQ2 j hj; omega)
 replace Q3 := F33.own Q3 (fun j hj => by have := jQ3 j hj; omega)
 replace s1 := F33.own s1 (fun j hj => by have := js1 j hj; omega)
 replace s2 := F33.own s2 (fun j hj => by have := js2 j hj; omega)
 replace s3 := F33.own s3 (fun j hj => by have := js3 j hj; omega)
 replace Rs := F33.rs Rs (by omega)
 have SF33 := F33.size
 clear b F33
 go_wp2_with fail
 go_ret
 exact ⟨rfl, BB⟩
set_option linter.unusedVariables false
theorem laidOut : laidOutB Tryz.prog = true := by kernel_rfl
theorem own : ownKnob Tryz.prog.godebug = none := by kernel_rfl
set_option maxRecDepth 100000 in
theorem lifted (os : Os) (started : os.Started) (H : Type) (enc : TypeId × Value -> H) :
  ReturnsInHanded {} Tryz.checked os 3 .any (fun w args => (Rows.fnExactMergePathSpec.pre enc Tryz.prog Tryz.f3 [] false w args /\ laidMetH Tryz.prog Rows.fnExactMergePathRow.laid w) /\ sizedMet enc Tryz.prog Tryz.f3 (OpenSpec.ofChange Rows.fnExactMergePathSpec) false w args)
   (Rows.fnExactMergePathSpec.post enc Tryz.prog Tryz.f3 false true false false) := by
 refine returnsInHanded_of_change_and (C := Tryz.checked) (X := fun w _ => laidMetH Tryz.prog Rows.fnExactMergePathRow.laid w) (fun _ _ _ hh h => h.of_heap hh) own started (by kernel_rfl) Tryz.func3
  (ChangeSpec.witness_shaped (enc := enc) (C := Tryz.checked) (os := os) (X := fun w _ => laidMetH Tryz.prog Rows.fnExactMergePathRow.laid w) false (World.laidAll Tryz.prog os Rows.fnExactMergePathRow.laid) #[.slice none 0 0, .agg #[.string ByteArray.empty, .int .i64 0, .string ByteArray.empty], .agg #[.string ByteArray.empty, .int .i64 0, .string ByteArray.empty], .agg #[.string ByteArray.empty, .int .i64 0, .string ByteArray.empty]] 8 (World.laidAll_os _ _ _) (World.shaped_of_ZipB (by kernel_rfl) (by kernel_rfl)) (by kernel_rfl) (by kernel_rfl) (by kernel_rfl) (by rw [MakeChecks.laidMetH_plain _ _ _ (by kernel_rfl)]; exact laidMet_laidAll _ (by kernel_rfl) (by kernel_rfl))) ?_
 intro W base args ds gs before hval0 hW _ _ hL _
 have hval : ∀ (j : Nat) t v, Tryz.f3.params[j]? = some t -> args[j]? = some v -> Value.okWide Tryz.prog W .any base t v := hval0
 have hW' := hW
 obtain ⟨p, q, hA0, hV, rfl, hfz, hnd⟩ := hW
 have hA : DataW.TrodAll enc Tryz.prog W 0 (fun _ => true) true Tryz.f3.params.toList args.toList ds p := hA0
 rw [Tryz.params3] at hA hval
 obtain ⟨v0, vs0, d0, ds0, p0, q0, hargs, rfl, rfl, h0, r0⟩ := trodAll_cons hA
 obtain ⟨v1, vs1, d1, ds1, p1, q1, rfl, rfl, rfl, h1, r1⟩ := trodAll_cons r0
 obtain ⟨v2, vs2, d2, ds2, p2, q2, rfl, rfl, rfl, h2, r2⟩ := trodAll_cons r1
 obtain ⟨v3, vs3, d3, ds3, p3, q3, rfl, rfl, rfl, h3, r3⟩ := trodAll_cons r2
 obtain ⟨rfl, rfl, rfl⟩ := trodAll_nil r3
 obtain rfl : args = #[v0, v1, v2, v3] := by cases args; simp_all
 obtain ⟨rfl, rfl⟩ := trodVars_none hV
 obtain ⟨a0, len0, cap0, rfl⟩ := okWide_slice Tryz.underlying22 (hval 0 22 v0 rfl rfl)
 have k0 := h0
 have lt0 : ∀ x ∈ p0, x.block < W.heap.size := by obtain ⟨m, hm⟩ := k0; exact DataW.trod_lt m _ _ _ hm
 obtain ⟨ss0, rfl, w0, ft0, n0⟩ := openOB h0
 obtain ⟨cs1, rfl, hcs1⟩ := okWide_struct Tryz.underlying24 (hval 1 24 v1 rfl rfl)
 have k1 := h1
 have lt1 : ∀ x ∈ p1, x.block < W.heap.size := by obtain ⟨m, hm⟩ := k1; exact DataW.trod_lt m _ _ _ hm
 obtain ⟨C1, hcc1, g1, n1⟩ : ∃ C : Fl.Ob, cs1.toList = [.string C.1, .int .i64 C.2.1, .string C.2.2] /\ C.1.size <= 9223372036854775807 /\ C.2.2.size <= 9223372036854775807 := by
  obtain ⟨m, hm⟩ := k1
  exact Fl.openF hm
 obtain ⟨x1, y1, z1⟩ := C1
 obtain rfl : cs1 = #[.string x1, .int .i64 y1, .string z1] := by
  cases cs1; simp_all
 obtain ⟨cs2, rfl, hcs2⟩ := okWide_struct Tryz.underlying24 (hval 2 24 v2 rfl rfl)
 have k2 := h2
 have lt2 : ∀ x ∈ p2, x.block < W.heap.size := by obtain ⟨m, hm⟩ := k2; exact DataW.trod_lt m _ _ _ hm
 obtain ⟨C2, hcc2, g2, n2⟩ : ∃ C : Fl.Ob, cs2.toList = [.string C.1, .int .i64 C.2.1, .string C.2.2] /\ C.1.size <= 9223372036854775807 /\ C.2.2.size <= 9223372036854775807 := by
  obtain ⟨m, hm⟩ := k2
  exact Fl.openF hm
 obtain ⟨x2, y2, z2⟩ := C2
 obtain rfl : cs2 = #[.string x2, .int .i64 y2, .string z2] := by
  cases cs2; simp_all
 obtain ⟨cs3, rfl, hcs3⟩ := okWide_struct Tryz.underlying24 (hval 3 24 v3 rfl rfl)
 have k3 := h3
 have lt3 : ∀ x ∈ p3, x.block < W.heap.size := by obtain ⟨m, hm⟩ := k3; exact DataW.trod_lt m _ _ _ hm
 obtain ⟨C3, hcc3, g3, n3⟩ : ∃ C : Fl.Ob, cs3.toList = [.string C.1, .int .i64 C.2.1, .string C.2.2] /\ C.1.size <= 9223372036854775807 /\ C.2.2.size <= 9223372036854775807 := by
  obtain ⟨m, hm⟩ := k3
  exact Fl.openF hm
 obtain ⟨x3, y3, z3⟩ := C3
 obtain rfl : cs3 = #[.string x3, .int .i64 y3, .string z3] := by
  cases cs3; simp_all
 clear hA0 hval0
 refine (walk a0 cap0 ss0 x1 y1 z1 x2 y2 z2 x3 y3 z3 W w0 ft0 n0 ⟨g1, n1⟩ ⟨g2, n2⟩ ⟨g3, n3⟩).mono fun e W' ⟨he, bel⟩ => ?_
 subst he
 exact ⟨_, rfl, _, _, _, [], _, [], hW', trodAll_mk1 (shut_bool Tryz.underlying4 _), (trodAll_cons_mk (Below.trod laidOut (by kernel_rfl) (of_decide_eq_true (by kernel_rfl)) k0 bel lt0) (trodAll_cons_mk (Below.trod laidOut (by kernel_rfl) (of_decide_eq_true (by kernel_rfl)) k1 bel lt1) (trodAll_cons_mk (Below.trod laidOut (by kernel_rfl) (of_decide_eq_true (by kernel_rfl)) k2 bel lt2) (trodAll_cons_mk (Below.trod laidOut (by kernel_rfl) (of_decide_eq_true (by kernel_rfl)) k3 bel lt3) trodAll_mk0)))), rfl, bel.frame _, fun h => by cases h⟩
theorem over : Rows.fnExactMergePathRow.holds Tryz.pinned (OpenSpec.ofChange Rows.fnExactMergePathSpec) :=
 OpenClaim.holds_of_wide 3 Tryz.f3 rfl rfl rfl rfl rfl rfl rfl ⟨rfl, rfl, rfl, rfl, rfl⟩ rfl rfl rfl rfl rfl (by kernel_rfl) Tryz.func3 (by kernel_rfl)
  (of_decide_eq_true (by kernel_rfl)) (by unfold Func.isWrapper; first | (rw [if_pos (by decide +kernel)]; kernel_rfl) | (rw [if_neg (by decide +kernel)]; exact ⟨rfl, rfl⟩))
  (fun os started H enc _ => lifted os started H enc)
theorem proved : Rows.FnExactMergePathCardSaid :=
 Claim7.holds_tied_plain_at .later [] [.data, .pinned] true _ false
  over (fun _ h => by cases h) (by kernel_rfl) (fun _ h => by cases h) fnExactMergePath_row_tie rfl ⟨rfl, rfl⟩ (by kernel_rfl) rfl
  (fun f fn hf hfn => by
   obtain rfl : f = 3 := Option.some.inj ((show Tryz.prog.funcNamed "loop.example/g00172/laws.FnExactMergePath" = some 3 by kernel_rfl).symm.trans hf) |>.symm
   obtain rfl : fn = Tryz.f3 := (Option.some.inj (Tryz.func3.symm.trans hfn)).symm
   exact ⟨by kernel_rfl, fun j t ht => by
    rw [Tryz.params3] at ht
    have hm : t ∈ [22, 24, 24, 24] := by simpa using Array.mem_of_getElem? ht
    have hall : ([22, 24, 24, 24].all fun u => !Tryz.prog.wantsStandIn u) = true := by kernel_rfl
    exact (show Tryz.prog.wantsStandIn t = false by simpa using List.all_eq_true.1 hall t hm)⟩)
  (by kernel_rfl)
end Go.Proofs.YtcfnkndbhpdfnaaGreatDoor.TsLaw
namespace Go.Proofs.YtcfnkndbhpdfnaaGreatDoor
theorem fnExactMergePath_proved : Rows.FnExactMergePathCardSaid := TsLaw.proved
end Go.Proofs.YtcfnkndbhpdfnaaGreatDoor
