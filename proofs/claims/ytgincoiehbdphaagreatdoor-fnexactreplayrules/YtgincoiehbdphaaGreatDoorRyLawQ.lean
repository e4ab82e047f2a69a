/- Proved: at every store, every index and every list of rules FnExactReplayRules returns true (ReplayRules answers as its specification, field by field; its answer owns its memory, behind another call too; no argument is changed). Its condition: the laid variables hold what the row says (the tied card FnExactReplayRulesCardSaid). -/
import Derived.Test.YtgincoiehbdphaaGreatDoorRyIQ
import Derived.Test.YtgincoiehbdphaaGreatDoorRySQ
import Derived.Test.YtgincoiehbdphaaGreatDoorTie
import Derived.Test.YtgincoiehbdphaaGreatDoorCards
import Derived.ChangeVars
import Derived.OpenVars
import Derived.LaidMore
import Derived.Lay
import Derived.SevenTiedAt
import Derived.Stop.Joined
import Derived.JoinedOf
namespace Go.Proofs.YtgincoiehbdphaaGreatDoor.RyLaw
open Go.Proofs.YtgincoiehbdphaaGreatDoor.No
open Go.ChangeShapes Go.WideShapes Go.ChangeAt Go.RowKit
theorem shapeO {w : World} {base : Nat} {e : TypeId} {s : Nat} {v : Value} {n : Nat} {xs : List Value} (h : w.ownsRow base e s v n xs) : ∃ a c, v = .slice a n c := by
 rcases h.2 with ⟨h', h0'⟩ | ⟨g, c, cur, h', _⟩
 ·exact ⟨none, 0, by rw [h', h0']⟩
 ·exact ⟨_, _, h'⟩
theorem obMk {w : World} {base n c m : Nat} {a : Option Addr} (h : w.ownsRow base 67 3 (.slice a n c) n (ocells (mkO m n))) : OB w.heap.size w a (mkO m n) :=
 OB.of (c := c) (base := base) (by rw [mkO_length]; exact h)
theorem leftO_len {l : List Ob} {n : Int} (h : ¬ leftO n l < 0) : leftO n l + l.length <= n := by
 have key : ∀ (l : List Ob) (n : Int), ¬ leftOF n l < 0 -> leftOF n l <= n := by
  intro l
  induction l with
  | nil => intro n _; exact Int.le_refl _
  | cons o t ih =>
   intro n hn
   by_cases hl : left1 n o < 0
   ·rw [leftOF_stop hl] at hn; omega
   ·rw [leftOF_go hl] at hn ⊢
    have := ih _ hn
    have := (left1_nums hl).1
    omega
 unfold leftO at h ⊢
 split at h
 ·omega
 ·rename_i h'
  rw [if_neg h']
  have := key l _ h
  omega
theorem leftE_len {l : List En.Ob} {n : Int} (h : ¬ En.leftO n l < 0) : En.leftO n l + l.length <= n := by
 have key : ∀ (l : List En.Ob) (n : Int), ¬ En.leftOF n l < 0 -> En.leftOF n l <= n := by
  intro l
  induction l with
  | nil => intro n _; exact Int.le_refl _
  | cons o t ih =>
   intro n hn
   by_cases hl : En.left1 n o < 0
   ·rw [En.leftOF_stop hl] at hn; omega
   ·rw [En.leftOF_go hl] at hn ⊢
    have := ih _ hn
    have := (En.left1_nums hl).1
    omega
 unfold En.leftO at h ⊢
 split at h
 ·omega
 ·rename_i h'
  rw [if_neg h']
  have := key l _ h
  omega
theorem leftU_len {l : List Ru.Ob} {n : Int} (h : ¬ Ru.leftO n l < 0) : Ru.leftO n l + l.length <= n := by
 have key : ∀ (l : List Ru.Ob) (n : Int), ¬ Ru.leftOF n l < 0 -> Ru.leftOF n l <= n := by
  intro l
  induction l with
  | nil => intro n _; exact Int.le_refl _
  | cons o t ih =>
   intro n hn
   by_cases hl : Ru.left1 n o < 0
   ·rw [Ru.leftOF_stop hl] at hn; omega
   ·rw [Ru.leftOF_go hl] at hn ⊢
    have := ih _ hn
    have := (Ru.left1_nums hl).1
    omega
 unfold Ru.leftO at h ⊢
 split at h
 ·omega
 ·rename_i h'
  rw [if_neg h']
  have := key l _ h
  omega
theorem tTa : (Tryz.prog.globals[3]?).map (·.type) = some 325 := by kernel_rfl
theorem tab_of {P : Program} {W : World} {name : String} {k : IntKind} {zs : List Int} {t e : TypeId} {n : Nat} {cs : Array Value} {fuel : Nat} {p : List MemPlace}
  (ht : P.underlying t = some (.array n e)) (he : P.underlying e = some (.int k)) (hce : P.cellsOf e = 1) (hct : P.cellsOf t = n)
  (hv : W.var? P name = some cs) (hd : DataW.trod (fun _ => ()) P W 0 (fun _ => true) false fuel t cs.toList = some (Lib.tabData k zs, p)) : Lib.TabIs P W name k zs := by
 unfold Lib.TabIs
 rw [hv, <- Lib.cells_of_tab ht he hce hct hd]
theorem of_laid {W : World} (h0 : laidMetH Tryz.prog Rows.fnExactReplayRulesRow.laid W) : TaG W := by
 rw [MakeChecks.laidMetH_plain _ _ _ (by kernel_rfl)] at h0
 have h : laidMet Tryz.prog [("math/bits.deBruijn32tab", Rows.laid_math_bits_deBruijn32tab), ("math/bits.deBruijn64tab", Rows.laid_math_bits_deBruijn64tab), ("internal/strconv.uint64pow10", Lib.tabData .u64 Lib.pow10Tab), ("unicode/utf8.acceptRanges", Rows.laid_unicode_utf8_acceptRanges), ("unicode/utf8.first", Rows.laid_unicode_utf8_first)] W := h0
 obtain ⟨ps, ⟨_, _, _, _, _, _, _, _, _, _, ⟨_, _, _, _, _, _, _, _, _, _, ⟨g1, t1, cs1, f1, p1, q1, hg1, ht1, hv1, hd1, _, _⟩, _⟩, _⟩, _, _⟩ := h
 obtain rfl := Option.some.inj (gTa.symm.trans hg1)
 obtain rfl := Option.some.inj (tTa.symm.trans ht1)
 exact tab_of Tryz.underlying325 Tryz.underlying247 (by kernel_rfl) (by kernel_rfl) hv1 hd1
theorem cellLtTa {W : World} (h : TaG W) : 3 < W.heap.size :=
 cellLt (h.cell gTa 0 (by decide))
theorem ownOne (b n cap : Nat) : ∀ j, (Value.slice (some ⟨b, 0, none⟩) n cap).ownBlock = some j -> b <= j /\ j < b + 1 := by
 intro j hj
 have e : b = j := by simpa [Value.ownBlock] using hj
 omega
set_option maxRecDepth 20000 in
set_option maxHeartbeats 4000000 in
theorem walk (a1 : Option Addr) (c1 : Nat) (l1o : List Ob) (a2 : Option Addr) (c2 : Nat) (l2o : List En.Ob) (a3 : Option Addr) (c3 : Nat) (l3o : List Ru.Ob) (w : World) (h1 : OB w.heap.size w a1 l1o) (hf1 : FitsO l1o) (n1 : l1o.length <= 9223372036854775807) (h2 : En.OB w.heap.size w a2 l2o) (hf2 : En.FitsO l2o) (n2 : l2o.length <= 9223372036854775807) (h3 : Ru.OB w.heap.size w a3 l3o) (hf3 : Ru.FitsO l3o) (n3 : l3o.length <= 9223372036854775807) (hT : TaG w) (hG : 3 < w.heap.size) :
  Calls Tryz.prog 4 #[.slice a1 l1o.length c1, .slice a2 l2o.length c2, .slice a3 l3o.length c3] w fun e w' => e = .returned (.bool true) /\ Below w.heap.size w w' := by
 have BB := Below.refl w.heap.size w
 have A1 := h1
 clear h1
 obtain ⟨Q1, hQ1⟩ : ∃ Q, leftO 1048576 l1o = Q := ⟨_, rfl⟩
 have HQ1 : Hid (leftO 1048576 l1o = Q1) := hQ1
 have hZ1 := fun W h => szObjectS a1 c1 l1o 1048576 W h hf1 n1 (by omega) (by omega)
 rw [hQ1] at hZ1
 by_cases hx1 : Q1 < 0
 ·clear hQ1
  go_enter Tryz.func4, Tryz.ntmps4
  go_wp2_with fail
  refine (hZ1 _ (A1.mono (by omega))).mono ?_; rintro e w1 ⟨rfl, b⟩
  have F2 : Fr w.heap.size w.heap.size w w1 := Fr.ofBelow b
  replace BB := F2.below BB (by omega) (by omega)
  replace A1 := A1.fr F2 (.inl (by omega))
  have SF2 := F2.size
  clear b F2
  go_wp2_with fail
  go_ret
  exact ⟨rfl, BB⟩
 have hq1a : 0 <= Q1 := by omega
 have hq1b : Q1 <= 1048576 := by have hb := leftO_bd (l := l1o) (n := 1048576) (by rw [HQ1.out]; exact hx1); rw [HQ1.out] at hb; have := Int.le_refl (1048576 : Int); omega
 have hx1' : ¬ leftO 1048576 l1o < 0 := by rw [hQ1]; exact hx1
 obtain ⟨hs1, l1⟩ := leftO_nums hx1' (by omega)
 clear hQ1
 have A2 := h2
 clear h2
 obtain ⟨Q2, hQ2⟩ : ∃ Q, En.leftO Q1 l2o = Q := ⟨_, rfl⟩
 have HQ2 : Hid (En.leftO Q1 l2o = Q2) := hQ2
 have hZ2 := fun W h => En.szEntryS a2 c2 l2o Q1 W h hf2 n2 hq1a hq1b
 rw [hQ2] at hZ2
 by_cases hx2 : Q2 < 0
 ·clear hQ2
  go_enter Tryz.func4, Tryz.ntmps4
  go_wp2_with fail
  refine (hZ1 _ (A1.mono (by omega))).mono ?_; rintro e w1 ⟨rfl, b⟩
  have F2 : Fr w.heap.size w.heap.size w w1 := Fr.ofBelow b
  replace BB := F2.below BB (by omega) (by omega)
  replace A1 := A1.fr F2 (.inl (by omega))
  replace A2 := A2.fr F2 (.inl (by omega))
  have SF2 := F2.size
  clear b F2
  go_wp2_with fail
  refine (hZ2 _ (A2.mono (by omega))).mono ?_; rintro e w3 ⟨rfl, b⟩
  have F4 : Fr w.heap.size w.heap.size w1 w3 := Fr.ofBelow b
  replace BB := F4.below BB (by omega) (by omega)
  replace A1 := A1.fr F4 (.inl (by omega))
  replace A2 := A2.fr F4 (.inl (by omega))
  have SF4 := F4.size
  clear b F4
  go_wp2_with fail
  go_ret
  exact ⟨rfl, BB⟩
 have hq2a : 0 <= Q2 := by omega
 have hq2b : Q2 <= 1048576 := by have hb := En.leftO_bd (l := l2o) (n := Q1) (by rw [HQ2.out]; exact hx2); rw [HQ2.out] at hb; have := hq1b; omega
 have hx2' : ¬ En.leftO Q1 l2o < 0 := by rw [hQ2]; exact hx2
 obtain ⟨hs2, l2⟩ := En.leftO_nums hx2' hq1b
 clear hQ2
 have A3 := h3
 clear h3
 obtain ⟨Q3, hQ3⟩ : ∃ Q, Ru.leftO Q2 l3o = Q := ⟨_, rfl⟩
 have HQ3 : Hid (Ru.leftO Q2 l3o = Q3) := hQ3
 have hZ3 := fun W h => Ru.szRuleS a3 c3 l3o Q2 W h hf3 n3 hq2a hq2b
 rw [hQ3] at hZ3
 by_cases hx3 : Q3 < 0
 ·clear hQ3
  go_enter Tryz.func4, Tryz.ntmps4
  go_wp2_with fail
  refine (hZ1 _ (A1.mono (by omega))).mono ?_; rintro e w1 ⟨rfl, b⟩
  have F2 : Fr w.heap.size w.heap.size w w1 := Fr.ofBelow b
  replace BB := F2.below BB (by omega) (by omega)
  replace A1 := A1.fr F2 (.inl (by omega))
  replace A2 := A2.fr F2 (.inl (by omega))
  replace A3 := A3.fr F2 (.inl (by omega))
  have SF2 := F2.size
  clear b F2
  go_wp2_with fail
  refine (hZ2 _ (A2.mono (by omega))).mono ?_; rintro e w3 ⟨rfl, b⟩
  have F4 : Fr w.heap.size w.heap.size w1 w3 := Fr.ofBelow b
  replace BB := F4.below BB (by omega) (by omega)
  replace A1 := A1.fr F4 (.inl (by omega))
  replace A2 := A2.fr F4 (.inl (by omega))
  replace A3 := A3.fr F4 (.inl (by omega))
  have SF4 := F4.size
  clear b F4
  go_wp2_with fail
  refine (hZ3 _ (A3.mono (by omega))).mono ?_; rintro e w5 ⟨rfl, b⟩
  have F6 : Fr w.heap.size w.heap.size w3 w5 := Fr.ofBelow b
  replace BB := F6.below BB (by omega) (by omega)
  replace A1 := A1.fr F6 (.inl (by omega))
  replace A2 := A2.fr F6 (.inl (by omega))
  replace A3 := A3.fr F6 (.inl (by omega))
  have SF6 := F6.size
  clear b F6
  go_wp2_with fail
  go_ret
  exact ⟨rfl, BB⟩
 have hq3a : 0 <= Q3 := by omega
 have hq3b : Q3 <= 1048576 := by have hb := Ru.leftO_bd (l := l3o) (n := Q2) (by rw [HQ3.out]; exact hx3); rw [HQ3.out] at hb; have := hq2b; omega
 have hx3' : ¬ Ru.leftO Q2 l3o < 0 := by rw [hQ3]; exact hx3
 obtain ⟨hs3, l3⟩ := Ru.leftO_nums hx3' hq2b
 clear hQ3
 have hsum : l1o.length + l2o.length + l3o.length <= 1048576 := by
  have y1 := leftO_len hx1'
  have y2 := leftE_len hx2'
  have y3 := leftU_len hx3'
  have z1 := HQ1.out
  have z2 := HQ2.out
  omega
 have hS : ∀ (g1 g2 g3 : Nat) W, OB W.heap.size W (some ⟨g1, 0, none⟩) l1o -> En.OB W.heap.size W (some ⟨g2, 0, none⟩) l2o -> Ru.OB W.heap.size W (some ⟨g3, 0, none⟩) l3o -> Calls Tryz.prog 18 #[.slice (some ⟨g1, 0, none⟩) l1o.length l1o.length, .slice (some ⟨g2, 0, none⟩) l2o.length l2o.length, .slice (some ⟨g3, 0, none⟩) l3o.length l3o.length] W fun e w' => Ry.RP (Ry.rrC l1o l2o l3o) (Ry.rrZ l1o l2o l3o) W e w' := fun g1 g2 g3 W h1 h2 h3 => Ry.specReplayRules g1 l1o.length l1o g2 l2o.length l2o g3 l3o.length l3o W h1 hs1 l1 h2 hs2 l2 h3 hs3 l3
 have hI : ∀ (g1 g2 g3 : Nat) W, OB W.heap.size W (some ⟨g1, 0, none⟩) l1o -> En.OB W.heap.size W (some ⟨g2, 0, none⟩) l2o -> Ru.OB W.heap.size W (some ⟨g3, 0, none⟩) l3o -> Below w.heap.size w W -> Calls Tryz.prog 21 #[.slice (some ⟨g1, 0, none⟩) l1o.length l1o.length, .slice (some ⟨g2, 0, none⟩) l2o.length l2o.length, .slice (some ⟨g3, 0, none⟩) l3o.length l3o.length] W fun e w' => Ry.RP (Ry.rrC l1o l2o l3o) (Ry.rrZ l1o l2o l3o) W e w' := fun g1 g2 g3 W h1 h2 h3 b => Ry.implReplayRules (some ⟨g1, 0, none⟩) l1o.length l1o (some ⟨g2, 0, none⟩) l2o.length l2o (some ⟨g3, 0, none⟩) l3o.length l3o W h1 hs1 l1 h2 hs2 l2 h3 hs3 l3 (hT.below b hG) (Nat.lt_of_lt_of_le hG b.size)
 clear hT hG
 have hZn := Ry.rr_len l1o l2o l3o hs2
 unfold Ry.RP at hS hI
 obtain ⟨r0, hr0⟩ : ∃ r, Ry.rrC l1o l2o l3o = r := ⟨_, rfl⟩
 obtain ⟨Z, hZ⟩ : ∃ Z, Ry.rrZ l1o l2o l3o = Z := ⟨_, rfl⟩
 rw [hr0, hZ] at hS hI
 rw [hZ] at hZn
 obtain ⟨r1, L2, L3⟩ := Z
 simp only [] at hS hI hZn
 obtain ⟨hL2, hL3⟩ := hZn
 clear hr0 hZ hx1' hx2' hx3'
 go_enter Tryz.func4, Tryz.ntmps4
 go_wp2_with fail
 refine (hZ1 _ (A1.mono (by omega))).mono ?_; rintro e w1 ⟨rfl, b⟩
 have F2 : Fr w.heap.size w.heap.size w w1 := Fr.ofBelow b
 replace BB := F2.below BB (by omega) (by omega)
 replace A1 := A1.fr F2 (.inl (by omega))
 replace A2 := A2.fr F2 (.inl (by omega))
 replace A3 := A3.fr F2 (.inl (by omega))
 have SF2 := F2.size
 clear b F2
 go_wp2_with fail
 refine (hZ2 _ (A2.mono (by omega))).mono ?_; rintro e w3 ⟨rfl, b⟩
 have F4 : Fr w.heap.size w.heap.size w1 w3 := Fr.ofBelow b
 replace BB := F4.below BB (by omega) (by omega)
 replace A1 := A1.fr F4 (.inl (by omega))
 replace A2 := A2.fr F4 (.inl (by omega))
 replace A3 := A3.fr F4 (.inl (by omega))
 have SF4 := F4.size
 clear b F4
 go_wp2_with fail
 refine (hZ3 _ (A3.mono (by omega))).mono ?_; rintro e w5 ⟨rfl, b⟩
 have F6 : Fr w.heap.size w.heap.size w3 w5 := Fr.ofBelow b
 replace BB := F6.below BB (by omega) (by omega)
 replace A1 := A1.fr F6 (.inl (by omega))
 replace A2 := A2.fr F6 (.inl (by omega))
 replace A3 := A3.fr F6 (.inl (by omega))
 have SF6 := F6.size
 clear b F6
 go_wp2_with fail
 refine (toObjectS a1 c1 l1o _ (A1.mono (by omega)) l1).mono ?_; rintro e w7 ⟨rfl, x1, b⟩
 have jx1 : ∀ j, (Value.slice (some ⟨w5.heap.size, 0, none⟩) l1o.length l1o.length).ownBlock = some j -> w5.heap.size <= j /\ j < w7.heap.size := fun j hj => x1.lt j hj
 have zw7 : w5.heap.size < w7.heap.size := (jx1 _ rfl).2
 have F8 : Fr w.heap.size w.heap.size w5 w7 := Fr.ofBelow b
 replace BB := F8.below BB (by omega) (by omega)
 replace A1 := A1.fr F8 (.inl (by omega))
 replace A2 := A2.fr F8 (.inl (by omega))
 replace A3 := A3.fr F8 (.inl (by omega))
 have SF8 := F8.size
 clear b F8
 go_wp2_with fail
 refine (En.toEntryS a2 c2 l2o _ (A2.mono (by omega)) l2).mono ?_; rintro e w9 ⟨rfl, x2, b⟩
 have jx2 : ∀ j, (Value.slice (some ⟨w7.heap.size, 0, none⟩) l2o.length l2o.length).ownBlock = some j -> w7.heap.size <= j /\ j < w9.heap.size := fun j hj => x2.lt j hj
 have zw9 : w7.heap.size < w9.heap.size := (jx2 _ rfl).2
 have F10 : Fr w.heap.size w.heap.size w7 w9 := Fr.ofBelow b
 replace BB := F10.below BB (by omega) (by omega)
 replace A1 := A1.fr F10 (.inl (by omega))
 replace A2 := A2.fr F10 (.inl (by omega))
 replace A3 := A3.fr F10 (.inl (by omega))
 replace x1 := F10.own x1 (fun j hj => by have := jx1 j hj; omega)
 have SF10 := F10.size
 clear b F10
 go_wp2_with fail
 refine (Ru.toRuleS a3 c3 l3o _ (A3.mono (by omega)) l3).mono ?_; rintro e w11 ⟨rfl, x3, b⟩
 have jx3 : ∀ j, (Value.slice (some ⟨w9.heap.size, 0, none⟩) l3o.length l3o.length).ownBlock = some j -> w9.heap.size <= j /\ j < w11.heap.size := fun j hj => x3.lt j hj
 have zw11 : w9.heap.size < w11.heap.size := (jx3 _ rfl).2
 have F12 : Fr w.heap.size w.heap.size w9 w11 := Fr.ofBelow b
 replace BB := F12.below BB (by omega) (by omega)
 replace A1 := A1.fr F12 (.inl (by omega))
 replace A2 := A2.fr F12 (.inl (by omega))
 replace A3 := A3.fr F12 (.inl (by omega))
 replace x1 := F12.own x1 (fun j hj => by have := jx1 j hj; omega)
 replace x2 := F12.own x2 (fun j hj => by have := jx2 j hj; omega)
 have SF12 := F12.size
 clear b F12
 go_wp2_with fail
 refine (hS _ _ _ _ (OB.of x1) (En.OB.of x2) (Ru.OB.of x3)).mono ?_; rintro e w13 ⟨vp2, vp3, rfl, p2, p3, ddp23, bp⟩
 obtain ⟨p2a, p2c, ep2⟩ := shapeO p2
 subst ep2
 have jp2 : ∀ j, (Value.slice p2a L2.length p2c).ownBlock = some j -> w11.heap.size <= j /\ j < w13.heap.size := fun j hj => p2.lt j hj
 obtain ⟨p3a, p3c, ep3⟩ := shapeO p3
 subst ep3
 have jp3 : ∀ j, (Value.slice p3a L3.length p3c).ownBlock = some j -> w11.heap.size <= j /\ j < w13.heap.size := fun j hj => p3.lt j hj
 have F14 : Fr w.heap.size w.heap.size w11 w13 := Fr.ofBelow bp
 replace BB := F14.below BB (by omega) (by omega)
 replace A1 := A1.fr F14 (.inl (by omega))
 replace A2 := A2.fr F14 (.inl (by omega))
 replace A3 := A3.fr F14 (.inl (by omega))
 replace x1 := F14.own x1 (fun j hj => by have := jx1 j hj; omega)
 replace x2 := F14.own x2 (fun j hj => by have := jx2 j hj; omega)
 replace x3 := F14.own x3 (fun j hj => by have := jx3 j hj; omega)
 have SF14 := F14.size
 clear bp F14
 clear x1 jx1
 clear x2 jx2
 clear x3 jx3
 obtain ⟨W15, hW15⟩ : ∃ W, w13.alloc (.cells #[.int .i64 r0, .int .i64 r1, .slice p2a L2.length p2c, .slice p3a L3.length p3c] 46) = W := ⟨_, rfl⟩
 have Rp : Rs W15 w13.heap.size [.int .i64 r0, .int .i64 r1, .slice p2a L2.length p2c, .slice p3a L3.length p3c] := by rw [<- hW15]; exact Rs.new _ _ _
 have F16 : Fr w.heap.size w.heap.size w13 W15 := by rw [<- hW15]; exact Fr.ofAlloc _ _
 have zW15 : w13.heap.size < W15.heap.size := by rw [<- hW15]; simp
 replace BB := F16.below BB (by omega) (by omega)
 replace A1 := A1.fr F16 (.inl (by omega))
 replace A2 := A2.fr F16 (.inl (by omega))
 replace A3 := A3.fr F16 (.inl (by omega))
 replace p2 := F16.own p2 (fun j hj => by have := jp2 j hj; omega)
 replace p3 := F16.own p3 (fun j hj => by have := jp3 j hj; omega)
 have SF16 := F16.size
 clear F16
 go_wp2_with fail
 refine (toObjectS a1 c1 l1o _ (A1.mono (by omega)) l1).mono ?_; rintro e w17 ⟨rfl, X1, b⟩
 have jX1 : ∀ j, (Value.slice (some ⟨W15.heap.size, 0, none⟩) l1o.length l1o.length).ownBlock = some j -> W15.heap.size <= j /\ j < w17.heap.size := fun j hj => X1.lt j hj
 have zw17 : W15.heap.size < w17.heap.size := (jX1 _ rfl).2
 have F18 : Fr w.heap.size w.heap.size W15 w17 := Fr.ofBelow b
 replace BB := F18.below BB (by omega) (by omega)
 replace A1 := A1.fr F18 (.inl (by omega))
 replace A2 := A2.fr F18 (.inl (by omega))
 replace A3 := A3.fr F18 (.inl (by omega))
 replace p2 := F18.own p2 (fun j hj => by have := jp2 j hj; omega)
 replace p3 := F18.own p3 (fun j hj => by have := jp3 j hj; omega)
 replace Rp := F18.rs Rp (by omega)
 have SF18 := F18.size
 clear b F18
 clear hW15
 go_wp2_with fail
 refine (En.toEntryS a2 c2 l2o _ (A2.mono (by omega)) l2).mono ?_; rintro e w19 ⟨rfl, X2, b⟩
 have jX2 : ∀ j, (Value.slice (some ⟨w17.heap.size, 0, none⟩) l2o.length l2o.length).ownBlock = some j -> w17.heap.size <= j /\ j < w19.heap.size := fun j hj => X2.lt j hj
 have zw19 : w17.heap.size < w19.heap.size := (jX2 _ rfl).2
 have F20 : Fr w.heap.size w.heap.size w17 w19 := Fr.ofBelow b
 replace BB := F20.below BB (by omega) (by omega)
 replace A1 := A1.fr F20 (.inl (by omega))
 replace A2 := A2.fr F20 (.inl (by omega))
 replace A3 := A3.fr F20 (.inl (by omega))
 replace p2 := F20.own p2 (fun j hj => by have := jp2 j hj; omega)
 replace p3 := F20.own p3 (fun j hj => by have := jp3 j hj; omega)
 replace Rp := F20.rs Rp (by omega)
 replace X1 := F20.own X1 (fun j hj => by have := jX1 j hj; omega)
 have SF20 := F20.size
 clear b F20
 go_wp2_with fail
 refine (Ru.toRuleS a3 c3 l3o _ (A3.mono (by omega)) l3).mono ?_; rintro e w21 ⟨rfl, X3, b⟩
 have jX3 : ∀ j, (Value.slice (some ⟨w19.heap.size, 0, none⟩) l3o.length l3o.length).ownBlock = some j -> w19.heap.size <= j /\ j < w21.heap.size := fun j hj => X3.lt j hj
 have zw21 : w19.heap.size < w21.heap.size := (jX3 _ rfl).2
 have F22 : Fr w.heap.size w.heap.size w19 w21 := Fr.ofBelow b
 replace BB := F22.below BB (by omega) (by omega)
 replace A1 := A1.fr F22 (.inl (by omega))
 replace A2 := A2.fr F22 (.inl (by omega))
 replace A3 := A3.fr F22 (.inl (by omega))
 replace p2 := F22.own p2 (fun j hj => by have := jp2 j hj; omega)
 replace p3 := F22.own p3 (fun j hj => by have := jp3 j hj; omega)
 replace Rp := F22.rs Rp (by omega)
 replace X1 := F22.own X1 (fun j hj => by have := jX1 j hj; omega)
 replace X2 := F22.own X2 (fun j hj => by have := jX2 j hj; omega)
 have SF22 := F22.size
 clear b F22
 go_wp2_with fail
 refine (hI _ _ _ _ (OB.of X1) (En.OB.of X2) (Ru.OB.of X3) BB).mono ?_; rintro e w23 ⟨vq2, vq3, rfl, q2, q3, ddq23, bq⟩
 obtain ⟨q2a, q2c, eq2⟩ := shapeO q2
 subst eq2
 have jq2 : ∀ j, (Value.slice q2a L2.length q2c).ownBlock = some j -> w21.heap.size <= j /\ j < w23.heap.size := fun j hj => q2.lt j hj
 obtain ⟨q3a, q3c, eq3⟩ := shapeO q3
 subst eq3
 have jq3 : ∀ j, (Value.slice q3a L3.length q3c).ownBlock = some j -> w21.heap.size <= j /\ j < w23.heap.size := fun j hj => q3.lt j hj
 have F24 : Fr w.heap.size w.heap.size w21 w23 := Fr.ofBelow bq
 replace BB := F24.below BB (by omega) (by omega)
 replace A1 := A1.fr F24 (.inl (by omega))
 replace A2 := A2.fr F24 (.inl (by omega))
 replace A3 := A3.fr F24 (.inl (by omega))
 replace p2 := F24.own p2 (fun j hj => by have := jp2 j hj; omega)
 replace p3 := F24.own p3 (fun j hj => by have := jp3 j hj; omega)
 replace Rp := F24.rs Rp (by omega)
 replace X1 := F24.own X1 (fun j hj => by have := jX1 j hj; omega)
 replace X2 := F24.own X2 (fun j hj => by have := jX2 j hj; omega)
 replace X3 := F24.own X3 (fun j hj => by have := jX3 j hj; omega)
 have SF24 := F24.size
 clear bq F24
 obtain ⟨W25, hW25⟩ : ∃ W, w23.alloc (.cells #[.int .i64 r0, .int .i64 r1, .slice q2a L2.length q2c, .slice q3a L3.length q3c] 46) = W := ⟨_, rfl⟩
 have Rq : Rs W25 w23.heap.size [.int .i64 r0, .int .i64 r1, .slice q2a L2.length q2c, .slice q3a L3.length q3c] := by rw [<- hW25]; exact Rs.new _ _ _
 have F26 : Fr w.heap.size w.heap.size w23 W25 := by rw [<- hW25]; exact Fr.ofAlloc _ _
 have zW25 : w23.heap.size < W25.heap.size := by rw [<- hW25]; simp
 replace BB := F26.below BB (by omega) (by omega)
 replace A1 := A1.fr F26 (.inl (by omega))
 replace A2 := A2.fr F26 (.inl (by omega))
 replace A3 := A3.fr F26 (.inl (by omega))
 replace p2 := F26.own p2 (fun j hj => by have := jp2 j hj; omega)
 replace p3 := F26.own p3 (fun j hj => by have := jp3 j hj; omega)
 replace Rp := F26.rs Rp (by omega)
 replace X1 := F26.own X1 (fun j hj => by have := jX1 j hj; omega)
 replace X2 := F26.own X2 (fun j hj => by have := jX2 j hj; omega)
 replace X3 := F26.own X3 (fun j hj => by have := jX3 j hj; omega)
 replace q2 := F26.own q2 (fun j hj => by have := jq2 j hj; omega)
 replace q3 := F26.own q3 (fun j hj => by have := jq3 j hj; omega)
 have SF26 := F26.size
 clear F26
 have dp0 := Rp 0 _ rfl
 have dp1 := Rp 1 _ rfl
 have dp2 := Rp 2 _ rfl
 have dp3 := Rp 3 _ rfl
 have dq0 := Rq 0 _ rfl
 have dq1 := Rq 1 _ rfl
 have dq2 := Rq 2 _ rfl
 have dq3 := Rq 3 _ rfl
 go_wp2_with fail
 refine (RyR.eqR _ _ _ _ _ _ L2 _ _ _ _ L3 _ (OB.of q2) (OB.of p2) (by omega) (En.OB.of q3) (En.OB.of p3) (by omega)).mono ?_; rintro e w27 ⟨rfl, b⟩
 have F28 : Fr w.heap.size w.heap.size W25 w27 := Fr.ofBelow b
 replace BB := F28.below BB (by omega) (by omega)
 replace A1 := A1.fr F28 (.inl (by omega))
 replace A2 := A2.fr F28 (.inl (by omega))
 replace A3 := A3.fr F28 (.inl (by omega))
 replace p2 := F28.own p2 (fun j hj => by have := jp2 j hj; omega)
 replace p3 := F28.own p3 (fun j hj => by have := jp3 j hj; omega)
 replace Rp := F28.rs Rp (by omega)
 replace X1 := F28.own X1 (fun j hj => by have := jX1 j hj; omega)
 replace X2 := F28.own X2 (fun j hj => by have := jX2 j hj; omega)
 replace X3 := F28.own X3 (fun j hj => by have := jX3 j hj; omega)
 replace q2 := F28.own q2 (fun j hj => by have := jq2 j hj; omega)
 replace q3 := F28.own q3 (fun j hj => by have := jq3 j hj; omega)
 replace Rq := F28.rs Rq (by omega)
 have SF28 := F28.size
 clear b F28
 clear dp0 dp1 dp2 dp3
 clear dq0 dq1 dq2 dq3
 clear hW25
 go_wp2_with fail
 refine (toObjectS a1 c1 l1o _ (A1.mono (by omega)) l1).mono ?_; rintro e w29 ⟨rfl, y, b⟩
 have jy : ∀ j, (Value.slice (some ⟨w27.heap.size, 0, none⟩) l1o.length l1o.length).ownBlock = some j -> w27.heap.size <= j /\ j < w29.heap.size := fun j hj => y.lt j hj
 have zw29 : w27.heap.size < w29.heap.size := (jy _ rfl).2
 have F30 : Fr w.heap.size w.heap.size w27 w29 := Fr.ofBelow b
 replace BB := F30.below BB (by omega) (by omega)
 replace A1 := A1.fr F30 (.inl (by omega))
 replace A2 := A2.fr F30 (.inl (by omega))
 replace A3 := A3.fr F30 (.inl (by omega))
 replace p2 := F30.own p2 (fun j hj => by have := jp2 j hj; omega)
 replace p3 := F30.own p3 (fun j hj => by have := jp3 j hj; omega)
 replace Rp := F30.rs Rp (by omega)
 replace X1 := F30.own X1 (fun j hj => by have := jX1 j hj; omega)
 replace X2 := F30.own X2 (fun j hj => by have := jX2 j hj; omega)
 replace X3 := F30.own X3 (fun j hj => by have := jX3 j hj; omega)
 replace q2 := F30.own q2 (fun j hj => by have := jq2 j hj; omega)
 replace q3 := F30.own q3 (fun j hj => by have := jq3 j hj; omega)
 replace Rq := F30.rs Rq (by omega)
 have SF30 := F30.size
 clear b F30
 go_wp2_with fail
 refine (eqObjectS _ _ _ _ l1o _ (OB.of X1) (OB.of y) l1).mono ?_; rintro e w31 ⟨rfl, b⟩
 clear y jy
 have F32 : Fr w.heap.size w.heap.size w29 w31 := Fr.ofBelow b
 replace BB := F32.below BB (by omega) (by omega)
 replace A1 := A1.fr F32 (.inl (by omega))
 replace A2 := A2.fr F32 (.inl (by omega))
 replace A3 := A3.fr F32 (.inl (by omega))
 replace p2 := F32.own p2 (fun j hj => by have := jp2 j hj; omega)
 replace p3 := F32.own p3 (fun j hj => by have := jp3 j hj; omega)
 replace Rp := F32.rs Rp (by omega)
 replace X1 := F32.own X1 (fun j hj => by have := jX1 j hj; omega)
 replace X2 := F32.own X2 (fun j hj => by have := jX2 j hj; omega)
 replace X3 := F32.own X3 (fun j hj => by have := jX3 j hj; omega)
 replace q2 := F32.own q2 (fun j hj => by have := jq2 j hj; omega)
 replace q3 := F32.own q3 (fun j hj => by have := jq3 j hj; omega)
 replace Rq := F32.rs Rq (by omega)
 have SF32 := F32.size
 clear b F32
 go_wp2_with fail
 refine (En.toEntryS a2 c2 l2o _ (A2.mono (by omega)) l2).mono ?_; rintro e w33 ⟨rfl, y, b⟩
 have jy : ∀ j, (Value.slice (some ⟨w31.heap.size, 0, none⟩) l2o.length l2o.length).ownBlock = some j -> w31.heap.size <= j /\ j < w33.heap.size := fun j hj => y.lt j hj
 have zw33 : w31.heap.size < w33.heap.size := (jy _ rfl).2
 have F34 : Fr w.heap.size w.heap.size w31 w33 := Fr.ofBelow b
 replace BB := F34.below BB (by omega) (by omega)
 replace A1 := A1.fr F34 (.inl (by omega))
 replace A2 := A2.fr F34 (.inl (by omega))
 replace A3 := A3.fr F34 (.inl (by omega))
 replace p2 := F34.own p2 (fun j hj => by have := jp2 j hj; omega)
 replace p3 := F34.own p3 (fun j hj => by have := jp3 j hj; omega)
 replace Rp := F34.rs Rp (by omega)
 replace X1 := F34.own X1 (fun j hj => by have := jX1 j hj; omega)
 replace X2 := F34.own X2 (fun j hj => by have := jX2 j hj; omega)
 replace X3 := F34.own X3 (fun j hj => by have := jX3 j hj; omega)
 replace q2 := F34.own q2 (fun j hj => by have := jq2 j hj; omega)
 replace q3 := F34.own q3 (fun j hj => by have := jq3 j hj; omega)
 replace Rq := F34.rs Rq (by omega)
 have SF34 := F34.size
 clear b F34
 go_wp2_with fail
 refine (En.eqEntryS _ _ _ _ l2o _ (En.OB.of X2) (En.OB.of y) l2).mono ?_; rintro e w35 ⟨rfl, b⟩
 clear y jy
 have F36 : Fr w.heap.size w.heap.size w33 w35 := Fr.ofBelow b
 replace BB := F36.below BB (by omega) (by omega)
 replace A1 := A1.fr F36 (.inl (by omega))
 replace A2 := A2.fr F36 (.inl (by omega))
 replace A3 := A3.fr F36 (.inl (by omega))
 replace p2 := F36.own p2 (fun j hj => by have := jp2 j hj; omega)
 replace p3 := F36.own p3 (fun j hj => by have := jp3 j hj; omega)
 replace Rp := F36.rs Rp (by omega)
 replace X1 := F36.own X1 (fun j hj => by have := jX1 j hj; omega)
 replace X2 := F36.own X2 (fun j hj => by have := jX2 j hj; omega)
 replace X3 := F36.own X3 (fun j hj => by have := jX3 j hj; omega)
 replace q2 := F36.own q2 (fun j hj => by have := jq2 j hj; omega)
 replace q3 := F36.own q3 (fun j hj => by have := jq3 j hj; omega)
 replace Rq := F36.rs Rq (by omega)
 have SF36 := F36.size
 clear b F36
 go_wp2_with fail
 refine (Ru.toRuleS a3 c3 l3o _ (A3.mono (by omega)) l3).mono ?_; rintro e w37 ⟨rfl, y, b⟩
 have jy : ∀ j, (Value.slice (some ⟨w35.heap.size, 0, none⟩) l3o.length l3o.length).ownBlock = some j -> w35.heap.size <= j /\ j < w37.heap.size := fun j hj => y.lt j hj
 have zw37 : w35.heap.size < w37.heap.size := (jy _ rfl).2
 have F38 : Fr w.heap.size w.heap.size w35 w37 := Fr.ofBelow b
 replace BB := F38.below BB (by omega) (by omega)
 replace A1 := A1.fr F38 (.inl (by omega))
 replace A2 := A2.fr F38 (.inl (by omega))
 replace A3 := A3.fr F38 (.inl (by omega))
 replace p2 := F38.own p2 (fun j hj => by have := jp2 j hj; omega)
 replace p3 := F38.own p3 (fun j hj => by have := jp3 j hj; omega)
 replace Rp := F38.rs Rp (by omega)
 replace X1 := F38.own X1 (fun j hj => by have := jX1 j hj; omega)
 replace X2 := F38.own X2 (fun j hj => by have := jX2 j hj; omega)
 replace X3 := F38.own X3 (fun j hj => by have := jX3 j hj; omega)
 replace q2 := F38.own q2 (fun j hj => by have := jq2 j hj; omega)
 replace q3 := F38.own q3 (fun j hj => by have := jq3 j hj; omega)
 replace Rq := F38.rs Rq (by omega)
 have SF38 := F38.size
 clear b F38
 go_wp2_with fail
 refine (Ru.eqRuleS _ _ _ _ l3o _ (Ru.OB.of X3) (Ru.OB.of y) l3).mono ?_; rintro e w39 ⟨rfl, b⟩
 clear y jy
 have F40 : Fr w.heap.size w.heap.size w37 w39 := Fr.ofBelow b
 replace BB := F40.below BB (by omega) (by omega)
 replace A1 := A1.fr F40 (.inl (by omega))
 replace A2 := A2.fr F40 (.inl (by omega))
 replace A3 := A3.fr F40 (.inl (by omega))
 replace p2 := F40.own p2 (fun j hj => by have := jp2 j hj; omega)
 replace p3 := F40.own p3 (fun j hj => by have := jp3 j hj; omega)
 replace Rp := F40.rs Rp (by omega)
 replace X1 := F40.own X1 (fun j hj => by have := jX1 j hj; omega)
 replace X2 := F40.own X2 (fun j hj => by have := jX2 j hj; omega)
 replace X3 := F40.own X3 (fun j hj => by have := jX3 j hj; omega)
 replace q2 := F40.own q2 (fun j hj => by have := jq2 j hj; omega)
 replace q3 := F40.own q3 (fun j hj => by have := jq3 j hj; omega)
 replace Rq := F40.rs Rq (by omega)
 have SF40 := F40.size
 clear b F40
 go_wp2_with fail
 refine (markObjectS _ _ _ _ (1) _ _ (by omega) (by omega) X1).mono ?_; rintro e w41 ⟨rfl, o, gg⟩
 have F42 : Fr W15.heap.size (W15.heap.size + 1) w39 w41 := Fr.ofGrown gg (ownOne _ _ _)
 clear o gg X1
 replace BB := F42.below BB (by omega) (by omega)
 replace A1 := A1.fr F42 (.inl (by omega))
 replace A2 := A2.fr F42 (.inl (by omega))
 replace A3 := A3.fr F42 (.inl (by omega))
 replace p2 := F42.own p2 (fun j hj => by have := jp2 j hj; omega)
 replace p3 := F42.own p3 (fun j hj => by have := jp3 j hj; omega)
 replace Rp := F42.rs Rp (by omega)
 replace X2 := F42.own X2 (fun j hj => by have := jX2 j hj; omega)
 replace X3 := F42.own X3 (fun j hj => by have := jX3 j hj; omega)
 replace q2 := F42.own q2 (fun j hj => by have := jq2 j hj; omega)
 replace q3 := F42.own q3 (fun j hj => by have := jq3 j hj; omega)
 replace Rq := F42.rs Rq (by omega)
 have SF42 := F42.size
 clear F42 jX1
 go_wp2_with fail
 refine (En.markEntryS _ _ _ _ (1 + 3 * l1o.length) _ _ (by omega) (by omega) X2).mono ?_; rintro e w43 ⟨rfl, o, gg⟩
 have F44 : Fr w17.heap.size (w17.heap.size + 1) w41 w43 := Fr.ofGrown gg (ownOne _ _ _)
 clear o gg X2
 replace BB := F44.below BB (by omega) (by omega)
 replace A1 := A1.fr F44 (.inl (by omega))
 replace A2 := A2.fr F44 (.inl (by omega))
 replace A3 := A3.fr F44 (.inl (by omega))
 replace p2 := F44.own p2 (fun j hj => by have := jp2 j hj; omega)
 replace p3 := F44.own p3 (fun j hj => by have := jp3 j hj; omega)
 replace Rp := F44.rs Rp (by omega)
 replace X3 := F44.own X3 (fun j hj => by have := jX3 j hj; omega)
 replace q2 := F44.own q2 (fun j hj => by have := jq2 j hj; omega)
 replace q3 := F44.own q3 (fun j hj => by have := jq3 j hj; omega)
 replace Rq := F44.rs Rq (by omega)
 have SF44 := F44.size
 clear F44 jX2
 go_wp2_with fail
 refine (Ru.markRuleS _ _ _ _ (1 + 3 * l1o.length + 4 * l2o.length) _ _ (by omega) (by omega) X3).mono ?_; rintro e w45 ⟨rfl, o, gg⟩
 have F46 : Fr w19.heap.size (w19.heap.size + 1) w43 w45 := Fr.ofGrown gg (ownOne _ _ _)
 clear o gg X3
 replace BB := F46.below BB (by omega) (by omega)
 replace A1 := A1.fr F46 (.inl (by omega))
 replace A2 := A2.fr F46 (.inl (by omega))
 replace A3 := A3.fr F46 (.inl (by omega))
 replace p2 := F46.own p2 (fun j hj => by have := jp2 j hj; omega)
 replace p3 := F46.own p3 (fun j hj => by have := jp3 j hj; omega)
 replace Rp := F46.rs Rp (by omega)
 replace q2 := F46.own q2 (fun j hj => by have := jq2 j hj; omega)
 replace q3 := F46.own q3 (fun j hj => by have := jq3 j hj; omega)
 replace Rq := F46.rs Rq (by omega)
 have SF46 := F46.size
 clear F46 jX3
 obtain ⟨K, hK⟩ : ∃ K : Int, ((1 + 3 * l1o.length + 4 * l2o.length + 2 * l3o.length : Nat) : Int) = K := ⟨_, rfl⟩
 have hK0 : ¬ K < 0 := by omega
 rw [hK]
 clear hK
 have dp0 := Rp 0 _ rfl
 have dp1 := Rp 1 _ rfl
 have dp2 := Rp 2 _ rfl
 have dp3 := Rp 3 _ rfl
 have dq0 := Rq 0 _ rfl
 have dq1 := Rq 1 _ rfl
 have dq2 := Rq 2 _ rfl
 have dq3 := Rq 3 _ rfl
 go_wp2_with fail
 refine (RyR.eqR _ _ _ _ _ _ L2 _ _ _ _ L3 _ (OB.of q2) (OB.of p2) (by omega) (En.OB.of q3) (En.OB.of p3) (by omega)).mono ?_; rintro e w47 ⟨rfl, b⟩
 have F48 : Fr w.heap.size w.heap.size w45 w47 := Fr.ofBelow b
 replace BB := F48.below BB (by omega) (by omega)
 replace A1 := A1.fr F48 (.inl (by omega))
 replace A2 := A2.fr F48 (.inl (by omega))
 replace A3 := A3.fr F48 (.inl (by omega))
 replace p2 := F48.own p2 (fun j hj => by have := jp2 j hj; omega)
 replace p3 := F48.own p3 (fun j hj => by have := jp3 j hj; omega)
 replace Rp := F48.rs Rp (by omega)
 replace q2 := F48.own q2 (fun j hj => by have := jq2 j hj; omega)
 replace q3 := F48.own q3 (fun j hj => by have := jq3 j hj; omega)
 replace Rq := F48.rs Rq (by omega)
 have SF48 := F48.size
 clear b F48
 clear dp0 dp1 dp2 dp3
 clear dq0 dq1 dq2 dq3
 have dq0 := Rq 0 _ rfl
 have dq1 := Rq 1 _ rfl
 have dq2 := Rq 2 _ rfl
 have dq3 := Rq 3 _ rfl
 go_wp2_with fail
 refine (RyR.markR w21.heap.size w23.heap.size _ _ _ L2.length _ _ _ L3.length _ _ 1 _ (by omega) (by omega) q2 (fun j hj => (jq2 j hj).2) q3 (fun j hj => (jq3 j hj).2) ddq23).mono ?_; rintro e w49 ⟨rfl, Q2, Q3, FM⟩
 clear q2 q3
 clear dq0 dq1 dq2 dq3
 replace BB := FM.below BB (by omega) (by omega)
 replace A1 := A1.fr FM (.inl (by omega))
 replace A2 := A2.fr FM (.inl (by omega))
 replace A3 := A3.fr FM (.inl (by omega))
 replace p2 := FM.own p2 (fun j hj => by have := jp2 j hj; omega)
 replace p3 := FM.own p3 (fun j hj => by have := jp3 j hj; omega)
 replace Rp := FM.rs Rp (by omega)
 replace Rq := FM.rs Rq (by omega)
 have SFM := FM.size
 clear FM
 have jQ2 := jq2
 have jQ3 := jq3
 obtain ⟨M, hM⟩ : ∃ M : Int, ((1 + 3 * L2.length + 4 * L3.length : Nat) : Int) = M := ⟨_, rfl⟩
 have hM0 : ¬ M < 0 := by omega
 have hMM : (M != M) = false := by simp
 rw [hM]
 have dq0 := Rq 0 _ rfl
 have dq1 := Rq 1 _ rfl
 have dq2 := Rq 2 _ rfl
 have dq3 := Rq 3 _ rfl
 go_wp2_with fail
 refine (RyR.heldR _ _ _ L2.length _ _ L3.length _ 1 _ (by omega) (by omega) (obMk Q2) (En.obMk Q3)).mono ?_; rintro e w50 ⟨rfl, b⟩
 rw [hM]
 clear dq0 dq1 dq2 dq3
 have F51 : Fr w.heap.size w.heap.size w49 w50 := Fr.ofBelow b
 replace BB := F51.below BB (by omega) (by omega)
 replace A1 := A1.fr F51 (.inl (by omega))
 replace A2 := A2.fr F51 (.inl (by omega))
 replace A3 := A3.fr F51 (.inl (by omega))
 replace p2 := F51.own p2 (fun j hj => by have := jp2 j hj; omega)
 replace p3 := F51.own p3 (fun j hj => by have := jp3 j hj; omega)
 replace Rp := F51.rs Rp (by omega)
 replace Rq := F51.rs Rq (by omega)
 replace Q2 := F51.own Q2 (fun j hj => by have := jQ2 j hj; omega)
 replace Q3 := F51.own Q3 (fun j hj => by have := jQ3 j hj; omega)
 have SF51 := F51.size
 clear b F51
 go_wp2_with fail
 refine (toObjectS a1 c1 l1o _ (A1.mono (by omega)) l1).mono ?_; rintro e w52 ⟨rfl, z1, b⟩
 have jz1 : ∀ j, (Value.slice (some ⟨w50.heap.size, 0, none⟩) l1o.length l1o.length).ownBlock = some j -> w50.heap.size <= j /\ j < w52.heap.size := fun j hj => z1.lt j hj
 have zw52 : w50.heap.size < w52.heap.size := (jz1 _ rfl).2
 have F53 : Fr w.heap.size w.heap.size w50 w52 := Fr.ofBelow b
 replace BB := F53.below BB (by omega) (by omega)
 replace A1 := A1.fr F53 (.inl (by omega))
 replace A2 := A2.fr F53 (.inl (by omega))
 replace A3 := A3.fr F53 (.inl (by omega))
 replace p2 := F53.own p2 (fun j hj => by have := jp2 j hj; omega)
 replace p3 := F53.own p3 (fun j hj => by have := jp3 j hj; omega)
 replace Rp := F53.rs Rp (by omega)
 replace Rq := F53.rs Rq (by omega)
 replace Q2 := F53.own Q2 (fun j hj => by have := jQ2 j hj; omega)
 replace Q3 := F53.own Q3 (fun j hj => by have := jQ3 j hj; omega)
 have SF53 := F53.size
 clear b F53
 go_wp2_with fail
 refine (En.toEntryS a2 c2 l2o _ (A2.mono (by omega)) l2).mono ?_; rintro e w54 ⟨rfl, z2, b⟩
 have jz2 : ∀ j, (Value.slice (some ⟨w52.heap.size, 0, none⟩) l2o.length l2o.length).ownBlock = some j -> w52.heap.size <= j /\ j < w54.heap.size := fun j hj => z2.lt j hj
 have zw54 : w52.heap.size < w54.heap.size := (jz2 _ rfl).2
 have F55 : Fr w.heap.size w.heap.size w52 w54 := Fr.ofBelow b
 replace BB := F55.below BB (by omega) (by omega)
 replace A1 := A1.fr F55 (.inl (by omega))
 replace A2 := A2.fr F55 (.inl (by omega))
 replace A3 := A3.fr F55 (.inl (by omega))
 replace p2 := F55.own p2 (fun j hj => by have := jp2 j hj; omega)
 replace p3 := F55.own p3 (fun j hj => by have := jp3 j hj; omega)
 replace Rp := F55.rs Rp (by omega)
 replace Rq := F55.rs Rq (by omega)
 replace Q2 := F55.own Q2 (fun j hj => by have := jQ2 j hj; omega)
 replace Q3 := F55.own Q3 (fun j hj => by have := jQ3 j hj; omega)
 replace z1 := F55.own z1 (fun j hj => by have := jz1 j hj; omega)
 have SF55 := F55.size
 clear b F55
 go_wp2_with fail
 refine (Ru.toRuleS a3 c3 l3o _ (A3.mono (by omega)) l3).mono ?_; rintro e w56 ⟨rfl, z3, b⟩
 have jz3 : ∀ j, (Value.slice (some ⟨w54.heap.size, 0, none⟩) l3o.length l3o.length).ownBlock = some j -> w54.heap.size <= j /\ j < w56.heap.size := fun j hj => z3.lt j hj
 have zw56 : w54.heap.size < w56.heap.size := (jz3 _ rfl).2
 have F57 : Fr w.heap.size w.heap.size w54 w56 := Fr.ofBelow b
 replace BB := F57.below BB (by omega) (by omega)
 replace A1 := A1.fr F57 (.inl (by omega))
 replace A2 := A2.fr F57 (.inl (by omega))
 replace A3 := A3.fr F57 (.inl (by omega))
 replace p2 := F57.own p2 (fun j hj => by have := jp2 j hj; omega)
 replace p3 := F57.own p3 (fun j hj => by have := jp3 j hj; omega)
 replace Rp := F57.rs Rp (by omega)
 replace Rq := F57.rs Rq (by omega)
 replace Q2 := F57.own Q2 (fun j hj => by have := jQ2 j hj; omega)
 replace Q3 := F57.own Q3 (fun j hj => by have := jQ3 j hj; omega)
 replace z1 := F57.own z1 (fun j hj => by have := jz1 j hj; omega)
 replace z2 := F57.own z2 (fun j hj => by have := jz2 j hj; omega)
 have SF57 := F57.size
 clear b F57
 go_wp2_with fail
 refine (hI _ _ _ _ (OB.of z1) (En.OB.of z2) (Ru.OB.of z3) BB).mono ?_; rintro e w58 ⟨vs2, vs3, rfl, s2, s3, dds23, bs⟩
 obtain ⟨s2a, s2c, es2⟩ := shapeO s2
 subst es2
 have js2 : ∀ j, (Value.slice s2a L2.length s2c).ownBlock = some j -> w56.heap.size <= j /\ j < w58.heap.size := fun j hj => s2.lt j hj
 obtain ⟨s3a, s3c, es3⟩ := shapeO s3
 subst es3
 have js3 : ∀ j, (Value.slice s3a L3.length s3c).ownBlock = some j -> w56.heap.size <= j /\ j < w58.heap.size := fun j hj => s3.lt j hj
 have F59 : Fr w.heap.size w.heap.size w56 w58 := Fr.ofBelow bs
 replace BB := F59.below BB (by omega) (by omega)
 replace A1 := A1.fr F59 (.inl (by omega))
 replace A2 := A2.fr F59 (.inl (by omega))
 replace A3 := A3.fr F59 (.inl (by omega))
 replace p2 := F59.own p2 (fun j hj => by have := jp2 j hj; omega)
 replace p3 := F59.own p3 (fun j hj => by have := jp3 j hj; omega)
 replace Rp := F59.rs Rp (by omega)
 replace Rq := F59.rs Rq (by omega)
 replace Q2 := F59.own Q2 (fun j hj => by have := jQ2 j hj; omega)
 replace Q3 := F59.own Q3 (fun j hj => by have := jQ3 j hj; omega)
 replace z1 := F59.own z1 (fun j hj => by have := jz1 j hj; omega)
 replace z2 := F59.own z2 (fun j hj => by have := jz2 j hj; omega)
 replace z3 := F59.own z3 (fun j hj => by have := jz3 j hj; omega)
 have SF59 := F59.size
 clear bs F59
 clear z1 jz1
 clear z2 jz2
 clear z3 jz3
 obtain ⟨W60, hW60⟩ : ∃ W, w58.alloc (.cells #[.int .i64 r0, .int .i64 r1, .slice s2a L2.length s2c, .slice s3a L3.length s3c] 46) = W := ⟨_, rfl⟩
 have Rs : Rs W60 w58.heap.size [.int .i64 r0, .int .i64 r1, .slice s2a L2.length s2c, .slice s3a L3.length s3c] := by rw [<- hW60]; exact Rs.new _ _ _
 have F61 : Fr w.heap.size w.heap.size w58 W60 := by rw [<- hW60]; exact Fr.ofAlloc _ _
 have zW60 : w58.heap.size < W60.heap.size := by rw [<- hW60]; simp
 replace BB := F61.below BB (by omega) (by omega)
 replace A1 := A1.fr F61 (.inl (by omega))
 replace A2 := A2.fr F61 (.inl (by omega))
 replace A3 := A3.fr F61 (.inl (by omega))
 replace p2 := F61.own p2 (fun j hj => by have := jp2 j hj; omega)
 replace p3 := F61.own p3 (fun j hj => by have := jp3 j hj; omega)
 replace Rp := F61.rs Rp (by omega)
 replace Rq := F61.rs Rq (by omega)
 replace Q2 := F61.own Q2 (fun j hj => by have := jQ2 j hj; omega)
 replace Q3 := F61.own Q3 (fun j hj => by have := jQ3 j hj; omega)
 replace s2 := F61.own s2 (fun j hj => by have := js2 j hj; omega)
 replace s3 := F61.own s3 (fun j hj => by have := js3 j hj; omega)
 have SF61 := F61.size
 clear F61
 have dp0 := Rp 0 _ rfl
 have dp1 := Rp 1 _ rfl
 have dp2 := Rp 2 _ rfl
 have dp3 := Rp 3 _ rfl
 have ds0 := Rs 0 _ rfl
 have ds1 := Rs 1 _ rfl
 have ds2 := Rs 2 _ rfl
 have ds3 := Rs 3 _ rfl
 go_wp2_with fail
 refine (RyR.eqR _ _ _ _ _ _ L2 _ _ _ _ L3 _ (OB.of s2) (OB.of p2) (by omega) (En.OB.of s3) (En.OB.of p3) (by omega)).mono ?_; rintro e w62 ⟨rfl, b⟩
 have F63 : Fr w.heap.size w.heap.size W60 w62 := Fr.ofBelow b
 replace BB := F63.below BB (by omega) (by omega)
 replace A1 := A1.fr F63 (.inl (by omega))
 replace A2 := A2.fr F63 (.inl (by omega))
 replace A3 := A3.fr F63 (.inl (by omega))
 replace p2 := F63.own p2 (fun j hj => by have := jp2 j hj; omega)
 replace p3 := F63.own p3 (fun j hj => by have := jp3 j hj; omega)
 replace Rp := F63.rs Rp (by omega)
 replace Rq := F63.rs Rq (by omega)
 replace Q2 := F63.own Q2 (fun j hj => by have := jQ2 j hj; omega)
 replace Q3 := F63.own Q3 (fun j hj => by have := jQ3 j hj; omega)
 replace s2 := F63.own s2 (fun j hj => by have := js2 j hj; omega)
 replace s3 := F63.own s3 (fun j hj => by have := js3 j hj; omega)
 replace Rs := F63.rs Rs (by omega)
 have SF63 := F63.size
 clear b F63
 clear dp0 dp1 dp2 dp3
 clear ds0 ds1 ds2 ds3
 clear hW60
 have dq0 := Rq 0 _ rfl
 have dq1 := Rq 1 _ rfl
 have dq2 := Rq 2 _ rfl
 have dq3 := Rq 3 _ rfl
 go_wp2_with fail
 refine (RyR.heldR _ _ _ L2.length _ _ L3.length _ 1 _ (by omega) (by omega) (obMk Q2) (En.obMk Q3)).mono ?_; rintro e w64 ⟨rfl, b⟩
 rw [hM]
 clear dq0 dq1 dq2 dq3
 have F65 : Fr w.heap.size w.heap.size w62 w64 := Fr.ofBelow b
 replace BB := F65.below BB (by omega) (by omega)
 replace A1 := A1.fr F65 (.inl (by omega))
 replace A2 := A2.fr F65 (.inl (by omega))
 replace A3 := A3.fr F65 (.inl (by omega))
 replace p2 := F65.own p2 (fun j hj => by have := jp2 j hj; omega)
 replace p3 := F65.own p3 (fun j hj => by have := jp3 j hj; omega)
 replace Rp := F65.rs Rp (by omega)
 replace Rq := F65.rs Rq (by omega)
 replace Q2 := F65.own Q2 (fun j hj => by have := jQ2 j hj; omega)
 replace Q3 := F65.own Q3 (fun j hj => by have := jQ3 j hj; omega)
 replace s2 := F65.own s2 (fun j hj => by have := js2 j hj; omega)
 replace s3 := F65.own s3 (fun j hj => by have := js3 j hj; omega)
 replace Rs := F65.rs Rs (by omega)
 have SF65 := F65.size
 clear b F65
 go_wp2_with fail
 go_ret
 exact ⟨rfl, BB⟩
set_option linter.unusedVariables false
theorem laidOut : laidOutB Tryz.prog = true := by kernel_rfl
theorem own : ownKnob Tryz.prog.godebug = none := by kernel_rfl
set_option maxRecDepth 100000 in
theorem lifted (os : Os) (started : os.Started) (H : Type) (enc : TypeId × Value -> H) :
  ReturnsInHanded {} Tryz.checked os 4 .any (fun w args => (Rows.fnExactReplayRulesSpec.pre enc Tryz.prog Tryz.f4 [] false w args /\ laidMetH Tryz.prog Rows.fnExactReplayRulesRow.laid w) /\ sizedMet enc Tryz.prog Tryz.f4 (OpenSpec.ofChange Rows.fnExactReplayRulesSpec) false w args)
   (Rows.fnExactReplayRulesSpec.post enc Tryz.prog Tryz.f4 false true false false) := by
 refine returnsInHanded_of_change_and (C := Tryz.checked) (X := fun w _ => laidMetH Tryz.prog Rows.fnExactReplayRulesRow.laid w) (fun _ _ _ hh h => h.of_heap hh) own started (by kernel_rfl) Tryz.func4
  (ChangeSpec.witness_shaped (enc := enc) (C := Tryz.checked) (os := os) (X := fun w _ => laidMetH Tryz.prog Rows.fnExactReplayRulesRow.laid w) false (World.laidAll Tryz.prog os Rows.fnExactReplayRulesRow.laid) #[.slice none 0 0, .slice none 0 0, .slice none 0 0] 8 (World.laidAll_os _ _ _) (World.shaped_of_ZipB (by kernel_rfl) (by kernel_rfl)) (by kernel_rfl) (by kernel_rfl) (by kernel_rfl) (by rw [MakeChecks.laidMetH_plain _ _ _ (by kernel_rfl)]; exact laidMet_laidAll _ (by kernel_rfl) (by kernel_rfl))) ?_
 intro W base args ds gs before hval0 hW _ _ hL _
 have hval : ∀ (j : Nat) t v, Tryz.f4.params[j]? = some t -> args[j]? = some v -> Value.okWide Tryz.prog W .any base t v := hval0
 have hW' := hW
 obtain ⟨p, q, hA0, hV, rfl, hfz, hnd⟩ := hW
 have hA : DataW.TrodAll enc Tryz.prog W 0 (fun _ => true) true Tryz.f4.params.toList args.toList ds p := hA0
 rw [Tryz.params4] at hA hval
 obtain ⟨v0, vs0, d0, ds0, p0, q0, hargs, rfl, rfl, h0, r0⟩ := trodAll_cons hA
 obtain ⟨v1, vs1, d1, ds1, p1, q1, rfl, rfl, rfl, h1, r1⟩ := trodAll_cons r0
 obtain ⟨v2, vs2, d2, ds2, p2, q2, rfl, rfl, rfl, h2, r2⟩ := trodAll_cons r1
 obtain ⟨rfl, rfl, rfl⟩ := trodAll_nil r2
 obtain rfl : args = #[v0, v1, v2] := by cases args; simp_all
 obtain ⟨rfl, rfl⟩ := trodVars_none hV
 obtain ⟨a0, len0, cap0, rfl⟩ := okWide_slice Tryz.underlying22 (hval 0 22 v0 rfl rfl)
 have k0 := h0
 have lt0 : ∀ x ∈ p0, x.block < W.heap.size := by obtain ⟨m, hm⟩ := k0; exact DataW.trod_lt m _ _ _ hm
 obtain ⟨ss0, rfl, w0, ft0, n0⟩ := openOB h0
 obtain ⟨a1, len1, cap1, rfl⟩ := okWide_slice Tryz.underlying41 (hval 1 41 v1 rfl rfl)
 have k1 := h1
 have lt1 : ∀ x ∈ p1, x.block < W.heap.size := by obtain ⟨m, hm⟩ := k1; exact DataW.trod_lt m _ _ _ hm
 obtain ⟨ss1, rfl, w1, ft1, n1⟩ := En.openOB h1
 obtain ⟨a2, len2, cap2, rfl⟩ := okWide_slice Tryz.underlying42 (hval 2 42 v2 rfl rfl)
 have k2 := h2
 have lt2 : ∀ x ∈ p2, x.block < W.heap.size := by obtain ⟨m, hm⟩ := k2; exact DataW.trod_lt m _ _ _ hm
 obtain ⟨ss2, rfl, w2, ft2, n2⟩ := Ru.openOB h2
 obtain hTa := of_laid hL
 clear hA0 hval0
 refine (walk a0 cap0 ss0 a1 cap1 ss1 a2 cap2 ss2 W w0 ft0 n0 w1 ft1 n1 w2 ft2 n2 hTa (cellLtTa hTa)).mono fun e W' ⟨he, bel⟩ => ?_
 subst he
 exact ⟨_, rfl, _, _, _, [], _, [], hW', trodAll_mk1 (shut_bool Tryz.underlying4 _), (trodAll_cons_mk (Below.trod laidOut (by kernel_rfl) (of_decide_eq_true (by kernel_rfl)) k0 bel lt0) (trodAll_cons_mk (Below.trod laidOut (by kernel_rfl) (of_decide_eq_true (by kernel_rfl)) k1 bel lt1) (trodAll_cons_mk (Below.trod laidOut (by kernel_rfl) (of_decide_eq_true (by kernel_rfl)) k2 bel lt2) trodAll_mk0))), rfl, bel.frame _, fun h => by cases h⟩
theorem over : Rows.fnExactReplayRulesRow.holds Tryz.pinned (OpenSpec.ofChange Rows.fnExactReplayRulesSpec) :=
 OpenClaim.holds_of_wide 4 Tryz.f4 rfl rfl rfl rfl rfl rfl rfl ⟨rfl, rfl, rfl, rfl, rfl⟩ rfl rfl rfl rfl rfl (by kernel_rfl) Tryz.func4 (by kernel_rfl)
  (of_decide_eq_true (by kernel_rfl)) (by unfold Func.isWrapper; first | (rw [if_pos (by decide +kernel)]; kernel_rfl) | (rw [if_neg (by decide +kernel)]; exact ⟨rfl, rfl⟩))
  (fun os started H enc _ => lifted os started H enc)
theorem proved : Rows.FnExactReplayRulesCardSaid :=
 Claim7.holds_tied_plain_at .later [] [.data, .data, .data, .data, .pinned] true _ false
  over (fun _ h => by cases h) (by kernel_rfl) (fun _ h => by cases h) fnExactReplayRules_row_tie rfl ⟨rfl, rfl⟩ (by kernel_rfl) rfl
  (fun f fn hf hfn => by
   obtain rfl : f = 4 := Option.some.inj ((show Tryz.prog.funcNamed "loop.example/g00172/laws.FnExactReplayRules" = some 4 by kernel_rfl).symm.trans hf) |>.symm
   obtain rfl : fn = Tryz.f4 := (Option.some.inj (Tryz.func4.symm.trans hfn)).symm
   exact ⟨by kernel_rfl, fun j t ht => by
    rw [Tryz.params4] at ht
    have hm : t ∈ [22, 41, 42] := by simpa using Array.mem_of_getElem? ht
    have hall : ([22, 41, 42].all fun u => !Tryz.prog.wantsStandIn u) = true := by kernel_rfl
    exact (show Tryz.prog.wantsStandIn t = false by simpa using List.all_eq_true.1 hall t hm)⟩)
  (by kernel_rfl)
end Go.Proofs.YtgincoiehbdphaaGreatDoor.RyLaw
namespace Go.Proofs.YtgincoiehbdphaaGreatDoor
theorem fnExactReplayRules_proved : Rows.FnExactReplayRulesCardSaid := RyLaw.proved
end Go.Proofs.YtgincoiehbdphaaGreatDoor
