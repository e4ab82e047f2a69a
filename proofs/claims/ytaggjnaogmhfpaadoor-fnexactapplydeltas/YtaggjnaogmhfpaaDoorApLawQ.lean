/- Proved: at every list of files and every list of deltas FnExactApplyDeltas returns true (ApplyDeltas answers as its specification, field by field; its answer owns its memory, behind another call too; no argument is changed); the card itself. -/
import Derived.Test.YtaggjnaogmhfpaaDoorRows
import Derived.Test.YtaggjnaogmhfpaaDoorLemQ
import Derived.Test.YtaggjnaogmhfpaaDoorMarksQ
import Derived.Test.YtaggjnaogmhfpaaDoorDTabQ
import Derived.Test.YtaggjnaogmhfpaaDoorInQ
import Derived.Test.YtaggjnaogmhfpaaDoorFlLQ
import Derived.Test.YtaggjnaogmhfpaaDoorFlTQ
import Derived.Test.YtaggjnaogmhfpaaDoorFlMQ
import Derived.Test.YtaggjnaogmhfpaaDoorFlRQ
import Derived.Test.YtaggjnaogmhfpaaDoorOpFQ
import Derived.Test.YtaggjnaogmhfpaaDoorFlAQ
import Derived.Test.YtaggjnaogmhfpaaDoorFfCQ
import Derived.Test.YtaggjnaogmhfpaaDoorDlLQ
import Derived.Test.YtaggjnaogmhfpaaDoorDlTQ
import Derived.Test.YtaggjnaogmhfpaaDoorDlMQ
import Derived.Test.YtaggjnaogmhfpaaDoorDlRQ
import Derived.Test.YtaggjnaogmhfpaaDoorOpDQ
import Derived.Test.YtaggjnaogmhfpaaDoorApRQ
import Derived.Test.YtaggjnaogmhfpaaDoorFaSQ
import Derived.Test.YtaggjnaogmhfpaaDoorFaIQ
import Derived.Test.YtaggjnaogmhfpaaDoorTie
import Derived.Test.YtaggjnaogmhfpaaDoorCards
import Derived.WalkKit
import Derived.ProofKit
import Derived.OpenShut
import Derived.Below
import Derived.Carry
import Derived.ChangeVars
import Derived.OpenVars
import Derived.LaidMore
import Derived.Lay
import Derived.SevenTiedAt
import Derived.Stop.Joined
import Derived.JoinedOf
namespace Go.Proofs.YtaggjnaogmhfpaaDoor.ApLaw
open Go.ChangeShapes Go.WideShapes Go.ChangeAt Go.RowKit

theorem shapeO {w : World} {base : Nat} {e : TypeId} {s : Nat} {v : Value} {n : Nat} {xs : List Value} (h : w.ownsRow base e s v n xs) : ∃ a c, v = .slice a n c := by
  rcases h.2 with ⟨h', h0'⟩ | ⟨g, c, cur, h', _⟩
  · exact ⟨none, 0, by rw [h', h0']⟩
  · exact ⟨_, _, h'⟩
theorem leftF_len {l : List Fl.Ob} {n : Int} (h : ¬ Fl.leftO n l < 0) : Fl.leftO n l + l.length ≤ n := by
  have key : ∀ (l : List Fl.Ob) (n : Int), ¬ Fl.leftOF n l < 0 → Fl.leftOF n l ≤ n := by
    intro l
    induction l with
    | nil => intro n _; exact Int.le_refl _
    | cons o t ih =>
      intro n hn
      by_cases hl : Fl.left1 n o < 0
      · rw [Fl.leftOF_stop hl] at hn; omega
      · rw [Fl.leftOF_go hl] at hn ⊢
        have := ih _ hn
        have := (Fl.left1_nums hl).1
        omega
  unfold Fl.leftO at h ⊢
  split at h
  · omega
  · rename_i h'
    rw [if_neg h']
    have := key l _ h
    omega
theorem leftD_len {l : List Dl.Ob} {n : Int} (h : ¬ Dl.leftO n l < 0) : Dl.leftO n l + l.length ≤ n := by
  have key : ∀ (l : List Dl.Ob) (n : Int), ¬ Dl.leftOF n l < 0 → Dl.leftOF n l ≤ n := by
    intro l
    induction l with
    | nil => intro n _; exact Int.le_refl _
    | cons o t ih =>
      intro n hn
      by_cases hl : Dl.left1 n o < 0
      · rw [Dl.leftOF_stop hl] at hn; omega
      · rw [Dl.leftOF_go hl] at hn ⊢
        have := ih _ hn
        have := (Dl.left1_nums hl).1
        omega
  unfold Dl.leftO at h ⊢
  split at h
  · omega
  · rename_i h'
    rw [if_neg h']
    have := key l _ h
    omega
theorem ownOne (b n cap : Nat) : ∀ j, (Value.slice (some ⟨b, 0, none⟩) n cap).ownBlock = some j → b ≤ j ∧ j < b + 1 := by
  intro j hj
  have e : b = j := by simpa [Value.ownBlock] using hj
  omega
set_option maxRecDepth 20000 in
set_option maxHeartbeats 4000000 in
theorem walk (a1 : Option Addr) (c1 : Nat) (l1o : List Fl.Ob) (a2 : Option Addr) (c2 : Nat) (l2o : List Dl.Ob) (w : World) (h1 : Fl.OB w.heap.size w a1 l1o) (hf1 : Fl.FitsO l1o) (n1 : l1o.length ≤ 9223372036854775807) (h2 : Dl.OB w.heap.size w a2 l2o) (hf2 : Dl.FitsO l2o) (n2 : l2o.length ≤ 9223372036854775807) :
    Calls Tryd.prog 4 #[.slice a1 l1o.length c1, .slice a2 l2o.length c2] w fun e w' => e = .returned (.bool true) ∧ Below w.heap.size w w' := by
  have BB := Below.refl w.heap.size w
  have A1 := h1
  clear h1
  obtain ⟨Q1, hQ1⟩ : ∃ Q, Fl.leftO 1048576 l1o = Q := ⟨_, rfl⟩
  have HQ1 : Hid (Fl.leftO 1048576 l1o = Q1) := hQ1
  have hZ1 := fun W h => Fl.szFileS a1 c1 l1o 1048576 W h hf1 n1 (by omega) (by omega)
  rw [hQ1] at hZ1
  by_cases hx1 : Q1 < 0
  · clear hQ1
    go_enter Tryd.func4, Tryd.ntmps4
    go_wp2_with fail
    refine (hZ1 _ (A1.mono (by omega))).mono ?_; rintro e w1 ⟨rfl, b⟩
    have F2 : Fr w.heap.size w.heap.size w w1 := Fr.ofBelow b
    replace A1 := A1.fr F2 (.inl (by omega))
    replace BB := F2.below BB (by omega) (by omega)
    have SF2 := F2.size
    clear b F2
    go_wp2_with fail
    go_ret
    exact ⟨rfl, BB⟩
  have hq1a : 0 ≤ Q1 := by omega
  have hq1b : Q1 ≤ 1048576 := by have hb := Fl.leftO_bd (l := l1o) (n := 1048576) (by rw [HQ1.out]; exact hx1); rw [HQ1.out] at hb; have := Int.le_refl (1048576 : Int); omega
  have hx1' : ¬ Fl.leftO 1048576 l1o < 0 := by rw [hQ1]; exact hx1
  obtain ⟨hs1, l1⟩ := Fl.leftO_nums hx1' (by omega)
  clear hQ1
  have A2 := h2
  clear h2
  obtain ⟨Q2, hQ2⟩ : ∃ Q, Dl.leftO Q1 l2o = Q := ⟨_, rfl⟩
  have HQ2 : Hid (Dl.leftO Q1 l2o = Q2) := hQ2
  have hZ2 := fun W h => Dl.szDeltaS a2 c2 l2o Q1 W h hf2 n2 hq1a hq1b
  rw [hQ2] at hZ2
  by_cases hx2 : Q2 < 0
  · clear hQ2
    go_enter Tryd.func4, Tryd.ntmps4
    go_wp2_with fail
    refine (hZ1 _ (A1.mono (by omega))).mono ?_; rintro e w1 ⟨rfl, b⟩
    have F2 : Fr w.heap.size w.heap.size w w1 := Fr.ofBelow b
    replace A1 := A1.fr F2 (.inl (by omega))
    replace BB := F2.below BB (by omega) (by omega)
    replace A2 := A2.fr F2 (.inl (by omega))
    have SF2 := F2.size
    clear b F2
    go_wp2_with fail
    refine (hZ2 _ (A2.mono (by omega))).mono ?_; rintro e w3 ⟨rfl, b⟩
    have F4 : Fr w.heap.size w.heap.size w1 w3 := Fr.ofBelow b
    replace A1 := A1.fr F4 (.inl (by omega))
    replace BB := F4.below BB (by omega) (by omega)
    replace A2 := A2.fr F4 (.inl (by omega))
    have SF4 := F4.size
    clear b F4
    go_wp2_with fail
    go_ret
    exact ⟨rfl, BB⟩
  have hq2a : 0 ≤ Q2 := by omega
  have hq2b : Q2 ≤ 1048576 := by have hb := Dl.leftO_bd (l := l2o) (n := Q1) (by rw [HQ2.out]; exact hx2); rw [HQ2.out] at hb; have := hq1b; omega
  have hx2' : ¬ Dl.leftO Q1 l2o < 0 := by rw [hQ2]; exact hx2
  obtain ⟨hs2, l2⟩ := Dl.leftO_nums hx2' hq1b
  clear hQ2
  have hsum : l1o.length + l2o.length ≤ 1048576 := by
    have y1 := leftF_len hx1'
    have y2 := leftD_len hx2'
    have z1 := HQ1.out
    have z2 := HQ2.out
    omega
  have hS : ∀ (g1 g2 : Nat) W, Fl.OB W.heap.size W (some ⟨g1, 0, none⟩) l1o → Dl.OB W.heap.size W (some ⟨g2, 0, none⟩) l2o → Calls Tryd.prog 15 #[.slice (some ⟨g1, 0, none⟩) l1o.length l1o.length, .slice (some ⟨g2, 0, none⟩) l2o.length l2o.length] W fun e w' => Fl.FE (Fl.apR l1o l2o) (Fl.apL l1o l2o) W e w' := fun g1 g2 W h1 h2 => Fl.specApplyDeltas g1 (some ⟨g2, 0, none⟩) l1o.length l2o.length l1o l2o W h1 h2 hs1 hs2 hsum
  have hI : ∀ (g1 g2 : Nat) W, Fl.OB W.heap.size W (some ⟨g1, 0, none⟩) l1o → Dl.OB W.heap.size W (some ⟨g2, 0, none⟩) l2o → Calls Tryd.prog 17 #[.slice (some ⟨g1, 0, none⟩) l1o.length l1o.length, .slice (some ⟨g2, 0, none⟩) l2o.length l2o.length] W fun e w' => Fl.FE (Fl.apR l1o l2o) (Fl.apL l1o l2o) W e w' := fun g1 g2 W h1 h2 => Fl.implApplyDeltas g1 (some ⟨g2, 0, none⟩) l1o.length l2o.length l1o l2o W h1 h2 (Nat.le_refl _) hs1 hs2 hsum
  have hLn : (Fl.apL l1o l2o).length ≤ 1048576 := by
    have := Fl.fb_len l2o l1o
    unfold Fl.apL
    split
    · omega
    · simp
  unfold Fl.FE at hS hI
  obtain ⟨r, hrr⟩ : ∃ r, Fl.apR l1o l2o = r := ⟨_, rfl⟩
  obtain ⟨L, hL⟩ : ∃ L, Fl.apL l1o l2o = L := ⟨_, rfl⟩
  rw [hrr, hL] at hS hI
  rw [hL] at hLn
  clear hrr hL hx1' hx2'
  go_enter Tryd.func4, Tryd.ntmps4
  go_wp2_with fail
  refine (hZ1 _ (A1.mono (by omega))).mono ?_; rintro e w1 ⟨rfl, b⟩
  have F2 : Fr w.heap.size w.heap.size w w1 := Fr.ofBelow b
  replace A1 := A1.fr F2 (.inl (by omega))
  replace BB := F2.below BB (by omega) (by omega)
  replace A2 := A2.fr F2 (.inl (by omega))
  have SF2 := F2.size
  clear b F2
  go_wp2_with fail
  refine (hZ2 _ (A2.mono (by omega))).mono ?_; rintro e w3 ⟨rfl, b⟩
  have F4 : Fr w.heap.size w.heap.size w1 w3 := Fr.ofBelow b
  replace A1 := A1.fr F4 (.inl (by omega))
  replace BB := F4.below BB (by omega) (by omega)
  replace A2 := A2.fr F4 (.inl (by omega))
  have SF4 := F4.size
  clear b F4
  go_wp2_with fail
  refine (Fl.toFileS a1 c1 l1o _ (A1.mono (by omega)) l1).mono ?_; rintro e w5 ⟨rfl, x1, b⟩
  have jx1 : ∀ j, (Value.slice (some ⟨w3.heap.size, 0, none⟩) l1o.length l1o.length).ownBlock = some j → w3.heap.size ≤ j ∧ j < w5.heap.size := fun j hj => x1.lt j hj
  have zw5 : w3.heap.size < w5.heap.size := (jx1 _ rfl).2
  have F6 : Fr w.heap.size w.heap.size w3 w5 := Fr.ofBelow b
  replace A1 := A1.fr F6 (.inl (by omega))
  replace BB := F6.below BB (by omega) (by omega)
  replace A2 := A2.fr F6 (.inl (by omega))
  have SF6 := F6.size
  clear b F6
  go_wp2_with fail
  refine (Dl.toDeltaS a2 c2 l2o _ (A2.mono (by omega)) l2).mono ?_; rintro e w7 ⟨rfl, x2, b⟩
  have jx2 : ∀ j, (Value.slice (some ⟨w5.heap.size, 0, none⟩) l2o.length l2o.length).ownBlock = some j → w5.heap.size ≤ j ∧ j < w7.heap.size := fun j hj => x2.lt j hj
  have zw7 : w5.heap.size < w7.heap.size := (jx2 _ rfl).2
  have F8 : Fr w.heap.size w.heap.size w5 w7 := Fr.ofBelow b
  replace A1 := A1.fr F8 (.inl (by omega))
  replace BB := F8.below BB (by omega) (by omega)
  replace A2 := A2.fr F8 (.inl (by omega))
  replace x1 := F8.own x1 (fun j hj => by have := jx1 j hj; omega)
  have SF8 := F8.size
  clear b F8
  go_wp2_with fail
  refine (hS _ _ _ (Fl.OB.of x1) (Dl.OB.of x2)).mono ?_; rintro e w9 ⟨vp, rfl, p, bp⟩
  obtain ⟨pa, pc, ep⟩ := shapeO p
  subst ep
  have jp : ∀ j, (Value.slice pa L.length pc).ownBlock = some j → w7.heap.size ≤ j ∧ j < w9.heap.size := fun j hj => p.lt j hj
  have F10 : Fr w.heap.size w.heap.size w7 w9 := Fr.ofBelow bp
  replace A1 := A1.fr F10 (.inl (by omega))
  replace BB := F10.below BB (by omega) (by omega)
  replace A2 := A2.fr F10 (.inl (by omega))
  replace x1 := F10.own x1 (fun j hj => by have := jx1 j hj; omega)
  replace x2 := F10.own x2 (fun j hj => by have := jx2 j hj; omega)
  have SF10 := F10.size
  clear bp F10
  clear x1 jx1
  clear x2 jx2
  obtain ⟨W11, hW11⟩ : ∃ W, w9.alloc (.cells #[.int .i64 r, .slice pa L.length pc] 38) = W := ⟨_, rfl⟩
  have Rp : Rs W11 w9.heap.size [.int .i64 r, .slice pa L.length pc] := by rw [← hW11]; exact Rs.new _ _ _
  have F12 : Fr w.heap.size w.heap.size w9 W11 := by rw [← hW11]; exact Fr.ofAlloc _ _
  have zW11 : w9.heap.size < W11.heap.size := by rw [← hW11]; simp
  replace A1 := A1.fr F12 (.inl (by omega))
  replace BB := F12.below BB (by omega) (by omega)
  replace A2 := A2.fr F12 (.inl (by omega))
  replace p := F12.own p (fun j hj => by have := jp j hj; omega)
  have SF12 := F12.size
  clear F12
  go_wp2_with fail
  refine (Fl.toFileS a1 c1 l1o _ (A1.mono (by omega)) l1).mono ?_; rintro e w13 ⟨rfl, X1, b⟩
  have jX1 : ∀ j, (Value.slice (some ⟨W11.heap.size, 0, none⟩) l1o.length l1o.length).ownBlock = some j → W11.heap.size ≤ j ∧ j < w13.heap.size := fun j hj => X1.lt j hj
  have zw13 : W11.heap.size < w13.heap.size := (jX1 _ rfl).2
  have F14 : Fr w.heap.size w.heap.size W11 w13 := Fr.ofBelow b
  replace A1 := A1.fr F14 (.inl (by omega))
  replace BB := F14.below BB (by omega) (by omega)
  replace A2 := A2.fr F14 (.inl (by omega))
  replace p := F14.own p (fun j hj => by have := jp j hj; omega)
  replace Rp := F14.rs Rp (by omega)
  have SF14 := F14.size
  clear b F14
  clear hW11
  go_wp2_with fail
  refine (Dl.toDeltaS a2 c2 l2o _ (A2.mono (by omega)) l2).mono ?_; rintro e w15 ⟨rfl, X2, b⟩
  have jX2 : ∀ j, (Value.slice (some ⟨w13.heap.size, 0, none⟩) l2o.length l2o.length).ownBlock = some j → w13.heap.size ≤ j ∧ j < w15.heap.size := fun j hj => X2.lt j hj
  have zw15 : w13.heap.size < w15.heap.size := (jX2 _ rfl).2
  have F16 : Fr w.heap.size w.heap.size w13 w15 := Fr.ofBelow b
  replace A1 := A1.fr F16 (.inl (by omega))
  replace BB := F16.below BB (by omega) (by omega)
  replace A2 := A2.fr F16 (.inl (by omega))
  replace p := F16.own p (fun j hj => by have := jp j hj; omega)
  replace Rp := F16.rs Rp (by omega)
  replace X1 := F16.own X1 (fun j hj => by have := jX1 j hj; omega)
  have SF16 := F16.size
  clear b F16
  go_wp2_with fail
  refine (hI _ _ _ (Fl.OB.of X1) (Dl.OB.of X2)).mono ?_; rintro e w17 ⟨vq, rfl, q, bq⟩
  obtain ⟨qa, qc, eq⟩ := shapeO q
  subst eq
  have jq : ∀ j, (Value.slice qa L.length qc).ownBlock = some j → w15.heap.size ≤ j ∧ j < w17.heap.size := fun j hj => q.lt j hj
  have F18 : Fr w.heap.size w.heap.size w15 w17 := Fr.ofBelow bq
  replace A1 := A1.fr F18 (.inl (by omega))
  replace BB := F18.below BB (by omega) (by omega)
  replace A2 := A2.fr F18 (.inl (by omega))
  replace p := F18.own p (fun j hj => by have := jp j hj; omega)
  replace Rp := F18.rs Rp (by omega)
  replace X1 := F18.own X1 (fun j hj => by have := jX1 j hj; omega)
  replace X2 := F18.own X2 (fun j hj => by have := jX2 j hj; omega)
  have SF18 := F18.size
  clear bq F18
  obtain ⟨W19, hW19⟩ : ∃ W, w17.alloc (.cells #[.int .i64 r, .slice qa L.length qc] 38) = W := ⟨_, rfl⟩
  have Rq : Rs W19 w17.heap.size [.int .i64 r, .slice qa L.length qc] := by rw [← hW19]; exact Rs.new _ _ _
  have F20 : Fr w.heap.size w.heap.size w17 W19 := by rw [← hW19]; exact Fr.ofAlloc _ _
  have zW19 : w17.heap.size < W19.heap.size := by rw [← hW19]; simp
  replace A1 := A1.fr F20 (.inl (by omega))
  replace BB := F20.below BB (by omega) (by omega)
  replace A2 := A2.fr F20 (.inl (by omega))
  replace p := F20.own p (fun j hj => by have := jp j hj; omega)
  replace Rp := F20.rs Rp (by omega)
  replace X1 := F20.own X1 (fun j hj => by have := jX1 j hj; omega)
  replace X2 := F20.own X2 (fun j hj => by have := jX2 j hj; omega)
  replace q := F20.own q (fun j hj => by have := jq j hj; omega)
  have SF20 := F20.size
  clear F20
  have dp0 := Rp 0 _ rfl
  have dp1 := Rp 1 _ rfl
  have dq0 := Rq 0 _ rfl
  have dq1 := Rq 1 _ rfl
  go_wp2_with fail
  refine (Fl.eqFilesResult _ _ _ _ _ L _ (Fl.OB.of q) (Fl.OB.of p) (by omega)).mono ?_; rintro e w21 ⟨rfl, b⟩
  have F22 : Fr w.heap.size w.heap.size W19 w21 := Fr.ofBelow b
  replace A1 := A1.fr F22 (.inl (by omega))
  replace BB := F22.below BB (by omega) (by omega)
  replace A2 := A2.fr F22 (.inl (by omega))
  replace p := F22.own p (fun j hj => by have := jp j hj; omega)
  replace Rp := F22.rs Rp (by omega)
  replace X1 := F22.own X1 (fun j hj => by have := jX1 j hj; omega)
  replace X2 := F22.own X2 (fun j hj => by have := jX2 j hj; omega)
  replace q := F22.own q (fun j hj => by have := jq j hj; omega)
  replace Rq := F22.rs Rq (by omega)
  have SF22 := F22.size
  clear b F22
  clear dp0 dp1
  clear dq0 dq1
  clear hW19
  go_wp2_with fail
  refine (Fl.toFileS a1 c1 l1o _ (A1.mono (by omega)) l1).mono ?_; rintro e w23 ⟨rfl, y, b⟩
  have jy : ∀ j, (Value.slice (some ⟨w21.heap.size, 0, none⟩) l1o.length l1o.length).ownBlock = some j → w21.heap.size ≤ j ∧ j < w23.heap.size := fun j hj => y.lt j hj
  have zw23 : w21.heap.size < w23.heap.size := (jy _ rfl).2
  have F24 : Fr w.heap.size w.heap.size w21 w23 := Fr.ofBelow b
  replace A1 := A1.fr F24 (.inl (by omega))
  replace BB := F24.below BB (by omega) (by omega)
  replace A2 := A2.fr F24 (.inl (by omega))
  replace p := F24.own p (fun j hj => by have := jp j hj; omega)
  replace Rp := F24.rs Rp (by omega)
  replace X1 := F24.own X1 (fun j hj => by have := jX1 j hj; omega)
  replace X2 := F24.own X2 (fun j hj => by have := jX2 j hj; omega)
  replace q := F24.own q (fun j hj => by have := jq j hj; omega)
  replace Rq := F24.rs Rq (by omega)
  have SF24 := F24.size
  clear b F24
  go_wp2_with fail
  refine (Fl.eqFileS _ _ _ _ l1o _ (Fl.OB.of X1) (Fl.OB.of y) l1).mono ?_; rintro e w25 ⟨rfl, b⟩
  clear y jy
  have F26 : Fr w.heap.size w.heap.size w23 w25 := Fr.ofBelow b
  replace A1 := A1.fr F26 (.inl (by omega))
  replace BB := F26.below BB (by omega) (by omega)
  replace A2 := A2.fr F26 (.inl (by omega))
  replace p := F26.own p (fun j hj => by have := jp j hj; omega)
  replace Rp := F26.rs Rp (by omega)
  replace X1 := F26.own X1 (fun j hj => by have := jX1 j hj; omega)
  replace X2 := F26.own X2 (fun j hj => by have := jX2 j hj; omega)
  replace q := F26.own q (fun j hj => by have := jq j hj; omega)
  replace Rq := F26.rs Rq (by omega)
  have SF26 := F26.size
  clear b F26
  go_wp2_with fail
  refine (Dl.toDeltaS a2 c2 l2o _ (A2.mono (by omega)) l2).mono ?_; rintro e w27 ⟨rfl, y, b⟩
  have jy : ∀ j, (Value.slice (some ⟨w25.heap.size, 0, none⟩) l2o.length l2o.length).ownBlock = some j → w25.heap.size ≤ j ∧ j < w27.heap.size := fun j hj => y.lt j hj
  have zw27 : w25.heap.size < w27.heap.size := (jy _ rfl).2
  have F28 : Fr w.heap.size w.heap.size w25 w27 := Fr.ofBelow b
  replace A1 := A1.fr F28 (.inl (by omega))
  replace BB := F28.below BB (by omega) (by omega)
  replace A2 := A2.fr F28 (.inl (by omega))
  replace p := F28.own p (fun j hj => by have := jp j hj; omega)
  replace Rp := F28.rs Rp (by omega)
  replace X1 := F28.own X1 (fun j hj => by have := jX1 j hj; omega)
  replace X2 := F28.own X2 (fun j hj => by have := jX2 j hj; omega)
  replace q := F28.own q (fun j hj => by have := jq j hj; omega)
  replace Rq := F28.rs Rq (by omega)
  have SF28 := F28.size
  clear b F28
  go_wp2_with fail
  refine (Dl.eqDeltaS _ _ _ _ l2o _ (Dl.OB.of X2) (Dl.OB.of y) l2).mono ?_; rintro e w29 ⟨rfl, b⟩
  clear y jy
  have F30 : Fr w.heap.size w.heap.size w27 w29 := Fr.ofBelow b
  replace A1 := A1.fr F30 (.inl (by omega))
  replace BB := F30.below BB (by omega) (by omega)
  replace A2 := A2.fr F30 (.inl (by omega))
  replace p := F30.own p (fun j hj => by have := jp j hj; omega)
  replace Rp := F30.rs Rp (by omega)
  replace X1 := F30.own X1 (fun j hj => by have := jX1 j hj; omega)
  replace X2 := F30.own X2 (fun j hj => by have := jX2 j hj; omega)
  replace q := F30.own q (fun j hj => by have := jq j hj; omega)
  replace Rq := F30.rs Rq (by omega)
  have SF30 := F30.size
  clear b F30
  go_wp2_with fail
  refine (Fl.markFileS _ _ _ _ (1) _ _ (by omega) (by omega) X1).mono ?_; rintro e w31 ⟨rfl, o, gg⟩
  have F32 : Fr W11.heap.size (W11.heap.size + 1) w29 w31 := Fr.ofGrown gg (ownOne _ _ _)
  clear o gg X1
  replace A1 := A1.fr F32 (.inl (by omega))
  replace BB := F32.below BB (by omega) (by omega)
  replace A2 := A2.fr F32 (.inl (by omega))
  replace p := F32.own p (fun j hj => by have := jp j hj; omega)
  replace Rp := F32.rs Rp (by omega)
  replace X2 := F32.own X2 (fun j hj => by have := jX2 j hj; omega)
  replace q := F32.own q (fun j hj => by have := jq j hj; omega)
  replace Rq := F32.rs Rq (by omega)
  have SF32 := F32.size
  clear F32 jX1
  go_wp2_with fail
  refine (Dl.markDeltaS _ _ _ _ (1 + 3 * l1o.length) _ _ (by omega) (by omega) X2).mono ?_; rintro e w33 ⟨rfl, o, gg⟩
  have F34 : Fr w13.heap.size (w13.heap.size + 1) w31 w33 := Fr.ofGrown gg (ownOne _ _ _)
  clear o gg X2
  replace A1 := A1.fr F34 (.inl (by omega))
  replace BB := F34.below BB (by omega) (by omega)
  replace A2 := A2.fr F34 (.inl (by omega))
  replace p := F34.own p (fun j hj => by have := jp j hj; omega)
  replace Rp := F34.rs Rp (by omega)
  replace q := F34.own q (fun j hj => by have := jq j hj; omega)
  replace Rq := F34.rs Rq (by omega)
  have SF34 := F34.size
  clear F34 jX2
  obtain ⟨K, hK⟩ : ∃ K : Int, ((1 + 3 * l1o.length + 7 * l2o.length : Nat) : Int) = K := ⟨_, rfl⟩
  have hK0 : ¬ K < 0 := by omega
  rw [hK]
  clear hK
  have dp0 := Rp 0 _ rfl
  have dp1 := Rp 1 _ rfl
  have dq0 := Rq 0 _ rfl
  have dq1 := Rq 1 _ rfl
  go_wp2_with fail
  refine (Fl.eqFilesResult _ _ _ _ _ L _ (Fl.OB.of q) (Fl.OB.of p) (by omega)).mono ?_; rintro e w35 ⟨rfl, b⟩
  have F36 : Fr w.heap.size w.heap.size w33 w35 := Fr.ofBelow b
  replace A1 := A1.fr F36 (.inl (by omega))
  replace BB := F36.below BB (by omega) (by omega)
  replace A2 := A2.fr F36 (.inl (by omega))
  replace p := F36.own p (fun j hj => by have := jp j hj; omega)
  replace Rp := F36.rs Rp (by omega)
  replace q := F36.own q (fun j hj => by have := jq j hj; omega)
  replace Rq := F36.rs Rq (by omega)
  have SF36 := F36.size
  clear b F36
  clear dp0 dp1
  clear dq0 dq1
  have dq0 := Rq 0 _ rfl
  have dq1 := Rq 1 _ rfl
  go_wp2_with fail
  refine (Fl.markFilesResult w15.heap.size w17.heap.size _ _ L.length _ 1 _ _ (by omega) (by omega) q (fun j hj => (jq j hj).2)).mono ?_; rintro e w37 ⟨rfl, Q, FM⟩
  clear q
  clear dq0 dq1
  replace A1 := A1.fr FM (.inl (by omega))
  replace BB := FM.below BB (by omega) (by omega)
  replace A2 := A2.fr FM (.inl (by omega))
  replace p := FM.own p (fun j hj => by have := jp j hj; omega)
  replace Rp := FM.rs Rp (by omega)
  replace Rq := FM.rs Rq (by omega)
  have SFM := FM.size
  clear FM
  have jQ := jq
  obtain ⟨M, hM⟩ : ∃ M : Int, ((1 + 3 * L.length : Nat) : Int) = M := ⟨_, rfl⟩
  have hM0 : ¬ M < 0 := by omega
  have hMM : (M != M) = false := by simp
  rw [hM]
  have dq0 := Rq 0 _ rfl
  have dq1 := Rq 1 _ rfl
  go_wp2_with fail
  refine (Fl.heldFilesResult _ _ L.length _ 1 _ (by omega) (by omega) (Fl.obMk Q)).mono ?_; rintro e w38 ⟨rfl, b⟩
  rw [hM]
  clear dq0 dq1
  have F39 : Fr w.heap.size w.heap.size w37 w38 := Fr.ofBelow b
  replace A1 := A1.fr F39 (.inl (by omega))
  replace BB := F39.below BB (by omega) (by omega)
  replace A2 := A2.fr F39 (.inl (by omega))
  replace p := F39.own p (fun j hj => by have := jp j hj; omega)
  replace Rp := F39.rs Rp (by omega)
  replace Rq := F39.rs Rq (by omega)
  replace Q := F39.own Q (fun j hj => by have := jQ j hj; omega)
  have SF39 := F39.size
  clear b F39
  go_wp2_with fail
  refine (Fl.toFileS a1 c1 l1o _ (A1.mono (by omega)) l1).mono ?_; rintro e w40 ⟨rfl, z1, b⟩
  have jz1 : ∀ j, (Value.slice (some ⟨w38.heap.size, 0, none⟩) l1o.length l1o.length).ownBlock = some j → w38.heap.size ≤ j ∧ j < w40.heap.size := fun j hj => z1.lt j hj
  have zw40 : w38.heap.size < w40.heap.size := (jz1 _ rfl).2
  have F41 : Fr w.heap.size w.heap.size w38 w40 := Fr.ofBelow b
  replace A1 := A1.fr F41 (.inl (by omega))
  replace BB := F41.below BB (by omega) (by omega)
  replace A2 := A2.fr F41 (.inl (by omega))
  replace p := F41.own p (fun j hj => by have := jp j hj; omega)
  replace Rp := F41.rs Rp (by omega)
  replace Rq := F41.rs Rq (by omega)
  replace Q := F41.own Q (fun j hj => by have := jQ j hj; omega)
  have SF41 := F41.size
  clear b F41
  go_wp2_with fail
  refine (Dl.toDeltaS a2 c2 l2o _ (A2.mono (by omega)) l2).mono ?_; rintro e w42 ⟨rfl, z2, b⟩
  have jz2 : ∀ j, (Value.slice (some ⟨w40.heap.size, 0, none⟩) l2o.length l2o.length).ownBlock = some j → w40.heap.size ≤ j ∧ j < w42.heap.size := fun j hj => z2.lt j hj
  have zw42 : w40.heap.size < w42.heap.size := (jz2 _ rfl).2
  have F43 : Fr w.heap.size w.heap.size w40 w42 := Fr.ofBelow b
  replace A1 := A1.fr F43 (.inl (by omega))
  replace BB := F43.below BB (by omega) (by omega)
  replace A2 := A2.fr F43 (.inl (by omega))
  replace p := F43.own p (fun j hj => by have := jp j hj; omega)
  replace Rp := F43.rs Rp (by omega)
  replace Rq := F43.rs Rq (by omega)
  replace Q := F43.own Q (fun j hj => by have := jQ j hj; omega)
  replace z1 := F43.own z1 (fun j hj => by have := jz1 j hj; omega)
  have SF43 := F43.size
  clear b F43
  go_wp2_with fail
  refine (hI _ _ _ (Fl.OB.of z1) (Dl.OB.of z2)).mono ?_; rintro e w44 ⟨vs, rfl, s, bs⟩
  obtain ⟨sa, sc, es⟩ := shapeO s
  subst es
  have js : ∀ j, (Value.slice sa L.length sc).ownBlock = some j → w42.heap.size ≤ j ∧ j < w44.heap.size := fun j hj => s.lt j hj
  have F45 : Fr w.heap.size w.heap.size w42 w44 := Fr.ofBelow bs
  replace A1 := A1.fr F45 (.inl (by omega))
  replace BB := F45.below BB (by omega) (by omega)
  replace A2 := A2.fr F45 (.inl (by omega))
  replace p := F45.own p (fun j hj => by have := jp j hj; omega)
  replace Rp := F45.rs Rp (by omega)
  replace Rq := F45.rs Rq (by omega)
  replace Q := F45.own Q (fun j hj => by have := jQ j hj; omega)
  replace z1 := F45.own z1 (fun j hj => by have := jz1 j hj; omega)
  replace z2 := F45.own z2 (fun j hj => by have := jz2 j hj; omega)
  have SF45 := F45.size
  clear bs F45
  clear z1 jz1
  clear z2 jz2
  obtain ⟨W46, hW46⟩ : ∃ W, w44.alloc (.cells #[.int .i64 r, .slice sa L.length sc] 38) = W := ⟨_, rfl⟩
  have Rs : Rs W46 w44.heap.size [.int .i64 r, .slice sa L.length sc] := by rw [← hW46]; exact Rs.new _ _ _
  have F47 : Fr w.heap.size w.heap.size w44 W46 := by rw [← hW46]; exact Fr.ofAlloc _ _
  have zW46 : w44.heap.size < W46.heap.size := by rw [← hW46]; simp
  replace A1 := A1.fr F47 (.inl (by omega))
  replace BB := F47.below BB (by omega) (by omega)
  replace A2 := A2.fr F47 (.inl (by omega))
  replace p := F47.own p (fun j hj => by have := jp j hj; omega)
  replace Rp := F47.rs Rp (by omega)
  replace Rq := F47.rs Rq (by omega)
  replace Q := F47.own Q (fun j hj => by have := jQ j hj; omega)
  replace s := F47.own s (fun j hj => by have := js j hj; omega)
  have SF47 := F47.size
  clear F47
  have dp0 := Rp 0 _ rfl
  have dp1 := Rp 1 _ rfl
  have ds0 := Rs 0 _ rfl
  have ds1 := Rs 1 _ rfl
  go_wp2_with fail
  refine (Fl.eqFilesResult _ _ _ _ _ L _ (Fl.OB.of s) (Fl.OB.of p) (by omega)).mono ?_; rintro e w48 ⟨rfl, b⟩
  have F49 : Fr w.heap.size w.heap.size W46 w48 := Fr.ofBelow b
  replace A1 := A1.fr F49 (.inl (by omega))
  replace BB := F49.below BB (by omega) (by omega)
  replace A2 := A2.fr F49 (.inl (by omega))
  replace p := F49.own p (fun j hj => by have := jp j hj; omega)
  replace Rp := F49.rs Rp (by omega)
  replace Rq := F49.rs Rq (by omega)
  replace Q := F49.own Q (fun j hj => by have := jQ j hj; omega)
  replace s := F49.own s (fun j hj => by have := js j hj; omega)
  replace Rs := F49.rs Rs (by omega)
  have SF49 := F49.size
  clear b F49
  clear dp0 dp1
  clear ds0 ds1
  clear hW46
  have dq0 := Rq 0 _ rfl
  have dq1 := Rq 1 _ rfl
  go_wp2_with fail
  refine (Fl.heldFilesResult _ _ L.length _ 1 _ (by omega) (by omega) (Fl.obMk Q)).mono ?_; rintro e w50 ⟨rfl, b⟩
  rw [hM]
  clear dq0 dq1
  have F51 : Fr w.heap.size w.heap.size w48 w50 := Fr.ofBelow b
  replace A1 := A1.fr F51 (.inl (by omega))
  replace BB := F51.below BB (by omega) (by omega)
  replace A2 := A2.fr F51 (.inl (by omega))
  replace p := F51.own p (fun j hj => by have := jp j hj; omega)
  replace Rp := F51.rs Rp (by omega)
  replace Rq := F51.rs Rq (by omega)
  replace Q := F51.own Q (fun j hj => by have := jQ j hj; omega)
  replace s := F51.own s (fun j hj => by have := js j hj; omega)
  replace Rs := F51.rs Rs (by omega)
  have SF51 := F51.size
  clear b F51
  go_wp2_with fail
  go_ret
  exact ⟨rfl, BB⟩

set_option linter.unusedVariables false
theorem laidOut : laidOutB Tryd.prog = true := by kernel_rfl
theorem own : ownKnob Tryd.prog.godebug = none := by kernel_rfl
set_option maxRecDepth 100000 in
theorem lifted (os : Os) (started : os.Started) (H : Type) (enc : TypeId × Value → H) :
    ReturnsInHanded {} Tryd.checked os 4 .any (fun w args => (Rows.fnExactApplyDeltasSpec.pre enc Tryd.prog Tryd.f4 [] false w args ∧ laidMetH Tryd.prog Rows.fnExactApplyDeltasRow.laid w) ∧ sizedMet enc Tryd.prog Tryd.f4 (OpenSpec.ofChange Rows.fnExactApplyDeltasSpec) false w args)
      (Rows.fnExactApplyDeltasSpec.post enc Tryd.prog Tryd.f4 false true false false) := by
  refine returnsInHanded_of_change_and (C := Tryd.checked) (X := fun w _ => laidMetH Tryd.prog Rows.fnExactApplyDeltasRow.laid w) (fun _ _ _ hh h => h.of_heap hh) own started (by kernel_rfl) Tryd.func4
    (ChangeSpec.witness_shaped (enc := enc) (C := Tryd.checked) (os := os) (X := fun w _ => laidMetH Tryd.prog Rows.fnExactApplyDeltasRow.laid w) false (World.laidAll Tryd.prog os Rows.fnExactApplyDeltasRow.laid) #[.slice none 0 0, .slice none 0 0] 8 (World.laidAll_os _ _ _) (World.shaped_of_ZipB (by kernel_rfl) (by kernel_rfl)) (by kernel_rfl) (by kernel_rfl) (by kernel_rfl) (by rw [MakeChecks.laidMetH_plain _ _ _ (by kernel_rfl)]; exact laidMet_laidAll _ (by kernel_rfl) (by kernel_rfl))) ?_
  intro W base args ds gs before hval0 hW _ _ hL _
  have hval : ∀ (j : Nat) t v, Tryd.f4.params[j]? = some t → args[j]? = some v → Value.okWide Tryd.prog W .any base t v := hval0
  have hW' := hW
  obtain ⟨p, q, hA0, hV, rfl, hfz, hnd⟩ := hW
  have hA : DataW.TrodAll enc Tryd.prog W 0 (fun _ => true) true Tryd.f4.params.toList args.toList ds p := hA0
  rw [Tryd.params4] at hA hval
  obtain ⟨v0, vs0, d0, ds0, p0, q0, hargs, rfl, rfl, h0, r0⟩ := trodAll_cons hA
  obtain ⟨v1, vs1, d1, ds1, p1, q1, rfl, rfl, rfl, h1, r1⟩ := trodAll_cons r0
  obtain ⟨rfl, rfl, rfl⟩ := trodAll_nil r1
  obtain rfl : args = #[v0, v1] := by cases args; simp_all
  obtain ⟨rfl, rfl⟩ := trodVars_none hV
  obtain ⟨a0, len0, cap0, rfl⟩ := okWide_slice Tryd.underlying22 (hval 0 22 v0 rfl rfl)
  have k0 := h0
  have lt0 : ∀ x ∈ p0, x.block < W.heap.size := by obtain ⟨m, hm⟩ := k0; exact DataW.trod_lt m _ _ _ hm
  obtain ⟨ss0, rfl, w0, ft0, n0⟩ := Fl.openOB h0
  obtain ⟨a1, len1, cap1, rfl⟩ := okWide_slice Tryd.underlying35 (hval 1 35 v1 rfl rfl)
  have k1 := h1
  have lt1 : ∀ x ∈ p1, x.block < W.heap.size := by obtain ⟨m, hm⟩ := k1; exact DataW.trod_lt m _ _ _ hm
  obtain ⟨ss1, rfl, w1, ft1, n1⟩ := Dl.openOB h1
  clear hA0 hval0
  refine (walk a0 cap0 ss0 a1 cap1 ss1 W w0 ft0 n0 w1 ft1 n1).mono fun e W' ⟨he, bel⟩ => ?_
  subst he
  exact ⟨_, rfl, _, _, _, [], _, [], hW', trodAll_mk1 (shut_bool Tryd.underlying4 _), (trodAll_cons_mk (Below.trod laidOut (by kernel_rfl) (of_decide_eq_true (by kernel_rfl)) k0 bel lt0) (trodAll_cons_mk (Below.trod laidOut (by kernel_rfl) (of_decide_eq_true (by kernel_rfl)) k1 bel lt1) trodAll_mk0)), rfl, bel.frame _, fun h => by cases h⟩

theorem over : Rows.fnExactApplyDeltasRow.holds Tryd.pinned (OpenSpec.ofChange Rows.fnExactApplyDeltasSpec) :=
  OpenClaim.holds_of_wide 4 Tryd.f4 rfl rfl rfl rfl rfl rfl rfl ⟨rfl, rfl, rfl, rfl, rfl⟩ rfl rfl rfl rfl rfl (by kernel_rfl) Tryd.func4 (by kernel_rfl)
    (of_decide_eq_true (by kernel_rfl)) (by unfold Func.isWrapper; first | (rw [if_pos (by decide +kernel)]; kernel_rfl) | (rw [if_neg (by decide +kernel)]; exact ⟨rfl, rfl⟩))
    (fun os started H enc _ => lifted os started H enc)

theorem proved : Rows.FnExactApplyDeltasCardSaid :=
  Claim7.holds_tied_plain_at .later [] [.data, .pinned] true _ false
    over (fun _ h => by cases h) (by kernel_rfl) (fun _ h => by cases h) fnExactApplyDeltas_row_tie rfl ⟨rfl, rfl⟩ (by kernel_rfl) rfl
    (fun f fn hf hfn => by
      obtain rfl : f = 4 := Option.some.inj ((show Tryd.prog.funcNamed "loop.example/g00172/laws.FnExactApplyDeltas" = some 4 by kernel_rfl).symm.trans hf) |>.symm
      obtain rfl : fn = Tryd.f4 := (Option.some.inj (Tryd.func4.symm.trans hfn)).symm
      exact ⟨by kernel_rfl, fun j t ht => by
        rw [Tryd.params4] at ht
        have hm : t ∈ [22, 35] := by simpa using Array.mem_of_getElem? ht
        have hall : ([22, 35].all fun u => !Tryd.prog.wantsStandIn u) = true := by kernel_rfl
        exact (show Tryd.prog.wantsStandIn t = false by simpa using List.all_eq_true.1 hall t hm)⟩)
    (by kernel_rfl)
end Go.Proofs.YtaggjnaogmhfpaaDoor.ApLaw
namespace Go.Proofs.YtaggjnaogmhfpaaDoor
theorem fnExactApplyDeltas_proved : Rows.FnExactApplyDeltasCardSaid := ApLaw.proved
end Go.Proofs.YtaggjnaogmhfpaaDoor
