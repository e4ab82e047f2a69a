/- The contract of the specification's ParseIndex. No statement is proved here. -/
import Derived.Test.YtjcnnmnnbjaheaaGreatDoorRows
import Derived.Test.YtjcnnmnnbjaheaaGreatDoorLemQ
import Derived.Test.YtjcnnmnnbjaheaaGreatDoorDTabQ
import Derived.Test.YtjcnnmnnbjaheaaGreatDoorHkTQ
import Derived.Test.YtjcnnmnnbjaheaaGreatDoorLFLemQ
import Derived.Test.YtjcnnmnnbjaheaaGreatDoorIterQ
import Derived.Test.YtjcnnmnnbjaheaaGreatDoorCutLQ
import Derived.Test.YtjcnnmnnbjaheaaGreatDoorIxBQ
import Derived.Test.YtjcnnmnnbjaheaaGreatDoorTrEQ
import Derived.Test.YtjcnnmnnbjaheaaGreatDoorIxMQ
import Derived.Test.YtjcnnmnnbjaheaaGreatDoorIxSQ
import Derived.Test.YtjcnnmnnbjaheaaGreatDoorSgCQ
import Derived.Test.YtjcnnmnnbjaheaaGreatDoorFfIQ
import Derived.Test.YtjcnnmnnbjaheaaGreatDoorIxNQ
import Derived.Test.YtjcnnmnnbjaheaaGreatDoorFxSQ
import Derived.Test.YtjcnnmnnbjaheaaGreatDoorTrWQ
import Derived.Test.YtjcnnmnnbjaheaaGreatDoorXtSQ
import Derived.Test.YtjcnnmnnbjaheaaGreatDoorPiMQ
import Derived.Test.YtjcnnmnnbjaheaaGreatDoorPiTQ
import Derived.WalkKit
import Derived.ProofKit
import Derived.Below
import Derived.WalkSpells
import Derived.Deep.QuietTactic
import Derived.BigQuiet
import Derived.Deep.RegionWith
import Derived.Deep.RegionHeld
import Derived.Deep.CutRange
import Derived.Maps.AppendAt
import Derived.Laws.Cover1
namespace Go.Proofs.YtjcnnmnnbjaheaaGreatDoor.En
open Go.ChangeShapes Go.WideShapes Go.ChangeAt Go.RowKit

theorem stopMark {p : Prop} (h : Hid p) : p := h
set_option maxRecDepth 20000 in
set_option maxHeartbeats 8000000 in
theorem specParseIndex (s : ByteArray) (w : World) (hs : s.size ≤ 1048576) :
    Calls Tryz.prog 9 #[.string s] w fun e w' => EP (pC s) (pAt s) (pE s) w e w' := by
  have hMany : 12000 < s.size → Hid (pC s = 2 ∧ pAt s = 0 ∧ pE s = []) := fun h => p_many h
  obtain ⟨W1, hW1⟩ : ∃ W1, w.alloc (.cells #[.int .i64 0, .int .i64 0, .slice none 0 0] 27) = W1 := ⟨_, rfl⟩
  have b1 : Below w.heap.size w W1 := by rw [← hW1]; exact allocBelow _ _
  have zW : W1.heap.size = w.heap.size + 1 := by rw [← hW1]; simp
  have r1 : Rf W1 w.heap.size [.int .i64 0, .int .i64 0, .slice none 0 0] := by rw [← hW1]; exact Rf.new _ _ _
  by_cases hz : 12000 < s.size
  · have hC := hMany hz
    have qz : (12000 : Int) < (s.size : Int) := by omega
    clear hMany
    go_enter Tryz.func9, Tryz.ntmps9
    have RV := ((r1.set (o := 0) (by simp) (.int .i64 2)).set (o := 1) (by simp) (.int .i64 0)).set (o := 2) (by simp) (.slice none 0 0)
    have BV := ((b1.setCell (p := ⟨w.heap.size, 0, none⟩) (Nat.le_refl _) (.int .i64 2)).setCell (p := ⟨w.heap.size, 1, none⟩) (Nat.le_refl _) (.int .i64 0)).setCell (p := ⟨w.heap.size, 2, none⟩) (Nat.le_refl _) (.slice none 0 0)
    have c0 := r1.at_ 0 _ rfl
    have c1 := r1.at_ 1 _ rfl
    have c2 := r1.at_ 2 _ rfl
    have f0 := r1.fz 0
    have f1 := r1.fz 1
    have f2 := r1.fz 2
    obtain ⟨V, hV⟩ : ∃ V, ((W1.setCell ⟨w.heap.size, 0, none⟩ (.int .i64 2)).setCell ⟨w.heap.size, 1, none⟩ (.int .i64 0)).setCell ⟨w.heap.size, 2, none⟩ (.slice none 0 0) = V := ⟨_, rfl⟩
    rw [hV] at RV BV
    have HV : Hid (_ = V) := hV
    have v0 := RV.at_ 0 _ rfl
    have v1 := RV.at_ 1 _ rfl
    have v2 := RV.at_ 2 _ rfl
    clear hV RV r1 b1
    go_wp2
    rw [HV.out]
    refine bodyPost_ret (v := .agg #[.int .i64 2, .int .i64 0, .slice none 0 0]) (by simp [results, Tryz.results9, go_sem, v0, v1, v2]) rfl ?_
    exact ⟨_, ret_agg3 (by rw [hC.out.1]) (by rw [hC.out.2.1]) rfl, by rw [hC.out.2.2]; exact nilE _ _, BV⟩
  have hSp := fun w => l1Split s w hs
  have hsm := lines_small s hs
  have hls := fun k hk => Nat.le_trans (Te.line_size s k hk) hs
  have hll : (linesOf s).length ≤ 1048576 := by
    have h := spl_len_le s.data.toList
    rw [size_eq] at h
    have e : (linesOf s).length = (spl s.data.toList).length := by simp [linesOf, linesFrom]
    omega
  have hxT : ∀ k, k < (linesOf s).length → (spl s.data.toList)[k]? = some ((linesOf s).getD k ByteArray.empty).data.toList := fun k hk => by
    have hk' : k < (spl s.data.toList).length := by simpa [linesOf, linesFrom] using hk
    have e : (linesOf s).getD k ByteArray.empty = mkB ((spl s.data.toList)[k]) := by
      simp [linesOf, linesFrom, List.getD, hk']
    rw [e, mkB_data, List.getElem?_eq_getElem hk']
  have hxl : (spl s.data.toList).length = (linesOf s).length := by simp [linesOf, linesFrom]
  have hText : ∀ k L, k < (linesOf s).length → Up (spl s.data.toList) k L → entL ((linesOf s).getD k ByteArray.empty).data.toList = none → ¬ (k + 1 = (linesOf s).length ∧ sumT ((linesOf s).getD k ByteArray.empty).data.toList = true) → Hid (pC s = 5 ∧ pAt s = (k : Int) ∧ pE s = []) := fun k L hk h e n => up_text hz h (hxT k hk) e (by rw [hxl]; exact n)
  have hAll : ∀ L, Up (spl s.data.toList) (linesOf s).length L → Hid (pC s = 5 ∧ pAt s = ((linesOf s).length : Int) ∧ pE s = []) := fun L h => by
    rw [← hxl] at h
    have g := up_all hz h
    rw [hxl] at g
    exact g
  have hSum : ∀ k L, k < (linesOf s).length → Up (spl s.data.toList) k L → entL ((linesOf s).getD k ByteArray.empty).data.toList = none → k + 1 = (linesOf s).length → sumT ((linesOf s).getD k ByteArray.empty).data.toList = true → Hid (pA s = L ∧ sumT (pR s) = true) := fun k L hk h e n q => up_sum h (hxT k hk) e (by rw [hxl]; exact n) q
  have hMore : ∀ k L o, k < (linesOf s).length → Up (spl s.data.toList) k L → entL ((linesOf s).getD k ByteArray.empty).data.toList = some o → Hid (Up (spl s.data.toList) (k + 1) (L ++ [o])) := fun k L o hk h e => h.more (hxT k hk) e
  have hBad : sumT (pR s) = true → ¬ ixf (pA s) = 0 → Hid (pC s = ixf (pA s) ∧ pAt s = 0 ∧ pE s = []) := fun q f => p_fault hz q f
  have hClash : sumT (pR s) = true → ixf (pA s) = 0 → ¬ xB (pA s) = s → Hid (pC s = 6 ∧ pAt s = 0 ∧ pE s = []) := fun q f k => p_clash hz q f k
  have hOk : sumT (pR s) = true → ixf (pA s) = 0 → xB (pA s) = s → Hid (pC s = 0 ∧ pAt s = 0 ∧ pE s = pA s) := fun q f k => p_ok hz q f k
  have hSm := pA_small hs
  have hLn : (pA s).length ≤ 1048576 := Nat.le_trans (pA_len s) hs
  have u0 : Up (spl s.data.toList) 0 [] := Up.zero _
  have qz : ¬ (12000 : Int) < (s.size : Int) := by omega
  obtain ⟨PC, hPC⟩ : ∃ x, pC s = x := ⟨_, rfl⟩
  obtain ⟨PT, hPT⟩ : ∃ x, pAt s = x := ⟨_, rfl⟩
  obtain ⟨PE, hPE⟩ : ∃ x, pE s = x := ⟨_, rfl⟩
  obtain ⟨PA, hPA⟩ : ∃ x, pA s = x := ⟨_, rfl⟩
  obtain ⟨PR, hPR⟩ : ∃ x, sumT (pR s) = x := ⟨_, rfl⟩
  obtain ⟨xs, hxs⟩ : ∃ xs, spl s.data.toList = xs := ⟨_, rfl⟩
  obtain ⟨T, hT⟩ : ∃ T, linesOf s = T := ⟨_, rfl⟩
  simp only [hPC, hPT, hPE, hPA, hPR, hxs, hT] at hSp hsm hls hll hText hAll hSum hMore hBad hClash hOk hSm hLn u0 ⊢
  clear hPC hPT hPE hPA hPR hxs hT hxl hxT hMany
  obtain ⟨W2, hW2⟩ : ∃ W, W1.alloc (.cells #[] 51) = W := ⟨_, rfl⟩
  have b2 : Below W1.heap.size W1 W2 := by rw [← hW2]; exact allocBelow _ _
  have own2 : W2.ownsRow (w.heap.size + 1) 51 4 (.slice (some ⟨w.heap.size + 1, 0, none⟩) 0 0) ([] : List Ob).length (ocells []) := by rw [← hW2, ← zW]; exact litE _
  have z2 : Hid (W2.heap.size = w.heap.size + 2) := by show _ = _; rw [← hW2]; simp; omega
  go_enter Tryz.func9, Tryz.ntmps9
  go_wp2_with fail
  refine (hSp _).mono ?_
  rintro e w3 ⟨vT, rfl, oT, b3⟩
  have hgT : ∀ g, vT.ownBlock = some g → W2.heap.size ≤ g := fun g hg => (oT.lt g hg).1
  obtain ⟨aT, cT, rfl, sT, -⟩ := SS_of_row oT rfl hsm
  have own3 := own2.kept (grown_of_below b3 none) (.inr (by simp [Value.ownBlock]))
  have B3 : Below (w.heap.size + 1) W1 w3 := (b2.mono (Nat.le_of_eq zW.symm)).trans (b3.mono (by have := z2.out; omega))
  have hne3 : ∀ g off, aT = some ⟨g, off, none⟩ → (Value.slice (some ⟨w.heap.size + 1, 0, none⟩) 0 0).ownBlock ≠ some g := fun g off e q => by
    subst e
    have h1 := hgT g rfl
    have h2 : w.heap.size + 1 = g := by simpa [Value.ownBlock] using q
    have := z2.out
    omega
  clear hSp own2 b2 b3 hW2 oT hgT z2 hsm hW1
  go_wp2
  go_loopw [3, 5, 6, 7, 8, 9, 10, 44, 53] (fun v sm i _a _b _c _d _e _f wr => ∃ (k : Nat) (sb : Bool) (L : List Ob), k ≤ T.length ∧ sm = .bool sb ∧ i = .int .i64 k ∧ Hid (L.length ≤ k) ∧ Hid (sb = false → Up xs k L) ∧ Hid (sb = true → k = T.length ∧ PA = L ∧ PR = true) ∧ wr.ownsRow (w.heap.size + 1) 51 4 v L.length (ocells L) ∧ Below (w.heap.size + 1) W1 wr ∧ SS wr aT T ∧ ∀ g off, aT = some ⟨g, off, none⟩ → v.ownBlock ≠ some g) (fun _ _ i _ _ _ _ _ _ _ => T.length - (intOf i).toNat)
  case atStart => exact ⟨0, false, [], Nat.zero_le _, rfl, rfl, Nat.le_refl _, (by show _ → _; intro _; exact u0), (by show _ → _; intro h; cases h), own3, B3, sT, hne3⟩
  case round =>
    obtain ⟨k, sb, L, hk, rfl, rfl, hL, hU, hD, hown, hbel, hS, hne⟩ := hrel
    clear own3 hne3 sT B3 u0
    by_cases hlt : k < T.length
    · cases sb
      rotate_left
      · exact absurd (hD.out rfl).1 (by omega)
      clear hD hAll hBad hClash hOk hSm hLn
      have qk : (k : Int) < (T.length : Int) := by omega
      have hUp := hU.out rfl
      have hLk : Hid (L.length = k) := hUp.2
      have ht := fun e n => hText k L hlt hUp e n
      have hs1 := fun e n q => hSum k L hlt hUp e n q
      have hm := fun o e => hMore k L o hlt hUp e
      obtain ⟨g, off, e, hg, d0⟩ := hS.2 k hlt
      have hxz := hls k hlt
      clear hText hSum hMore hls hU hUp
      obtain ⟨x, hx⟩ : ∃ x, T.getD k ByteArray.empty = x := ⟨_, rfl⟩
      rw [hx] at d0 hxz
      simp only [hx] at ht hs1 hm
      have hUn := fun w => Te.l6UnlineC x w hxz
      have hLn := fun w => l10LineC (Te.unT x) w (Nat.le_trans (Te.unT_size x) hxz)
      have hSu := fun w => l10SumC (Te.unT x) w (Nat.le_trans (Te.unT_size x) hxz)
      have hEo := ent_open (x := x)
      have hEe := ent_end (x := x)
      have hSo := sum_open (x := x)
      have hSe := sum_end (x := x)
      obtain ⟨E, hE⟩ : ∃ E, Te.endB x = E := ⟨_, rfl⟩
      obtain ⟨Y, hY⟩ : ∃ Y, Te.unT x = Y := ⟨_, rfl⟩
      obtain ⟨EL, hEL⟩ : ∃ y, entL x.data.toList = y := ⟨_, rfl⟩
      obtain ⟨ST, hST⟩ : ∃ y, sumT x.data.toList = y := ⟨_, rfl⟩
      simp only [hE, hY, hEL, hST] at hUn hLn hSu hEo hEe hSo hSe ht hs1 hm
      clear hE hY hx hEL hST
      subst e
      go_wp2_with fail
      refine (hUn _).mono ?_; rintro e w2' ⟨rfl, rfl⟩
      clear hUn
      go_wp2_with fail
      refine (hLn _).mono ?_; rintro e w2 ⟨hR, b2⟩
      have zb : w.heap.size + 1 ≤ w2'.heap.size := by have := hbel.size; omega
      have B2 := hbel.trans (b2.mono zb)
      have own2 := hown.kept (grown_of_below b2 none) (by cases hv : u3.ownBlock <;> simp)
      have sT2 := hS.below b2
      have z2 := b2.size
      clear hLn hbel hown hS b2 d0 hg
      cases E
      · -- no line feed
        have H := ht (hEo rfl) (fun q => by rw [hSo rfl] at q; cases q.2)
        obtain ⟨ya, yb, ym, yn, ok, rfl⟩ : ∃ (a b : ByteArray) (m n : Int) (ok : Bool), e = .returned (.tuple #[.agg #[.string a, .int .i64 m, .int .i64 n, .string b], .bool ok]) := by
          rcases hR with ⟨o, _, h⟩ | ⟨_, a, b, m, n, h⟩
          · exact ⟨_, _, _, _, _, h⟩
          · exact ⟨_, _, _, _, _, h⟩
        clear ht hs1 hm hEo hEe hSo hSe hSu hR
        obtain ⟨W3, hW3⟩ : ∃ W, w2.alloc (.cells #[.string ya, .int .i64 ym, .int .i64 yn, .string yb] 51) = W := ⟨_, rfl⟩
        have b3 : Below w2.heap.size w2 W3 := by rw [← hW3]; exact allocBelow _ _
        have z3 : W3.heap.size = w2.heap.size + 1 := by rw [← hW3]; simp
        have B3 : Below (w.heap.size + 1) W1 W3 := B2.trans (b3.mono (by omega))
        have rb := rfBelowAt r1 B3 (by omega)
        have BB := b1.trans (B3.mono (by omega))
        have RV := ((rb.set (o := 0) (by simp) (.int .i64 5)).set (o := 1) (by simp) (.int .i64 k)).set (o := 2) (by simp) (.slice none 0 0)
        have BV := ((BB.setCell (p := ⟨w.heap.size, 0, none⟩) (Nat.le_refl _) (.int .i64 5)).setCell (p := ⟨w.heap.size, 1, none⟩) (Nat.le_refl _) (.int .i64 k)).setCell (p := ⟨w.heap.size, 2, none⟩) (Nat.le_refl _) (.slice none 0 0)
        have c0 := rb.at_ 0 _ rfl
        have c1 := rb.at_ 1 _ rfl
        have c2 := rb.at_ 2 _ rfl
        have f0 := rb.fz 0
        have f1 := rb.fz 1
        have f2 := rb.fz 2
        obtain ⟨V, hV⟩ : ∃ V, ((W3.setCell ⟨w.heap.size, 0, none⟩ (.int .i64 5)).setCell ⟨w.heap.size, 1, none⟩ (.int .i64 k)).setCell ⟨w.heap.size, 2, none⟩ (.slice none 0 0) = V := ⟨_, rfl⟩
        rw [hV] at RV BV
        have HV : Hid (_ = V) := hV
        have v0 := RV.at_ 0 _ rfl
        have v1 := RV.at_ 1 _ rfl
        have v2 := RV.at_ 2 _ rfl
        clear hV RV rb BB
        go_wp2
        rw [HV.out]
        refine bodyPost_ret (v := .agg #[.int .i64 5, .int .i64 k, .slice none 0 0]) (by simp [results, Tryz.results9, go_sem, v0, v1, v2]) rfl ?_
        exact ⟨_, ret_agg3 (by rw [H.out.1]) (by rw [H.out.2.1]) rfl, by rw [H.out.2.2]; exact nilE _ _, BV⟩
      have hEL := hEe rfl
      have hST := hSe rfl
      clear hEo hSo hEe hSe
      rcases hR with ⟨o, ho, rfl⟩ | ⟨ho, ya, yb, ym, yn, rfl⟩
      · -- an entry
        have HM := hm o (hEL.trans ho)
        obtain ⟨x0, x1, x2, x3⟩ := o
        simp only [] at HM ho ⊢
        clear ht hs1 hm hSu ho hEL hST
        obtain ⟨W3, hW3⟩ : ∃ W, w2.alloc (.cells #[.string x0, .int .i64 x1, .int .i64 x2, .string x3] 51) = W := ⟨_, rfl⟩
        have b3 : Below w2.heap.size w2 W3 := by rw [← hW3]; exact allocBelow _ _
        have z3 : W3.heap.size = w2.heap.size + 1 := by rw [← hW3]; simp
        have B3 : Below (w.heap.size + 1) W1 W3 := B2.trans (b3.mono (by omega))
        have oW : Rf W3 w2.heap.size [.string x0, .int .i64 x1, .int .i64 x2, .string x3] := by rw [← hW3]; exact Rf.new _ _ _
        have m0 := oW.at_ 0 _ rfl
        have m1 := oW.at_ 1 _ rfl
        have m2 := oW.at_ 2 _ rfl
        have m3 := oW.at_ 3 _ rfl
        have own3 := own2.kept (grown_of_below b3 none) (by cases hv : u3.ownBlock <;> simp)
        have sT3 := sT2.below b3
        have z4 : w.heap.size + 1 ≤ W3.heap.size := by omega
        have bN := allocBelow W3 (.cells #[.string x0, .int .i64 x1, .int .i64 x2, .string x3] 51)
        have own4 := own3.kept (grown_of_below bN none) (by cases hv : u3.ownBlock <;> simp)
        have sT4 := sT3.below bN
        have B4 := B3.trans (bN.mono z4)
        have nw := newE W3 (x0, x1, x2, x3)
        rw [z3] at nw
        have z5 : w.heap.size + 1 ≤ (W3.alloc (.cells #[.string x0, .int .i64 x1, .int .i64 x2, .string x3] 51)).heap.size := by simp; omega
        have hgT : g < W3.heap.size := by
          obtain ⟨b, off', e, hb, _⟩ := sT3.2 k hlt
          simp only [Option.some.injEq, Addr.mk.injEq, and_true] at e
          omega
        have hLk' := hLk.out
        clear own2 sT2 B2 b3 own3 sT3 B3 bN oW
        go_wp2_with (at_builtin; refine stopMark ?_)
        change wpList _ _ _ _ _ _
        refine wpList_appE rfl (.tmp 49) (.tmp 51) rfl (w.heap.size + 1) u3 L rfl own4 _ _ [(x0, x1, x2, x3)] rfl nw (by simp; omega) z5 ?_
        intro v6 w6 o6 g6 n6 q6
        have B6 := B4.grown g6 z5 (fun j hj => (own4.lt j hj).1)
        have sT6 : SS w6 (some ⟨g, off, none⟩) T := Te.SS.keptBy sT4 g6 (fun g' off' e q => hne g' off' e q)
        have hne6 : ∀ g' off', (some ⟨g, off, none⟩ : Option Addr) = some ⟨g', off', none⟩ → v6.ownBlock ≠ some g' := fun g' off' e q => by
          rcases q6 with h1 | h1
          · exact hne g' off' e (h1 ▸ q)
          · rw [h1] at q
            simp only [Option.some.injEq, Addr.mk.injEq, and_true, World.size_alloc] at e q
            omega
        clear own4 g6 n6 q6 nw B4 sT4 m0 m1 m2 m3 hne
        go_wp2
        go_roundw
        case rel => exact ⟨k + 1, false, L ++ [(x0, x1, x2, x3)], by omega, rfl, by go_num, (by show _ ≤ _; simp [hLk']), (by show _ → _; intro _; exact HM.out), (by show _ → _; intro h; cases h), o6, B6, sT6, hne6⟩
        case measure => simp [intOf]; omega
      have heL : EL = none := hEL.trans ho
      have ht' := ht heL
      have hs' := hs1 heL
      clear ht hs1 hm hEL ho
      obtain ⟨W3, hW3⟩ : ∃ W, w2.alloc (.cells #[.string ya, .int .i64 ym, .int .i64 yn, .string yb] 51) = W := ⟨_, rfl⟩
      have b3 : Below w2.heap.size w2 W3 := by rw [← hW3]; exact allocBelow _ _
      have z3 : W3.heap.size = w2.heap.size + 1 := by rw [← hW3]; simp
      have B3 : Below (w.heap.size + 1) W1 W3 := B2.trans (b3.mono (by omega))
      have rb := rfBelowAt r1 B3 (by omega)
      have BB := b1.trans (B3.mono (by omega))
      have own3 := own2.kept (grown_of_below b3 none) (by cases hv : u3.ownBlock <;> simp)
      have sT3 := sT2.below b3
      clear own2 sT2 B2 b3
      by_cases hkn : k + 1 = T.length
      rotate_left
      · -- not the last line
        have H := ht' (fun q => hkn q.1)
        have qn : ¬ (k : Int) = (T.length : Int) - 1 := by omega
        clear ht' hs' hSu hST own3 sT3 B3
        have RV := ((rb.set (o := 0) (by simp) (.int .i64 5)).set (o := 1) (by simp) (.int .i64 k)).set (o := 2) (by simp) (.slice none 0 0)
        have BV := ((BB.setCell (p := ⟨w.heap.size, 0, none⟩) (Nat.le_refl _) (.int .i64 5)).setCell (p := ⟨w.heap.size, 1, none⟩) (Nat.le_refl _) (.int .i64 k)).setCell (p := ⟨w.heap.size, 2, none⟩) (Nat.le_refl _) (.slice none 0 0)
        have c0 := rb.at_ 0 _ rfl
        have c1 := rb.at_ 1 _ rfl
        have c2 := rb.at_ 2 _ rfl
        have f0 := rb.fz 0
        have f1 := rb.fz 1
        have f2 := rb.fz 2
        obtain ⟨V, hV⟩ : ∃ V, ((W3.setCell ⟨w.heap.size, 0, none⟩ (.int .i64 5)).setCell ⟨w.heap.size, 1, none⟩ (.int .i64 k)).setCell ⟨w.heap.size, 2, none⟩ (.slice none 0 0) = V := ⟨_, rfl⟩
        rw [hV] at RV BV
        have HV : Hid (_ = V) := hV
        have v0 := RV.at_ 0 _ rfl
        have v1 := RV.at_ 1 _ rfl
        have v2 := RV.at_ 2 _ rfl
        clear hV RV rb BB
        go_wp2
        rw [HV.out]
        refine bodyPost_ret (v := .agg #[.int .i64 5, .int .i64 k, .slice none 0 0]) (by simp [results, Tryz.results9, go_sem, v0, v1, v2]) rfl ?_
        exact ⟨_, ret_agg3 (by rw [H.out.1]) (by rw [H.out.2.1]) rfl, by rw [H.out.2.2]; exact nilE _ _, BV⟩
      have qn : (T.length : Int) - 1 = (k : Int) := by omega
      go_wp2_with fail
      refine (hSu _).mono ?_; rintro e w4 ⟨rfl, b4⟩
      have own4 := own3.kept (grown_of_below b4 none) (by cases hv : u3.ownBlock <;> simp)
      have sT4 := sT3.below b4
      have B4 := B3.trans (b4.mono (by omega))
      clear own3 sT3 hSu BB rb B3
      by_cases hsy : sumS Y.data.toList = true
      · -- the sum
        have H := hs' hkn (hST.trans hsy)
        clear ht' hs' hST hW3 b4
        go_wp2
        go_roundw
        case rel => exact ⟨k + 1, true, L, by omega, rfl, by go_num, (by show _ ≤ _; have := hL.out; omega), (by show _ → _; intro h; cases h), (by show _ → _; intro _; exact ⟨hkn, H.out.1, H.out.2⟩), own4, B4, sT4, hne⟩
        case measure => simp [intOf]; omega
      · have H := ht' (fun q => hsy (hST.symm.trans q.2))
        have hsf : sumS Y.data.toList = false := by simpa using hsy
        have rb := rfBelowAt r1 B4 (by omega)
        have BB := b1.trans (B4.mono (by omega))
        clear ht' hs' hST own4 sT4 B4 hW3 b4 hsy
        have RV := ((rb.set (o := 0) (by simp) (.int .i64 5)).set (o := 1) (by simp) (.int .i64 k)).set (o := 2) (by simp) (.slice none 0 0)
        have BV := ((BB.setCell (p := ⟨w.heap.size, 0, none⟩) (Nat.le_refl _) (.int .i64 5)).setCell (p := ⟨w.heap.size, 1, none⟩) (Nat.le_refl _) (.int .i64 k)).setCell (p := ⟨w.heap.size, 2, none⟩) (Nat.le_refl _) (.slice none 0 0)
        have c0 := rb.at_ 0 _ rfl
        have c1 := rb.at_ 1 _ rfl
        have c2 := rb.at_ 2 _ rfl
        have f0 := rb.fz 0
        have f1 := rb.fz 1
        have f2 := rb.fz 2
        obtain ⟨V, hV⟩ : ∃ V, ((w4.setCell ⟨w.heap.size, 0, none⟩ (.int .i64 5)).setCell ⟨w.heap.size, 1, none⟩ (.int .i64 k)).setCell ⟨w.heap.size, 2, none⟩ (.slice none 0 0) = V := ⟨_, rfl⟩
        rw [hV] at RV BV
        have HV : Hid (_ = V) := hV
        have v0 := RV.at_ 0 _ rfl
        have v1 := RV.at_ 1 _ rfl
        have v2 := RV.at_ 2 _ rfl
        clear hV RV rb BB
        go_wp2
        rw [HV.out]
        refine bodyPost_ret (v := .agg #[.int .i64 5, .int .i64 k, .slice none 0 0]) (by simp [results, Tryz.results9, go_sem, v0, v1, v2]) rfl ?_
        exact ⟨_, ret_agg3 (by rw [H.out.1]) (by rw [H.out.2.1]) rfl, by rw [H.out.2.2]; exact nilE _ _, BV⟩
    · have ek : k = T.length := by omega
      have qk : ¬ (k : Int) < (T.length : Int) := by omega
      have rb := rfBelowAt r1 hbel (by omega)
      have BB := b1.trans (hbel.mono (by omega))
      clear hS hne hText hSum hMore hls
      cases sb
      · -- no sum
        have HU := hU.out rfl
        rw [ek] at HU
        have H := hAll L HU
        clear hU hD hL hown hAll hBad hClash hOk hSm hLn HU hbel
        have RV := ((rb.set (o := 0) (by simp) (.int .i64 5)).set (o := 1) (by simp) (.int .i64 (T.length : Int))).set (o := 2) (by simp) (.slice none 0 0)
        have BV := ((BB.setCell (p := ⟨w.heap.size, 0, none⟩) (Nat.le_refl _) (.int .i64 5)).setCell (p := ⟨w.heap.size, 1, none⟩) (Nat.le_refl _) (.int .i64 (T.length : Int))).setCell (p := ⟨w.heap.size, 2, none⟩) (Nat.le_refl _) (.slice none 0 0)
        have c0 := rb.at_ 0 _ rfl
        have c1 := rb.at_ 1 _ rfl
        have c2 := rb.at_ 2 _ rfl
        have f0 := rb.fz 0
        have f1 := rb.fz 1
        have f2 := rb.fz 2
        obtain ⟨V, hV⟩ : ∃ V, ((wr.setCell ⟨w.heap.size, 0, none⟩ (.int .i64 5)).setCell ⟨w.heap.size, 1, none⟩ (.int .i64 (T.length : Int))).setCell ⟨w.heap.size, 2, none⟩ (.slice none 0 0) = V := ⟨_, rfl⟩
        rw [hV] at RV BV
        have HV : Hid (_ = V) := hV
        have v0 := RV.at_ 0 _ rfl
        have v1 := RV.at_ 1 _ rfl
        have v2 := RV.at_ 2 _ rfl
        clear hV RV rb BB
        go_wp2
        rw [HV.out]
        refine bodyPost_ret (v := .agg #[.int .i64 5, .int .i64 (T.length : Int), .slice none 0 0]) (by simp [results, Tryz.results9, go_sem, v0, v1, v2]) rfl ?_
        exact ⟨_, ret_agg3 (by rw [H.out.1]) (by rw [H.out.2.1]) rfl, by rw [H.out.2.2]; exact nilE _ _, BV⟩
      obtain ⟨-, rfl, rfl⟩ := hD.out rfl
      replace hBad := hBad rfl
      replace hClash := hClash rfl
      replace hOk := hOk rfl
      obtain ⟨va, vc, ev⟩ := shapeK3 hown
      subst ev
      have OBr := OB.of hown
      have hIx := fun w h => specIndexFault va vc PA w h hSm hLn
      have hXt := fun w h hf => l10TextC va vc PA w h hf
      obtain ⟨n, hnn⟩ : ∃ n, PA.length = n := ⟨_, rfl⟩
      simp only [hnn] at hown hIx hXt hLn
      have zb := hbel.size
      clear hU hD hL hAll rb BB
      obtain ⟨F, hF⟩ : ∃ F, ixf PA = F := ⟨_, rfl⟩
      obtain ⟨X, hX⟩ : ∃ X, xB PA = X := ⟨_, rfl⟩
      simp only [hF, hX] at hBad hClash hOk hIx hXt
      go_wp2_with fail
      refine (hIx _ OBr).mono ?_; rintro e w4 ⟨rfl, b4⟩
      have own4 := hown.kept (grown_of_below b4 none) (by cases va <;> simp [Value.ownBlock])
      have B4 := hbel.trans (b4.mono (by omega))
      have z4 := b4.size
      clear hown hbel hIx OBr b4
      by_cases hF0 : F = 0
      rotate_left
      · have H := hBad hF0
        have qn : (F != 0) = true := ne_beq hF0
        have rb := rfBelowAt r1 B4 (by omega)
        have BB := b1.trans (B4.mono (by omega))
        clear hBad hClash hOk own4 B4 hXt
        have RV := ((rb.set (o := 0) (by simp) (.int .i64 F)).set (o := 1) (by simp) (.int .i64 0)).set (o := 2) (by simp) (.slice none 0 0)
        have BV := ((BB.setCell (p := ⟨w.heap.size, 0, none⟩) (Nat.le_refl _) (.int .i64 F)).setCell (p := ⟨w.heap.size, 1, none⟩) (Nat.le_refl _) (.int .i64 0)).setCell (p := ⟨w.heap.size, 2, none⟩) (Nat.le_refl _) (.slice none 0 0)
        have c0 := rb.at_ 0 _ rfl
        have c1 := rb.at_ 1 _ rfl
        have c2 := rb.at_ 2 _ rfl
        have f0 := rb.fz 0
        have f1 := rb.fz 1
        have f2 := rb.fz 2
        obtain ⟨V, hV⟩ : ∃ V, ((w4.setCell ⟨w.heap.size, 0, none⟩ (.int .i64 F)).setCell ⟨w.heap.size, 1, none⟩ (.int .i64 0)).setCell ⟨w.heap.size, 2, none⟩ (.slice none 0 0) = V := ⟨_, rfl⟩
        rw [hV] at RV BV
        have HV : Hid (_ = V) := hV
        have v0 := RV.at_ 0 _ rfl
        have v1 := RV.at_ 1 _ rfl
        have v2 := RV.at_ 2 _ rfl
        clear hV RV rb BB
        go_wp2
        rw [HV.out]
        refine bodyPost_ret (v := .agg #[.int .i64 F, .int .i64 0, .slice none 0 0]) (by simp [results, Tryz.results9, go_sem, v0, v1, v2]) rfl ?_
        exact ⟨_, ret_agg3 (by rw [H.out.1]) (by rw [H.out.2.1]) rfl, by rw [H.out.2.2]; exact nilE _ _, BV⟩
      replace hClash := hClash hF0
      replace hOk := hOk hF0
      replace hXt := fun w h => hXt w h hF0
      have OB4 : OB w4.heap.size w4 va PA := by rw [← hnn] at own4; exact OB.of own4
      subst hF0
      clear hBad
      go_wp2_with fail
      refine (hXt _ OB4).mono ?_; rintro e w5 ⟨rfl, b5⟩
      have own5 := own4.kept (grown_of_below b5 none) (by cases va <;> simp [Value.ownBlock])
      have B5 := B4.trans (b5.mono (by omega))
      have rb := rfBelowAt r1 B5 (by omega)
      have BB := b1.trans (B5.mono (by omega))
      clear own4 B4 hXt OB4 b5
      by_cases hXs : X = s
      · have H := hOk hXs
        subst hXs
        clear hOk hClash
        have RV := ((rb.set (o := 0) (by simp) (.int .i64 0)).set (o := 1) (by simp) (.int .i64 0)).set (o := 2) (by simp) (.slice va n vc)
        have BV := ((BB.setCell (p := ⟨w.heap.size, 0, none⟩) (Nat.le_refl _) (.int .i64 0)).setCell (p := ⟨w.heap.size, 1, none⟩) (Nat.le_refl _) (.int .i64 0)).setCell (p := ⟨w.heap.size, 2, none⟩) (Nat.le_refl _) (.slice va n vc)
        have oV := (ownMonoF own5 (b := w.heap.size) (by omega)).kept (grownTrans (grownTrans (grownSet _ w.heap.size 0 (.int .i64 0)) (grownSet _ w.heap.size 1 (.int .i64 0))) (grownSet _ w.heap.size 2 (.slice va n vc))) (blockCases _ _ fun j q1 q2 => by cases q2; have := (own5.lt _ q1).1; omega)
        have c0 := rb.at_ 0 _ rfl
        have c1 := rb.at_ 1 _ rfl
        have c2 := rb.at_ 2 _ rfl
        have f0 := rb.fz 0
        have f1 := rb.fz 1
        have f2 := rb.fz 2
        obtain ⟨V, hV⟩ : ∃ V, ((w5.setCell ⟨w.heap.size, 0, none⟩ (.int .i64 0)).setCell ⟨w.heap.size, 1, none⟩ (.int .i64 0)).setCell ⟨w.heap.size, 2, none⟩ (.slice va n vc) = V := ⟨_, rfl⟩
        rw [hV] at RV BV oV
        have HV : Hid (_ = V) := hV
        have v0 := RV.at_ 0 _ rfl
        have v1 := RV.at_ 1 _ rfl
        have v2 := RV.at_ 2 _ rfl
        clear hV RV rb BB
        go_wp2
        rw [HV.out]
        refine bodyPost_ret (v := .agg #[.int .i64 0, .int .i64 0, .slice va n vc]) (by simp [results, Tryz.results9, go_sem, v0, v1, v2]) rfl ?_
        exact ⟨_, ret_agg3 (by rw [H.out.1]) (by rw [H.out.2.1]) rfl, by rw [H.out.2.2, hnn]; exact oV, BV⟩
      have H := hClash hXs
      have qx : (X.toList == s.toList) = false := beq_bytes_false hXs
      clear hOk hClash
      have RV := ((rb.set (o := 0) (by simp) (.int .i64 6)).set (o := 1) (by simp) (.int .i64 0)).set (o := 2) (by simp) (.slice none 0 0)
      have BV := ((BB.setCell (p := ⟨w.heap.size, 0, none⟩) (Nat.le_refl _) (.int .i64 6)).setCell (p := ⟨w.heap.size, 1, none⟩) (Nat.le_refl _) (.int .i64 0)).setCell (p := ⟨w.heap.size, 2, none⟩) (Nat.le_refl _) (.slice none 0 0)
      have c0 := rb.at_ 0 _ rfl
      have c1 := rb.at_ 1 _ rfl
      have c2 := rb.at_ 2 _ rfl
      have f0 := rb.fz 0
      have f1 := rb.fz 1
      have f2 := rb.fz 2
      obtain ⟨V, hV⟩ : ∃ V, ((w5.setCell ⟨w.heap.size, 0, none⟩ (.int .i64 6)).setCell ⟨w.heap.size, 1, none⟩ (.int .i64 0)).setCell ⟨w.heap.size, 2, none⟩ (.slice none 0 0) = V := ⟨_, rfl⟩
      rw [hV] at RV BV
      have HV : Hid (_ = V) := hV
      have v0 := RV.at_ 0 _ rfl
      have v1 := RV.at_ 1 _ rfl
      have v2 := RV.at_ 2 _ rfl
      clear hV RV rb BB
      go_wp2
      rw [HV.out]
      refine bodyPost_ret (v := .agg #[.int .i64 6, .int .i64 0, .slice none 0 0]) (by simp [results, Tryz.results9, go_sem, v0, v1, v2]) rfl ?_
      exact ⟨_, ret_agg3 (by rw [H.out.1]) (by rw [H.out.2.1]) rfl, by rw [H.out.2.2]; exact nilE _ _, BV⟩

end Go.Proofs.YtjcnnmnnbjaheaaGreatDoor.En
