/- The contract of the program's (*diffTable).fill: the table of common lines, and how many there are. No statement is proved here. -/
import Derived.Test.YtciddfpkcdicaaaDoorRows
import Derived.Test.YtciddfpkcdicaaaDoorLemQ
import Derived.Test.YtciddfpkcdicaaaDoorComQ
import Derived.Test.YtciddfpkcdicaaaDoorDTabQ
import Derived.WalkKit
import Derived.ProofKit
import Derived.Below
import Derived.WalkSpells
import Derived.Deep.QuietTactic
import Derived.BigQuiet
namespace Go.Proofs.YtciddfpkcdicaaaDoor
open Go.ChangeShapes Go.WideShapes Go.ChangeAt Go.RowKit

/-- The table with the rows from k on done. -/
def FillAt (p : Nat) (xs ys : List ByteArray) (k : Nat) (w : World) : Prop :=
  ∃ cm sk, DT w p cm sk ∧ (∀ j, j < 101 → cm (k % 2) j = (comAt xs ys k j : Int)) ∧
    (∀ i j, k ≤ i → i < xs.length → j < ys.length → ¬ xs.getD i ByteArray.empty = ys.getD j ByteArray.empty → sk i j = skipA xs ys i j)
/-- The table with the rows behind i done, and of row i the places from k on. -/
def FillIn (p : Nat) (xs ys : List ByteArray) (i k : Nat) (w : World) : Prop :=
  ∃ cm sk, DT w p cm sk ∧ (∀ j, j < 101 → cm ((i + 1) % 2) j = (comAt xs ys (i + 1) j : Int)) ∧ (∀ j, k ≤ j → j < 101 → cm (i % 2) j = (comAt xs ys i j : Int)) ∧
    (∀ i' j, i < i' ∨ (i' = i ∧ k ≤ j) → i' < xs.length → j < ys.length → ¬ xs.getD i' ByteArray.empty = ys.getD j ByteArray.empty → sk i' j = skipA xs ys i' j)
theorem tmod2 (i : Nat) : Int.tmod (i : Int) 2 = ((i % 2 : Nat) : Int) := by rw [Int.tmod_eq_emod_of_nonneg (by omega)]; omega

set_option maxRecDepth 20000 in
set_option maxHeartbeats 3000000 in
theorem fill (p : Nat) (a1 a2 : Option Addr) (c1 c2 : Nat) (xs ys : List ByteArray) (w : World) (h0 : DT w p (fun _ _ => 0) (fun _ _ => false)) (h1 : SSB p w a1 xs) (h2 : SSB p w a2 ys) (n1 : xs.length ≤ 100) (n2 : ys.length ≤ 100) :
    Calls Tryd.prog 66 #[.pointer (some ⟨p, 0, none⟩), .slice a1 xs.length c1, .slice a2 ys.length c2] w fun e w' => e = .returned (.int .i64 (comAt xs ys 0 0 : Int)) ∧ FillAt p xs ys 0 w' ∧ w.grownBy w' (some p) := by
  go_enter Tryd.func66, Tryd.ntmps66
  go_wp2
  go_loopw [7] (fun i wr => ∃ k : Nat, k ≤ xs.length ∧ i = .int .i64 ((k : Int) - 1) ∧ FillAt p xs ys k wr ∧ w.grownBy wr (some p)) (fun i _ => (intOf i + 1).toNat)
  case atStart => exact ⟨xs.length, Nat.le_refl _, by go_num, ⟨_, _, h0, fun j _ => by rw [comAt_end_left xs ys _ _ (Nat.le_refl _)]; rfl, fun i j hi hi' => absurd hi (by omega)⟩, World.grownBy.refl _ _⟩
  case round =>
    obtain ⟨k, hk, hv, hF, hgr⟩ := hrel
    cases k with
    | zero =>
      obtain rfl : u7 = .int .i64 (-1) := hv
      have HF : Hid (FillAt p xs ys 0 wr) := hF
      obtain ⟨cm, sk, hD, hc, hs⟩ := hF
      have c00 := (hD.1 0 0 (by omega) (by omega)).1
      rw [hc 0 (by omega)] at c00
      clear hD hc hs
      go_wp2
      go_ret
      exact ⟨rfl, HF.out, hgr⟩
    | succ i =>
      obtain rfl : u7 = .int .i64 (i : Int) := by rw [hv]; congr 1; omega
      obtain ⟨cm, sk, hD, hc, hs⟩ := hF
      have t1 := tmod2 i
      have t2 : Int.tmod ((i : Int) + 1) 2 = (((i + 1) % 2 : Nat) : Int) := tmod2 (i + 1)
      obtain ⟨r, hr⟩ : ∃ r, i % 2 = r := ⟨_, rfl⟩
      obtain ⟨r', hr'⟩ : ∃ r', (i + 1) % 2 = r' := ⟨_, rfl⟩
      have hr2 : r < 2 := by omega
      have hr2' : r' < 2 := by omega
      have HR : Hid (i % 2 = r) := hr
      have HR' : Hid ((i + 1) % 2 = r') := hr'
      rw [hr] at t1
      rw [hr'] at t2 hc
      clear hr hr' hv
      go_wp2
      go_quiet (fail)
      have hcl := fun ty => clearRow (hD.drewN nq) r hr2 ty
      have hD1 := (hD.drewN nq).clr r hr2
      have hg1 := grownTrans (grownDrew hgr nq) (grownSets p (List.replicate 101 (.int .i64 0)) (r * 101) _)
      obtain ⟨W1, hW1⟩ : ∃ W1, (wr.drewN nq).setCells p (r * 101) (List.replicate 101 (.int .i64 0)) = W1 := ⟨_, rfl⟩
      rw [hW1] at hD1 hg1 
      simp only [hW1] at hcl
      clear hW1 hD hgr
      go_wp2
      clear hcl
      go_loopw [10] (fun j wr => ∃ k : Nat, k ≤ ys.length ∧ j = .int .i64 ((k : Int) - 1) ∧ FillIn p xs ys i k wr ∧ w.grownBy wr (some p)) (fun j _ => (intOf j + 1).toNat)
      case atStart =>
        refine ⟨ys.length, Nat.le_refl _, by go_num, ⟨_, _, hD1, ?_, ?_, ?_⟩, hg1⟩
        · intro j hj
          rw [HR'.out, ← hc j hj]
          have := HR.out
          have := HR'.out
          simp only [putR]
          rw [if_neg (by omega)]
        · intro j hj _
          rw [HR.out, comAt_end_right xs ys i j hj]
          simp [putR]
        · intro i' j hij
          rcases hij with h | ⟨h, h'⟩
          · exact hs i' j (by omega)
          · intro _ hj; omega
      case round =>
        clear hD1 hc hs hg1 t1 t2
        obtain ⟨k, hkj, hv, hF, hgr⟩ := hrel
        cases k with
        | zero =>
          obtain rfl : u10 = .int .i64 (-1) := hv
          have HF : Hid (FillAt p xs ys i wr) := by
            show FillAt p xs ys i wr
            obtain ⟨cm, sk, hD, _, hc, hs⟩ := hF
            exact ⟨cm, sk, hD, fun j hj => hc j (Nat.zero_le _) hj, fun i' j hi hi' hj hne => hs i' j (by omega) hi' hj hne⟩
          have HG : Hid (w.grownBy wr (some p)) := hgr
          clear hF hgr HR HR' h0 h1 h2 hr2 hr2' hkj
          go_wp2
          go_roundw
          case rel => exact ⟨i, by omega, by go_num, HF.out, HG.out⟩
          case measure => first | (simp [intOf]; omega) | simp [intOf]
        | succ j =>
          obtain rfl : u10 = .int .i64 (j : Int) := by rw [hv]; congr 1; omega
          clear hv
          have h1' := h1.grown hgr (fun _ e => by cases e; exact Nat.le_refl _)
          have h2' := h2.grown hgr (fun _ e => by cases e; exact Nat.le_refl _)
          obtain ⟨b, off, rfl, hb, hc⟩ := h1'.2 i hk
          obtain ⟨b', off', rfl, hb', hc'⟩ := h2'.2 j hkj
          obtain ⟨s, hse⟩ : ∃ s, s = xs.getD i ByteArray.empty := ⟨_, rfl⟩
          obtain ⟨t, hte⟩ : ∃ t, t = ys.getD j ByteArray.empty := ⟨_, rfl⟩
          rw [← hse] at hc
          rw [← hte] at hc'
          have HS : Hid (s = xs.getD i ByteArray.empty) := hse
          have HT : Hid (t = ys.getD j ByteArray.empty) := hte
          clear hse hte h1' h2'
          have q1 : (i : Int) < (xs.length : Int) := by omega
          have q2 : (j : Int) < (ys.length : Int) := by omega
          obtain ⟨cm, sk, hD, hcb, hcr, hs⟩ := hF
          rw [HR'.out] at hcb
          rw [HR.out] at hcr
          have e1 := (hD.1 r' (j + 1) hr2' (by omega)).1
          have e2 := (hD.1 r j hr2 (by omega)).1
          have f2 := (hD.1 r j hr2 (by omega)).2
          rw [hcb (j + 1) (by omega)] at e1
          have hb1 := (comAt_le xs ys (i + 1) (j + 1)).1
          by_cases hst : s = t
          · have HST : Hid (s = t) := hst
            have hbe := beq_bytes_true hst
            clear hst
            go_wp2
            go_quiet (fail)
            go_wp2
            go_region
            have hD1 := (hD.drewN (nq + 1)).setC r j hr2 (by omega) ((comAt xs ys (i + 1) (j + 1) : Int) + 1)
            have hg1 := grownTrans (grownDrew hgr (nq + 1)) (grownSet _ p (r * 101 + j) (.int .i64 ((comAt xs ys (i + 1) (j + 1) : Int) + 1)))
            obtain ⟨W1, hW1⟩ : ∃ W1, (wr.drewN (nq + 1)).setCell ⟨p, r * 101 + j, none⟩ (.int .i64 ((comAt xs ys (i + 1) (j + 1) : Int) + 1)) = W1 := ⟨_, rfl⟩
            rw [hW1] at hD1 hg1 ⊢
            have heq : comAt xs ys i j = comAt xs ys (i + 1) (j + 1) + 1 := comAt_eq xs ys i j hk hkj (by rw [← HS.out, ← HT.out]; exact HST.out)
            have HF : Hid (FillIn p xs ys i j W1) := by
              refine ⟨_, _, hD1, ?_, ?_, ?_⟩
              · intro j' hj'
                rw [HR'.out]
                have := HR.out
                have := HR'.out
                rw [putC_other _ _ _ _ _ _ (by omega)]
                exact hcb j' hj'
              · intro j' hj1 hj2
                rw [HR.out]
                by_cases e : j' = j
                · subst e; rw [putC_same, heq]; omega
                · rw [putC_other _ _ _ _ _ _ (fun c => e c.2)]; exact hcr j' (by omega) hj2
              · intro i' j' hij hi' hj' hne
                by_cases e : i' = i ∧ j' = j
                · obtain ⟨rfl, rfl⟩ := e
                  exact absurd (by rw [← HS.out, ← HT.out]; exact HST.out) hne
                · exact hs i' j' (by omega) hi' hj' hne
            clear hD1 hW1 heq hcb hcr hs hD e1 e2 f2 HS HT HST hgr hb1
            go_wp2
            go_roundw
            case rel => exact ⟨j, by omega, by go_num, HF.out, hg1⟩
            case measure => first | (simp [intOf]; omega) | simp [intOf]
          · have HST : Hid (¬ s = t) := hst
            have hbe := beq_bytes_false hst
            clear hst
            have g1 := (hD.1 r' j hr2' (by omega)).1
            have g2 := (hD.1 r (j + 1) hr2 (by omega)).1
            rw [hcb j (by omega)] at g1
            rw [hcr (j + 1) (by omega) (by omega)] at g2
            have k2 := (hD.2 i j (by omega) (by omega)).1
            have k3 := (hD.2 i j (by omega) (by omega)).2
            have q3 : (i : Int) < 100 := by omega
            have q4 : (j : Int) < 100 := by omega
            go_wp2
            go_quiet (fail)
            go_wp2
            go_region
            have hD1 := (hD.drewN (nq + 1)).setS i j (by omega) (by omega) (decide (comAt xs ys i (j + 1) ≤ comAt xs ys (i + 1) j))
            have hg1 := grownTrans (grownDrew hgr (nq + 1)) (grownSet _ p (202 + i * 100 + j) (.bool (decide (comAt xs ys i (j + 1) ≤ comAt xs ys (i + 1) j))))
            obtain ⟨W1, hW1⟩ : ∃ W1, (wr.drewN (nq + 1)).setCell ⟨p, 202 + i * 100 + j, none⟩ (.bool (decide (comAt xs ys i (j + 1) ≤ comAt xs ys (i + 1) j))) = W1 := ⟨_, rfl⟩
            rw [hW1] at hD1 hg1 ⊢
            clear hW1 g1 g2 k2 k3 e1 e2 f2 hc hc' hgr hD
            have g1 := (hD1.1 r' j hr2' (by omega)).1
            have g2 := (hD1.1 r (j + 1) hr2 (by omega)).1
            have e2 := (hD1.1 r j hr2 (by omega)).1
            have f2 := (hD1.1 r j hr2 (by omega)).2
            rw [hcb j (by omega)] at g1
            rw [hcr (j + 1) (by omega) (by omega)] at g2
            have heq : comAt xs ys i j = max (comAt xs ys (i + 1) j) (comAt xs ys i (j + 1)) := comAt_ne xs ys i j hk hkj (by rw [← HS.out, ← HT.out]; exact HST.out)
            have HE : Hid (comAt xs ys i j = max (comAt xs ys (i + 1) j) (comAt xs ys i (j + 1))) := heq
            clear heq
            go_wp2
            go_region
            have hv : (if comAt xs ys (i + 1) j < comAt xs ys i (j + 1) then (comAt xs ys i (j + 1) : Int) else (comAt xs ys (i + 1) j : Int)) = (comAt xs ys i j : Int) := by
              rw [HE.out]
              split <;> omega
            rw [hv]
            have hD2 := hD1.setC r j hr2 (by omega) (comAt xs ys i j : Int)
            have hg2 := grownTrans hg1 (grownSet _ p (r * 101 + j) (.int .i64 (comAt xs ys i j : Int)))
            obtain ⟨W2, hW2⟩ : ∃ W2, (W1.setCell ⟨p, r * 101 + j, none⟩ (.int .i64 (comAt xs ys i j : Int))) = W2 := ⟨_, rfl⟩
            rw [hW2] at hD2 hg2 ⊢
            have HF : Hid (FillIn p xs ys i j W2.drew) := by
              refine ⟨_, _, (hD2 : DT W2.drew p _ _), ?_, ?_, ?_⟩
              · intro j' hj'
                rw [HR'.out]
                have := HR.out
                have := HR'.out
                rw [putC_other _ _ _ _ _ _ (by omega)]
                exact hcb j' hj'
              · intro j' hj1 hj2
                rw [HR.out]
                by_cases e : j' = j
                · subst e; rw [putC_same]
                · rw [putC_other _ _ _ _ _ _ (fun c => e c.2)]; exact hcr j' (by omega) hj2
              · intro i' j' hij hi' hj' hne
                by_cases e : i' = i ∧ j' = j
                · obtain ⟨rfl, rfl⟩ := e
                  rw [putS_same]; rfl
                · rw [putS_other _ _ _ _ _ _ e]; exact hs i' j' (by omega) hi' hj' hne
            have HG : Hid (w.grownBy W2.drew (some p)) := (⟨hg2.os, hg2.tape, hg2.output, hg2.size, hg2.block⟩ : w.grownBy W2.drew (some p))
            obtain ⟨W3, hW3⟩ : ∃ W3, W2.drew = W3 := ⟨_, rfl⟩
            rw [hW3] at HF HG ⊢
            clear hW3 hW2 hD2 hg2 hv hD1 hg1 HE g1 g2 e2 f2 hcb hcr hs hb1 HS HT HST
            go_wp2
            go_roundw
            case rel => exact ⟨j, by omega, by go_num, HF.out, HG.out⟩
            case measure => first | (simp [intOf]; omega) | simp [intOf]
end Go.Proofs.YtciddfpkcdicaaaDoor
