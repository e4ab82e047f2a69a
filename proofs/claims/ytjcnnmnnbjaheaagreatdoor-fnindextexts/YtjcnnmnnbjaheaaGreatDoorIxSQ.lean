/- The contract of the specification's IndexFault. No statement is proved here. -/
import Derived.Test.YtjcnnmnnbjaheaaGreatDoorRows
import Derived.Test.YtjcnnmnnbjaheaaGreatDoorLemQ
import Derived.Test.YtjcnnmnnbjaheaaGreatDoorDTabQ
import Derived.Test.YtjcnnmnnbjaheaaGreatDoorHkTQ
import Derived.Test.YtjcnnmnnbjaheaaGreatDoorIdLQ
import Derived.Test.YtjcnnmnnbjaheaaGreatDoorSsCQ
import Derived.Test.YtjcnnmnnbjaheaaGreatDoorPfSQ
import Derived.Test.YtjcnnmnnbjaheaaGreatDoorFmCQ
import Derived.Test.YtjcnnmnnbjaheaaGreatDoorIxMQ
import Derived.Test.YtjcnnmnnbjaheaaGreatDoorIxOQ
import Derived.WalkKit
import Derived.ProofKit
import Derived.Below
import Derived.WalkSpells
import Derived.Deep.QuietTactic
import Derived.BigQuiet
import Derived.Deep.RegionWith
import Derived.Deep.RegionHeld
import Derived.Deep.CutRange
import Derived.Laws.Cover1
namespace Go.Proofs.YtjcnnmnnbjaheaaGreatDoor.En
open Go.ChangeShapes Go.WideShapes Go.ChangeAt Go.RowKit

set_option maxRecDepth 20000 in
set_option maxHeartbeats 4000000 in
theorem specIndexFault (a : Option Addr) (c : Nat) (l : List Ob) (w : World) (h : OB w.heap.size w a l) (hs : SmallO l) (hn : l.length ≤ 1048576) :
    Calls Tryz.prog 11 #[.slice a l.length c] w fun e w' => e = .returned (.int .i64 (ixf l)) ∧ Below w.heap.size w w' := by
  by_cases hm : 200 < l.length
  · have hC : Hid (ixf l = 2) := ixf_many hm
    have q : (200 : Int) < (l.length : Int) := by omega
    go_enter Tryz.func11, Tryz.ntmps11
    go_wp2
    go_ret
    exact ⟨ret_int hC.out.symm, Below.refl _ _⟩
  have q : ¬ (200 : Int) < (l.length : Int) := by omega
  go_enter Tryz.func11, Tryz.ntmps11
  go_wp2
  go_loopw [3, 4, 5] (fun i _o _r wr => ∃ k : Nat, k ≤ l.length ∧ i = .int .i64 k ∧ Hid (∀ j, j < k → eiF l j = 0) ∧ Below w.heap.size w wr) (fun i _ _ _ => l.length - (intOf i).toNat)
  case atStart => exact ⟨0, Nat.zero_le _, rfl, fun j hj => absurd hj (Nat.not_lt_zero _), Below.refl _ _⟩
  case round =>
    obtain ⟨k, hk, rfl, hA, hbel⟩ := hrel
    have hsz := hbel.size
    by_cases hlt : k < l.length
    · have qk : (k : Int) < (l.length : Int) := by omega
      have h3 := h.below hbel
      obtain ⟨g, off, e, hg, d0, d1, d2, d3⟩ := h3 k hlt
      subst e
      have hsl := (hs _ (ob_mem l k hlt)).1
      have hbad : ¬ eiF l k = 0 → Hid (ixf l = eiF l k) := fun hb => ixf_bad hm hlt hA.out hb
      have hgo : eiF l k = 0 → Hid (∀ j, j < k + 1 → eiF l j = 0) := fun h0 => by
        show ∀ j, _
        intro j hj
        by_cases e : j = k
        · rw [e]; exact h0
        · exact hA.out j (by omega)
      have hF : eiF l k = eiF l k := rfl
      conv at hF => rhs; unfold eiF
      have hp : 0 < k → wr.cell? ⟨g, off + (k - 1) * 4, none⟩ = some (.string (l.getD (k - 1) onil).1) ∧ wr.cell? ⟨g, off + (k - 1) * 4 + 1, none⟩ = some (.int .i64 (l.getD (k - 1) onil).2.1) ∧ wr.cell? ⟨g, off + (k - 1) * 4 + 2, none⟩ = some (.int .i64 (l.getD (k - 1) onil).2.2.1) ∧ wr.cell? ⟨g, off + (k - 1) * 4 + 3, none⟩ = some (.string (l.getD (k - 1) onil).2.2.2) := fun hk0 => by
        obtain ⟨g', off', e', _, f0, f1, f2, f3⟩ := h3 (k - 1) (by omega)
        simp only [Option.some.injEq, Addr.mk.injEq, and_true] at e'
        obtain ⟨rfl, rfl⟩ := e'
        exact ⟨f0, f1, f2, f3⟩
      obtain ⟨C, hCe⟩ : ∃ C, l.getD k onil = C := ⟨_, rfl⟩
      obtain ⟨P, hPe⟩ : ∃ P, l.getD (k - 1) onil = P := ⟨_, rfl⟩
      obtain ⟨x0, x1, x2, x3⟩ := C
      obtain ⟨y0, y1, y2, y3⟩ := P
      rw [hCe] at d0 d1 d2 d3 hF hsl
      rw [hPe] at hF hp
      simp only [] at d0 d1 d2 d3 hF hsl hp
      have hN := fun w => specPathFault x0 w hsl
      have hS := fun w => l1In x1 0 3 w
      have hM := fun w => l10ModeC x2 w
      have hO := fun w => l6Is 1 (.inl rfl) x3 w
      have hY := fun w => l10BehindC (y0, y1, y2, y3) (x0, x1, x2, x3) w
      simp only [] at hY
      have hei : eiO (x0, x1, x2, x3) = ei x0 x1 x2 x3 := rfl
      rw [hei] at hF
      clear hei
      have fp : ¬ pf x0 = 0 → ei x0 x1 x2 x3 = pf x0 := fun q => ei_path q
      have fr : pf x0 = 0 → (inB x1 0 3 && inB x2 1 2) = false → ei x0 x1 x2 x3 = 3 := fun q r => ei_range q r
      have fd : pf x0 = 0 → (inB x1 0 3 && inB x2 1 2) = true → isOf 1 x3 = false → ei x0 x1 x2 x3 = 1 := fun q r s => ei_id q r s
      have fk : pf x0 = 0 → (inB x1 0 3 && inB x2 1 2) = true → isOf 1 x3 = true → ei x0 x1 x2 x3 = 0 := fun q r s => ei_ok q r s
      obtain ⟨n, hn'⟩ : ∃ n, pf x0 = n := ⟨_, rfl⟩
      simp only [hn'] at hN fp fr fd fk
      obtain ⟨W, hW⟩ : ∃ W, wr.alloc (.cells #[.string x0, .int .i64 x1, .int .i64 x2, .string x3] 51) = W := ⟨_, rfl⟩
      have bW : Below wr.heap.size wr W := by rw [← hW]; exact allocBelow _ _
      have oW : Rf W wr.heap.size [.string x0, .int .i64 x1, .int .i64 x2, .string x3] := by rw [← hW]; exact Rf.new _ _ _
      have zW : wr.heap.size < W.heap.size := by rw [← hW]; simp
      have m0 := oW.at_ 0 _ rfl
      have hst : 0 < k → bh (y0, y1, y2, y3) (x0, x1, x2, x3) = bhS (y0, y1, y2, y3) (x0, x1, x2, x3) := fun hk0 => bh_same (by have := (ix_stage (hA.out (k - 1) (by omega))).1; rw [hPe] at this; exact this)
      clear hn' hCe hPe hA h3
      go_wp2_with fail
      refine (hN W).mono ?_; rintro e w2 ⟨rfl, b2⟩
      have hB : Below wr.heap.size wr w2 := bW.trans (b2.mono (Nat.le_of_lt zW))
      have B1 : Below w.heap.size w w2 := below_step hbel hsz hB
      have oW2 := oW.below zW b2
      have e0 := oW2.at_ 0 _ rfl
      have e1 := oW2.at_ 1 _ rfl
      have e2 := oW2.at_ 2 _ rfl
      have e3 := oW2.at_ 3 _ rfl
      have hgr : g < wr.heap.size := by omega
      have hwl : wr.heap.size < w2.heap.size := Nat.lt_of_lt_of_le zW b2.size
      clear d0 d1 d2 d3 hN hbel m0 hW bW b2 oW oW2 zW
      by_cases hz : n = 0
      · subst hz
        clear fp
        replace fr := fr rfl
        replace fd := fd rfl
        replace fk := fk rfl
        cases hi1 : inB x1 0 3 with
        | false =>
          have hE := fr (by rw [hi1]; rfl)
          rw [if_neg (by rw [hE]; decide), hE] at hF
          have HC := hbad (by rw [hF]; decide)
          rw [hF] at HC
          rw [hi1] at hS
          clear hbad hgo hF hE fr fd fk hp hO hY hM hi1
          go_wp2_with fail
          refine (hS _).mono ?_; rintro e w3 ⟨rfl, rfl⟩
          go_wp2
          go_ret
          exact ⟨ret_int HC.out.symm, B1⟩
        | true =>
          rw [hi1] at hS
          cases hi2 : inB x2 1 2 with
          | false =>
            have hE := fr (by rw [hi1, hi2]; rfl)
            rw [if_neg (by rw [hE]; decide), hE] at hF
            have HC := hbad (by rw [hF]; decide)
            rw [hF] at HC
            rw [hi2] at hM
            clear hbad hgo hF hE fr fd fk hp hO hY hi1 hi2
            go_wp2_with fail
            refine (hS _).mono ?_; rintro e w3 ⟨rfl, rfl⟩
            go_wp2_with fail
            refine (hM _).mono ?_; rintro e w3 ⟨rfl, rfl⟩
            go_wp2
            go_ret
            exact ⟨ret_int HC.out.symm, B1⟩
          | true =>
            rw [hi2] at hM
            replace fd := fd (by rw [hi1, hi2]; rfl)
            replace fk := fk (by rw [hi1, hi2]; rfl)
            clear fr hi1 hi2
            cases hb : isOf 1 x3 with
            | false =>
              have hE := fd hb
              rw [if_neg (by rw [hE]; decide), hE] at hF
              have HC := hbad (by rw [hF]; decide)
              rw [hF] at HC
              rw [hb] at hO
              clear hbad hgo hF hE fd fk hp hY hb
              go_wp2_with fail
              refine (hS _).mono ?_; rintro e w3 ⟨rfl, rfl⟩
              go_wp2_with fail
              refine (hM _).mono ?_; rintro e w3 ⟨rfl, rfl⟩
              go_wp2_with fail
              go_quiet ((go_at_call 33; exact quietM (hO _)))
              go_wp2
              go_ret
              exact ⟨ret_int HC.out.symm, below_drewN' B1 _⟩
            | true =>
              have hE := fk hb
              rw [if_pos hE] at hF
              rw [hb] at hO
              clear fd fk hE hb
              by_cases hk0 : 0 < k
              · have hI0 : (0 : Int) < (k : Int) := by omega
                obtain ⟨c0, c1, c2, c3⟩ := hp hk0
                have c0 := (hB.cell (p := ⟨g, off + (k - 1) * 4, none⟩) hgr).trans c0
                have c1 := (hB.cell (p := ⟨g, off + (k - 1) * 4 + 1, none⟩) hgr).trans c1
                have c2 := (hB.cell (p := ⟨g, off + (k - 1) * 4 + 2, none⟩) hgr).trans c2
                have c3 := (hB.cell (p := ⟨g, off + (k - 1) * 4 + 3, none⟩) hgr).trans c3
                obtain ⟨m, hmk⟩ : ∃ m, k - 1 = m := ⟨_, rfl⟩
                have hw : IntKind.i64.wrap ((k : Int) - 1) = (m : Int) := by rw [IntKind.wrap_i64]; omega
                have hI2 : (m : Int) < (l.length : Int) := by omega
                rw [hmk] at c0 c1 c2 c3
                clear hp hB hmk
                rw [← hst hk0] at hY
                obtain ⟨Y, hYe⟩ : ∃ Y, bh (y0, y1, y2, y3) (x0, x1, x2, x3) = Y := ⟨_, rfl⟩
                rw [hYe] at hY hF
                have HF : Hid (eiF l k = if 0 < k ∧ Y = false then 1 else 0) := hF
                clear hF hYe hst
                go_wp2_with fail
                refine (hS _).mono ?_; rintro e w3 ⟨rfl, rfl⟩
                go_wp2_with fail
                refine (hM _).mono ?_; rintro e w3 ⟨rfl, rfl⟩
                clear hS hM
                go_wp2_with fail
                go_cut [52] from 35 to 52 (fun s wx => s = .bool (!Y) ∧ Below w3.heap.size w3 wx)
                case first =>
                  clear B1 hbad hgo hsl hgr hwl HF h hs hm
                  go_region_held (fun w' => w'.cell? ⟨wr.heap.size, 0, none⟩ = some (.string x0) ∧ w'.cell? ⟨wr.heap.size, 1, none⟩ = some (.int .i64 x1) ∧ w'.cell? ⟨wr.heap.size, 2, none⟩ = some (.int .i64 x2) ∧ w'.cell? ⟨wr.heap.size, 3, none⟩ = some (.string x3) ∧ w'.cell? ⟨g, off + m * 4, none⟩ = some (.string y0) ∧ w'.cell? ⟨g, off + m * 4 + 1, none⟩ = some (.int .i64 y1) ∧ w'.cell? ⟨g, off + m * 4 + 2, none⟩ = some (.int .i64 y2) ∧ w'.cell? ⟨g, off + m * 4 + 3, none⟩ = some (.string y3)) (first | with_reducible exact ⟨e0, e1, e2, e3, c0, c1, c2, c3⟩ | exact ⟨e0, e1, e2, e3, c0, c1, c2, c3⟩ | with_reducible exact ⟨e0a, e1a, e2a, e3a, c0a, c1a, c2a, c3a⟩)
                    ((first
                      | (go_at_call 33; refine (hO _).mono ?_; rintro e wa ⟨rfl, mq, rfl⟩)
                      | (go_at_call 34; refine (hY _).mono ?_; rintro e wb ⟨rfl, bb⟩; have fb := Fr.ofBelow (lo := 0) (hi := 0) bb; have e0a := fb.cell e0 (.inr (Nat.zero_le _)); have e1a := fb.cell e1 (.inr (Nat.zero_le _)); have e2a := fb.cell e2 (.inr (Nat.zero_le _)); have e3a := fb.cell e3 (.inr (Nat.zero_le _)); have c0a := fb.cell c0 (.inr (Nat.zero_le _)); have c1a := fb.cell c1 (.inr (Nat.zero_le _)); have c2a := fb.cell c2 (.inr (Nat.zero_le _)); have c3a := fb.cell c3 (.inr (Nat.zero_le _)); have Bt1 : Below w3.heap.size w3 wb := (below_drewN' (Below.refl _ _) _).trans bb)))
                  all_goals (go_wp2_with fail; go_meet; exact ⟨rfl, Bt1⟩)
                case rest =>
                obtain ⟨rfl, hb2⟩ := hcut
                have B2 := below_step B1 B1.size hb2
                clear hb2 B1 e0 e1 e2 e3 c0 c1 c2 c3 hO hY
                cases Y with
                | false =>
                  have hF := HF.out
                  rw [if_pos ⟨hk0, rfl⟩] at hF
                  have HC := hbad (by rw [hF]; decide)
                  rw [hF] at HC
                  clear hbad hgo HF hF
                  go_wp2
                  go_ret
                  exact ⟨ret_int HC.out.symm, B2⟩
                | true =>
                  have hF := HF.out
                  rw [if_neg (fun c => Bool.noConfusion c.2)] at hF
                  have HG := hgo hF
                  clear hbad hgo HF hF
                  go_wp2
                  go_roundw
                  case rel => exact ⟨k + 1, by omega, by go_num, HG, B2⟩
                  case measure => first | (simp [intOf]; omega) | simp [intOf]
              · have hI0 : ¬ (0 : Int) < (k : Int) := by omega
                have HG := hgo (by rw [hF, if_neg (fun c => hk0 c.1)])
                clear hbad hgo hF hp hB
                go_wp2_with fail
                refine (hS _).mono ?_; rintro e w3 ⟨rfl, rfl⟩
                go_wp2_with fail
                refine (hM _).mono ?_; rintro e w3 ⟨rfl, rfl⟩
                go_wp2_with fail
                go_quiet ((go_at_call 33; exact quietM (hO _)))
                go_wp2
                go_roundw
                case rel => exact ⟨k + 1, by omega, by go_num, HG, below_drewN' B1 _⟩
                case measure => first | (simp [intOf]; omega) | simp [intOf]
      · have hE := fp hz
        have qn : (n != 0) = true := by simp [hz]
        rw [if_neg (by rw [hE]; exact hz), hE] at hF
        have HC := hbad (by rw [hF]; exact hz)
        rw [hF] at HC
        clear hbad hgo hF hE hp hO hY hM hS fp fr fd fk hz
        go_wp2
        go_ret
        exact ⟨ret_int HC.out.symm, B1⟩
    · have qk : ¬ (k : Int) < (l.length : Int) := by omega
      have hE : Hid (ixf l = 0) := ixf_ok hm (fun j hj => hA.out j (by omega))
      clear hA
      go_wp2
      go_ret
      exact ⟨ret_int hE.out.symm, hbel⟩
end Go.Proofs.YtjcnnmnnbjaheaaGreatDoor.En
