/- The contract of the program's writeTree, walked. No statement is proved here. -/
import Derived.Test.YtijphomojljckaaGreatDoorRows
import Derived.Test.YtijphomojljckaaGreatDoorLemQ
import Derived.Test.YtijphomojljckaaGreatDoorInQ
import Derived.Test.YtijphomojljckaaGreatDoorComQ
import Derived.Test.YtijphomojljckaaGreatDoorHkTQ
import Derived.Test.YtijphomojljckaaGreatDoorIterQ
import Derived.Test.YtijphomojljckaaGreatDoorIdLQ
import Derived.Test.YtijphomojljckaaGreatDoorTeLQ
import Derived.Test.YtijphomojljckaaGreatDoorTrCQ
import Derived.Test.YtijphomojljckaaGreatDoorJnCQ
import Derived.WalkKit
import Derived.ProofKit
import Derived.Below
import Derived.WalkSpells
import Derived.Deep.RegionWith
import Derived.Deep.RegionHeld
import Derived.Deep.QuietTactic
import Derived.BigQuiet
import Derived.Laws.Cover1
import Derived.Deep.CutRange
namespace Go.Proofs.YtijphomojljckaaGreatDoor.Te
open Go.ChangeShapes Go.WideShapes Go.ChangeAt Go.RowKit

/-- What writeTree answers: no fault, and the text is in the builder; or a fault. -/
def WT (B b : Nat) (l : List Ob) (w : World) (e : Ending) (w' : World) : Prop :=
  Below B w w' ∧ ((trE l = 0 ∧ e = .returned .nilIface ∧ TB B b (trL l) w') ∨ (¬ trE l = 0 ∧ e = .returned (.iface 78 (.agg #[.int .i64 (trE l)]))))
theorem ret_fault {c d : Int} (h : c = d) : Ending.returned (.iface 78 (.agg #[.int .i64 c])) = .returned (.iface 78 (.agg #[.int .i64 d])) := by rw [h]
theorem obB {B : Nat} {w w' : World} {a : Option Addr} {l : List Ob} (h : OB B w a l) (hb : Below B w w') : OB B w' a l := fun k hk => by
  obtain ⟨g, off, e, hg, d0, d1, d2⟩ := h k hk
  exact ⟨g, off, e, hg, (hb.cell (p := ⟨g, off + k * 3, none⟩) hg).trans d0, (hb.cell (p := ⟨g, off + k * 3 + 1, none⟩) hg).trans d1, (hb.cell (p := ⟨g, off + k * 3 + 2, none⟩) hg).trans d2⟩
theorem keepC {w w1 : World} {g o : Nat} {v : Value} (b : Below w.heap.size w w1) (h : w.cell? ⟨g, o, none⟩ = some v) : w1.cell? ⟨g, o, none⟩ = some v := (b.cell (p := ⟨g, o, none⟩) (cellLt h)).trans h
set_option maxRecDepth 20000 in
set_option maxHeartbeats 4000000 in
theorem writeTree (B b : Nat) (a : Option Addr) (c : Nat) (l : List Ob) (w : World) (hT : TB B b [] w) (hbs : B ≤ w.heap.size) (h : OB B w a l) (hg : MwG w) (hgB : 0 < B) (hn : l.length ≤ 1048576) :
    Calls Tryz.prog 47 #[.pointer (some ⟨b, 0, none⟩), .slice a l.length c] w fun e w' => WT B b l w e w' := by
  by_cases hm : 100 < l.length
  · have hC : Hid (trE l = 2) := trE_many hm
    have q : (100 : Int) < (l.length : Int) := by omega
    go_enter Tryz.func47, Tryz.ntmps47
    go_wp2
    go_ret
    exact ⟨Below.refl _ _, .inr ⟨by rw [hC.out]; decide, ret_fault hC.out.symm⟩⟩
  have q : ¬ (100 : Int) < (l.length : Int) := by omega
  go_enter Tryz.func47, Tryz.ntmps47
  go_wp2
  go_loopw [15] (fun i wr => ∃ k : Nat, k ≤ l.length ∧ i = .int .i64 k ∧ Hid (∀ j, j < k → teF l j = 0) ∧ TB B b (trL (l.take k)) wr ∧ Below B w wr) (fun i _ => l.length - (intOf i).toNat)
  case atStart => exact ⟨0, Nat.zero_le _, rfl, fun j hj => absurd hj (Nat.not_lt_zero _), hT, Below.refl _ _⟩
  case round =>
    clear hT
    obtain ⟨k, hk, rfl, hA, hTk, hbel⟩ := hrel
    have hsz := hbel.size
    by_cases hlt : k < l.length
    · have qk : (k : Int) < (l.length : Int) := by omega
      have h3 : OB B wr a l := obB h hbel
      have hg3 := hg.below hbel hgB
      obtain ⟨g, off, e, hgo, d0, d1, d2⟩ := h3 k hlt
      subst e
      have hbad : ¬ teF l k = 0 → Hid (trE l = teF l k) := fun hb => trE_bad hm hlt hA.out hb
      have hgo2 : teF l k = 0 → Hid (∀ j, j < k + 1 → teF l j = 0) := fun h0 => by
        show ∀ j, _
        intro j hj
        by_cases e : j = k
        · rw [e]; exact h0
        · exact hA.out j (by omega)
      have hln := tr_len k hk (fun j hj => teF_ef (hA.out j hj))
      have htk := trL_take l k hlt
      have hF : teF l k = teF l k := rfl
      conv at hF => rhs; unfold teF
      have hp : 0 < k → wr.cell? ⟨g, off + (k - 1) * 3, none⟩ = some (.string (l.getD (k - 1) onil).1) := fun hk0 => by
        obtain ⟨g', off', e', _, f0, _, _⟩ := h3 (k - 1) (by omega)
        simp only [Option.some.injEq, Addr.mk.injEq, and_true] at e'
        obtain ⟨rfl, rfl⟩ := e'
        exact f0
      obtain ⟨C, hCe⟩ : ∃ C, l.getD k onil = C := ⟨_, rfl⟩
      obtain ⟨P, hPe⟩ : ∃ P, (l.getD (k - 1) onil).1 = P := ⟨_, rfl⟩
      obtain ⟨x0, x1, x2⟩ := C
      rw [hCe] at d0 d1 d2 hF htk
      rw [hPe] at hF hp
      simp only [] at d0 d1 d2 hF
      have hE := fun w => efC x0 x2 x1 w
      clear hCe hPe hA h3
      obtain ⟨W1, hW1⟩ : ∃ W, wr.alloc (.cells #[.string x0, .int .i64 x1, .string x2] 72) = W := ⟨_, rfl⟩
      have b1 : Below wr.heap.size wr W1 := by rw [← hW1]; exact allocBelow _ _
      have r1 : Rf W1 wr.heap.size [.string x0, .int .i64 x1, .string x2] := by rw [← hW1]; exact Rf.new _ _ _
      have zz : wr.heap.size < W1.heap.size := by rw [← hW1]; simp
      have c0 := r1.at_ 0 _ rfl
      have c1 := r1.at_ 1 _ rfl
      have c2 := r1.at_ 2 _ rfl
      go_wp2_with fail
      refine (hE _).mono ?_; rintro e w2 ⟨rfl, b2⟩
      have b12 : Below wr.heap.size wr w2 := b1.trans (b2.mono b1.size)
      have B2 : Below B w w2 := hbel.trans (b12.mono (by omega))
      have T2 := hTk.below b12
      have r2 := r1.below zz b2
      have e0 := r2.at_ 0 _ rfl
      have e1 := r2.at_ 1 _ rfl
      have e2 := r2.at_ 2 _ rfl
      have hg4 := hg3.below b12 (by omega)
      have hp2 := fun hk0 => keepC b12 (hp hk0)
      have s2 : B ≤ w2.heap.size := Nat.le_trans hbs B2.size
      clear hE b1 b2 r1 c0 c1 c2 hp hg3 hTk hbel d0 d1 d2 hW1
      obtain ⟨E, hEe⟩ : ∃ E, ef x0 x1 x2 = E := ⟨_, rfl⟩
      have HE : Hid (ef x0 x1 x2 = E) := hEe
      rw [hEe] at hF ⊢
      clear hEe
      by_cases hE0 : E = 0
      · rw [if_pos hE0] at hF
        subst hE0
        obtain ⟨n0, n1, n2⟩ := ef_zero HE.out
        have y0 := nf_size n0
        have y2 := isOf_size n2
        have ywd := wd_size x1
        have HG : ∀ w5 : World, TB B b (trL (l.take k) ++ wl [wd x1, x2, x0]) w5 → Hid (TB B b (trL (l.take (k + 1))) w5) := fun w5 h5 => by
          show TB _ _ _ _
          rw [htk, ← wl_el (x0, x1, x2)]
          exact h5
        have m0 := hg4.1
        have m1 := hg4.2.1
        have m2 := hg4.2.2
        clear htk hg4
        obtain ⟨O, hO⟩ : ∃ O, decide (0 < k ∧ leT x0 P = true) = O := ⟨_, rfl⟩
        go_wp2
        go_cut [39] from 27 to 38 (fun s wx => s = .bool O ∧ ∃ n, wx = w2.drewN n)
        case first =>
          clear hbad hgo2 hF HG T2 m0 m1 m2 e1 e2
          by_cases hk0 : 0 < k
          · have hI0 : (0 : Int) < (k : Int) := by omega
            have ep := hp2 hk0
            obtain ⟨m, hmk⟩ : ∃ m, k - 1 = m := ⟨_, rfl⟩
            have hw : IntKind.i64.wrap ((k : Int) - 1) = (m : Int) := by rw [IntKind.wrap_i64]; omega
            have hI2 : (m : Int) < (l.length : Int) := by omega
            rw [hmk] at ep
            clear hp2 hmk
            cases hle : leT x0 P with
            | true =>
              have hOt : O = true := by rw [← hO, hle]; exact decide_eq_true ⟨hk0, rfl⟩
              subst hOt
              clear hO
              unfold leT at hle
              cases hlb : Op.bytesLess x0.toList P.toList with
              | true =>
                clear hle
                go_quiet (fail)
                go_wp2_with fail
                go_meet
                exact ⟨rfl, _, rfl⟩
              | false =>
                rw [hlb, Bool.false_or] at hle
                go_quiet (fail)
                go_wp2_with fail
                go_meet
                exact ⟨rfl, _, rfl⟩
            | false =>
              have hOt : O = false := by rw [← hO, hle]; exact decide_eq_false (fun c => Bool.noConfusion c.2)
              subst hOt
              clear hO
              unfold leT at hle
              obtain ⟨hl1, hl2⟩ := Bool.or_eq_false_iff.1 hle
              clear hle
              go_quiet (fail)
              go_wp2_with fail
              go_meet
              exact ⟨rfl, _, rfl⟩
          · have hI0 : ¬ (0 : Int) < (k : Int) := by omega
            have hOt : O = false := by rw [← hO]; exact decide_eq_false (fun c => hk0 c.1)
            subst hOt
            clear hO hp2
            go_quiet (fail)
            go_wp2_with fail
            go_meet
            exact ⟨rfl, _, rfl⟩
        case rest =>
        obtain ⟨rfl, nq, rfl⟩ := hcut
        cases O with
        | true =>
          have hOt := of_decide_eq_true hO
          rw [if_pos hOt] at hF
          have HC := hbad (by rw [hF]; decide)
          rw [hF] at HC
          have hne : ¬ trE l = 0 := by rw [HC.out]; decide
          clear hbad hgo2 hF HG T2 hp2 hOt hO
          go_wp2
          go_ret
          exact ⟨below_drewN' B2 _, .inr ⟨hne, ret_fault HC.out.symm⟩⟩
        | false =>
          have hOt := of_decide_eq_false hO
          rw [if_neg hOt] at hF
          have HA := hgo2 hF
          clear hbad hgo2 hF hp2 hOt hO
          have b3 : Below w2.heap.size w2 (w2.drewN nq).drew := below_drew (below_drewN' (Below.refl _ _) nq)
          have hTB : ∀ o, TB B b (trL (l.take k)) ((w2.drewN nq).drew.alloc o) := fun o => T2.below (b3.trans (allocBelow (w2.drewN nq).drew o))
          rcases inB13 n1 with rfl | rfl | rfl
          · have hWW := writeWords B b (w2.drewN nq).drew.heap.size 0 3 (trL (l.take k)) [⟨#[102, 105, 108, 101]⟩, x2, x0] _ (hTB _) (by show B ≤ ((w2.drewN nq).drew.alloc _).heap.size; have := (b3.trans (allocBelow (w2.drewN nq).drew (.cells #[.string ⟨#[102, 105, 108, 101]⟩, .string x2, .string x0] 9))).size; omega) (ss3 (w2.drewN nq).drew ⟨#[102, 105, 108, 101]⟩ x2 x0 (by decide) (by omega) (by omega)) (by simp) (by simp) (by simp) (by have z : (⟨#[102, 105, 108, 101]⟩ : ByteArray).size = 4 := rfl; simp [tot]; omega) (by omega)
            go_wp2
            go_region_with (go_at_call 73; refine hWW.mono ?_; rintro e w5 ⟨rfl, T5, b5⟩)
            all_goals
              have B5 : Below B w w5 := (B2.trans ((b3.trans (allocBelow (w2.drewN nq).drew _)).mono s2)).trans b5
              have HT := (HG w5 T5).out
              clear T5 b5
              go_wp2
              go_roundw
              case rel => exact ⟨k + 1, by omega, by go_num, HA, HT, B5⟩
              case measure => first | (simp [intOf]; omega) | simp [intOf]
          · have hWW := writeWords B b (w2.drewN nq).drew.heap.size 0 3 (trL (l.take k)) [⟨#[114, 117, 110]⟩, x2, x0] _ (hTB _) (by show B ≤ ((w2.drewN nq).drew.alloc _).heap.size; have := (b3.trans (allocBelow (w2.drewN nq).drew (.cells #[.string ⟨#[114, 117, 110]⟩, .string x2, .string x0] 9))).size; omega) (ss3 (w2.drewN nq).drew ⟨#[114, 117, 110]⟩ x2 x0 (by decide) (by omega) (by omega)) (by simp) (by simp) (by simp) (by have z : (⟨#[114, 117, 110]⟩ : ByteArray).size = 3 := rfl; simp [tot]; omega) (by omega)
            go_wp2
            go_region_with (go_at_call 73; refine hWW.mono ?_; rintro e w5 ⟨rfl, T5, b5⟩)
            all_goals
              have B5 : Below B w w5 := (B2.trans ((b3.trans (allocBelow (w2.drewN nq).drew _)).mono s2)).trans b5
              have HT := (HG w5 T5).out
              clear T5 b5
              go_wp2
              go_roundw
              case rel => exact ⟨k + 1, by omega, by go_num, HA, HT, B5⟩
              case measure => first | (simp [intOf]; omega) | simp [intOf]
          · have hWW := writeWords B b (w2.drewN nq).drew.heap.size 0 3 (trL (l.take k)) [⟨#[116, 114, 101, 101]⟩, x2, x0] _ (hTB _) (by show B ≤ ((w2.drewN nq).drew.alloc _).heap.size; have := (b3.trans (allocBelow (w2.drewN nq).drew (.cells #[.string ⟨#[116, 114, 101, 101]⟩, .string x2, .string x0] 9))).size; omega) (ss3 (w2.drewN nq).drew ⟨#[116, 114, 101, 101]⟩ x2 x0 (by decide) (by omega) (by omega)) (by simp) (by simp) (by simp) (by have z : (⟨#[116, 114, 101, 101]⟩ : ByteArray).size = 4 := rfl; simp [tot]; omega) (by omega)
            go_wp2
            go_region_with (go_at_call 73; refine hWW.mono ?_; rintro e w5 ⟨rfl, T5, b5⟩)
            all_goals
              have B5 : Below B w w5 := (B2.trans ((b3.trans (allocBelow (w2.drewN nq).drew _)).mono s2)).trans b5
              have HT := (HG w5 T5).out
              clear T5 b5
              go_wp2
              go_roundw
              case rel => exact ⟨k + 1, by omega, by go_num, HA, HT, B5⟩
              case measure => first | (simp [intOf]; omega) | simp [intOf]
      · rw [if_neg hE0] at hF
        have qE : (E != 0) = true := ne_beq hE0
        have HC := hbad (by rw [hF]; exact hE0)
        rw [hF] at HC
        have hne : ¬ trE l = 0 := by rw [HC.out]; exact hE0
        clear hbad hgo2 hF hp2 hE0 T2 htk
        go_wp2
        go_ret
        exact ⟨B2, .inr ⟨hne, ret_fault HC.out.symm⟩⟩
    · have qk : ¬ (k : Int) < (l.length : Int) := by omega
      have HC : Hid (trE l = 0) := trE_ok hm (fun j hj => hA.out j (by omega))
      have e : l.take k = l := List.take_of_length_le (by omega)
      rw [e] at hTk
      clear hA e
      go_wp2
      go_ret
      exact ⟨hbel, .inl ⟨HC.out, rfl, hTk⟩⟩
end Go.Proofs.YtijphomojljckaaGreatDoor.Te
