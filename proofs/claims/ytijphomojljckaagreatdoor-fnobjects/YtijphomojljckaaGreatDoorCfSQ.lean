/- The contract of the specification's CommitFault. No statement is proved here. -/
import Derived.Test.YtijphomojljckaaGreatDoorRows
import Derived.Test.YtijphomojljckaaGreatDoorLemQ
import Derived.Test.YtijphomojljckaaGreatDoorInQ
import Derived.Test.YtijphomojljckaaGreatDoorComQ
import Derived.Test.YtijphomojljckaaGreatDoorHkTQ
import Derived.Test.YtijphomojljckaaGreatDoorIdLQ
import Derived.Test.YtijphomojljckaaGreatDoorTeLQ
import Derived.Test.YtijphomojljckaaGreatDoorTrCQ
import Derived.Test.YtijphomojljckaaGreatDoorNtCQ
import Derived.WalkKit
import Derived.ProofKit
import Derived.Below
import Derived.WalkSpells
import Derived.Deep.QuietTactic
import Derived.BigQuiet
import Derived.Laws.Cover1
import Derived.Deep.CutRange
namespace Go.Proofs.YtijphomojljckaaGreatDoor
open Go.ChangeShapes Go.WideShapes Go.ChangeAt Go.RowKit

theorem cmF_head {t : ByteArray} {ps : List ByteArray} {tm : Int} {n : ByteArray} (h : ¬ hd t ps = 0) : cmF t ps tm n = hd t ps := if_neg h
theorem cmF_time {t : ByteArray} {ps : List ByteArray} {tm : Int} {n : ByteArray} (h : hd t ps = 0) (h2 : inB tm 0 1000000000 = false) : cmF t ps tm n = 3 := by unfold cmF; rw [if_pos h, if_neg (by rw [h2]; decide)]
theorem cmF_note {t : ByteArray} {ps : List ByteArray} {tm : Int} {n : ByteArray} (h : hd t ps = 0) (h2 : inB tm 0 1000000000 = true) (h3 : nt n = false) : cmF t ps tm n = 5 := by unfold cmF; rw [if_pos h, if_pos h2, if_neg (by rw [h3]; decide)]
theorem cmF_ok {t : ByteArray} {ps : List ByteArray} {tm : Int} {n : ByteArray} (h : hd t ps = 0) (h2 : inB tm 0 1000000000 = true) (h3 : nt n = true) : cmF t ps tm n = 0 := by unfold cmF; rw [if_pos h, if_pos h2, if_pos h3]

set_option maxRecDepth 20000 in
set_option maxHeartbeats 2000000 in
theorem specCommitFault (t : ByteArray) (a : Option Addr) (c : Nat) (ps : List ByteArray) (tm : Int) (no : ByteArray) (w : World) (h : SS w a ps) (hn : ps.length ≤ 1048576) :
    Calls Tryz.prog 14 #[.agg #[.string t, .slice a ps.length c, .int .i64 tm, .string no]] w fun e w' => e = .returned (.int .i64 (cmF t ps tm no)) ∧ Below w.heap.size w w' := by
  have hO2 := fun w => l6Is 2 (by omega) t w
  have hI := fun w => l1In tm 0 1000000000 w
  have hN := fun w => l6Note no w
  obtain ⟨W1, hW1⟩ : ∃ W, w.alloc (.cells #[.string t, .slice a ps.length c, .int .i64 tm, .string no] 34) = W := ⟨_, rfl⟩
  have b1 : Below w.heap.size w W1 := by rw [← hW1]; exact allocBelow _ _
  have r1 : Rf W1 w.heap.size [.string t, .slice a ps.length c, .int .i64 tm, .string no] := by rw [← hW1]; exact Rf.new _ _ _
  have c0 := r1.at_ 0 _ rfl
  have c1 := r1.at_ 1 _ rfl
  have c2 := r1.at_ 2 _ rfl
  have c3 := r1.at_ 3 _ rfl
  have h1 := h.below b1
  clear r1
  cases hb : isOf 2 t with
  | false =>
    have HR : Hid (cmF t ps tm no = 1) := by
      show _ = _
      rw [cmF_head (by rw [hd_tree hb]; decide), hd_tree hb]
    rw [hb] at hO2
    clear hb h h1
    go_enter Tryz.func14, Tryz.ntmps14
    go_wp2_with fail
    refine (hO2 _).mono ?_; rintro e w2 ⟨rfl, n, rfl⟩
    clear hO2
    go_wp2
    go_ret
    exact ⟨ret_int HR.out.symm, below_drewN' b1 _⟩
  | true =>
    rw [hb] at hO2
    by_cases h3 : 3 < ps.length
    · have HR : Hid (cmF t ps tm no = 2) := by
        show _ = _
        rw [cmF_head (by rw [hd_many hb h3]; decide), hd_many hb h3]
      have q3 : (3 : Int) < (ps.length : Int) := by omega
      clear hb h3 h h1
      go_enter Tryz.func14, Tryz.ntmps14
      go_wp2_with fail
      refine (hO2 _).mono ?_; rintro e w2 ⟨rfl, n, rfl⟩
      clear hO2
      go_wp2
      go_ret
      exact ⟨ret_int HR.out.symm, below_drewN' b1 _⟩
    have q3 : ¬ (3 : Int) < (ps.length : Int) := by omega
    have HB : ∀ k, k < ps.length → ¬ PaOk ps k → Hid (cmF t ps tm no = 1) := fun k hk q => by
      show _ = _
      rw [cmF_head (by rw [hd_bad hb h3 hk q]; decide), hd_bad hb h3 hk q]
    have HG : (∀ k, k < ps.length → PaOk ps k) → Hid (hd t ps = 0) := fun q => hd_ok hb h3 q
    clear hb h3
    go_enter Tryz.func14, Tryz.ntmps14
    go_wp2_with fail
    refine (hO2 _).mono ?_; rintro e w2 ⟨rfl, n1, rfl⟩
    clear hO2
    go_wp2
    go_loopw [3, 4] (fun i _k wr => ∃ k : Nat, k ≤ ps.length ∧ i = .int .i64 k ∧ Hid (∀ j, j < k → PaOk ps j) ∧ ∃ n, wr = W1.drewN n) (fun i _ _ => ps.length - (intOf i).toNat)
    case atStart => exact ⟨0, Nat.zero_le _, rfl, fun j hj => absurd hj (Nat.not_lt_zero _), n1, rfl⟩
    case round =>
      obtain ⟨k, hk, rfl, hA, n, rfl⟩ := hrel
      by_cases hlt : k < ps.length
      · have qk : (k : Int) < (ps.length : Int) := by omega
        obtain ⟨g, off, e, hg, d0⟩ := h1.2 k hlt
        subst e
        have hcells : ∀ j, j < ps.length → W1.cell? ⟨g, off + j, none⟩ = some (.string (ps.getD j ByteArray.empty)) := fun j hj => by
          obtain ⟨g', off', e', _, f0⟩ := h1.2 j hj
          simp only [Option.some.injEq, Addr.mk.injEq, and_true] at e'
          obtain ⟨rfl, rfl⟩ := e'
          exact f0
        have hb := HB k hlt
        have hgo : PaOk ps k → Hid (∀ j, j < k + 1 → PaOk ps j) := fun e j hj => by
          by_cases ej : j = k
          · rw [ej]; exact e
          · exact hA.out j (by omega)
        have hNo : isOf 3 (ps.getD k ByteArray.empty) = false → ¬ PaOk ps k := fun q r => by rw [r.1] at q; cases q
        have hYes : isOf 3 (ps.getD k ByteArray.empty) = true → (∀ j, j < k → ¬ ps.getD j ByteArray.empty = ps.getD k ByteArray.empty) → PaOk ps k := fun q r => ⟨q, r⟩
        have hDup : ∀ j, j < k → ps.getD j ByteArray.empty = ps.getD k ByteArray.empty → ¬ PaOk ps k := fun j hj e q => q.2 j hj e
        obtain ⟨x, hx⟩ : ∃ x, ps.getD k ByteArray.empty = x := ⟨_, rfl⟩
        rw [hx] at d0 hNo hYes
        simp only [hx] at hDup
        have hO := fun w => l6Is 3 (by omega) x w
        clear hA HB HG hx h1 h
        cases hi : isOf 3 x with
        | false =>
          have HR := hb (hNo hi)
          rw [hi] at hO
          clear hb hgo hNo hYes hDup hi hcells
          go_wp2_with fail
          refine (hO _).mono ?_; rintro e w2 ⟨rfl, m, rfl⟩
          go_wp2
          go_ret
          exact ⟨ret_int HR.out.symm, below_drewN' b1 _⟩
        | true =>
          rw [hi] at hO
          have HY : Hid ((∀ j, j < k → ¬ ps.getD j ByteArray.empty = x) → ∀ j, j < k + 1 → PaOk ps j) := fun r => (hgo (hYes hi r)).out
          have HD : Hid (∀ j, j < k → ps.getD j ByteArray.empty = x → cmF t ps tm no = 1) := fun j hj e => (hb (hDup j hj e)).out
          have HC : Hid (∀ j, j < ps.length → W1.cell? ⟨g, off + j, none⟩ = some (.string (ps.getD j ByteArray.empty))) := hcells
          clear hNo hi hYes hDup hb hgo hcells
          go_wp2_with fail
          refine (hO _).mono ?_; rintro e w2 ⟨rfl, m, rfl⟩
          clear hO
          rw [World.drewN_drewN]
          go_wp2_with fail
          go_loopw [4] (fun i wr => ∃ j : Nat, j ≤ k ∧ i = .int .i64 j ∧ Hid (∀ m, m < j → ¬ ps.getD m ByteArray.empty = x) ∧ ∃ n, wr = W1.drewN n) (fun i _ => k - (intOf i).toNat)
          case atStart => exact ⟨0, Nat.zero_le _, rfl, fun j hj => absurd hj (Nat.not_lt_zero _), _, rfl⟩
          case round =>
            obtain ⟨j, hj, rfl, hM, n2, rfl⟩ := hrel
            by_cases hjl : j < k
            · have qj : (j : Int) < (k : Int) := by omega
              have qjl : (j : Int) < (ps.length : Int) := by omega
              have dj := HC.out j (by omega)
              obtain ⟨y, hy⟩ : ∃ y, ps.getD j ByteArray.empty = y := ⟨_, rfl⟩
              rw [hy] at dj
              by_cases hyx : y = x
              · have HR : Hid (cmF t ps tm no = 1) := HD.out j hjl (hy.trans hyx)
                have hq : (y.toList == x.toList) = true := beq_bytes_true hyx
                clear HD HY HC hM hy hyx
                go_wp2
                go_quiet (fail)
                go_wp2
                go_ret
                exact ⟨ret_int HR.out.symm, below_drewN' (below_drewN' b1 _) _⟩
              · have hq : (y.toList == x.toList) = false := beq_bytes_false hyx
                have HM : Hid (∀ m, m < j + 1 → ¬ ps.getD m ByteArray.empty = x) := fun m hm e => by
                  by_cases em : m = j
                  · subst em; exact hyx (hy.symm.trans e)
                  · exact hM.out m (by omega) e
                clear HD HY HC hM hy hyx
                go_wp2
                go_quiet (fail)
                go_wp2
                go_roundw
                case rel => exact ⟨j + 1, by omega, by go_num, HM, _, by first | rfl | exact World.drewN_drewN _ _ _⟩
                case measure => first | (simp [intOf]; omega) | simp [intOf]
            · have qj : ¬ (j : Int) < (k : Int) := by omega
              have HN : Hid (∀ j, j < k + 1 → PaOk ps j) := HY.out (fun m hm => hM.out m (by omega))
              clear HD HY HC hM
              go_wp2
              go_roundw
              case rel => exact ⟨k + 1, by omega, by go_num, HN, _, rfl⟩
              case measure => first | (simp [intOf]; omega) | simp [intOf]
      · have qk : ¬ (k : Int) < (ps.length : Int) := by omega
        have H0 := HG (fun j hj => hA.out j (by omega))
        have HT : inB tm 0 1000000000 = false → Hid (cmF t ps tm no = 3) := fun q => cmF_time H0.out q
        have HNt : inB tm 0 1000000000 = true → nt no = false → Hid (cmF t ps tm no = 5) := fun q r => cmF_note H0.out q r
        have HOk : inB tm 0 1000000000 = true → nt no = true → Hid (cmF t ps tm no = 0) := fun q r => cmF_ok H0.out q r
        clear HB HG hA H0 h h1
        cases ht : inB tm 0 1000000000 with
        | false =>
          have HR := HT ht
          rw [ht] at hI
          clear HT HNt HOk ht hN
          go_wp2_with fail
          refine (hI _).mono ?_; rintro e w2 ⟨rfl, rfl⟩
          go_wp2
          go_ret
          exact ⟨ret_int HR.out.symm, below_drewN' b1 _⟩
        | true =>
          rw [ht] at hI
          have HNt := HNt ht
          have HOk := HOk ht
          clear HT ht
          cases hno : nt no with
          | false =>
            have HR := HNt hno
            rw [hno] at hN
            clear HNt HOk hno
            go_wp2_with fail
            refine (hI _).mono ?_; rintro e w2 ⟨rfl, rfl⟩
            go_wp2_with fail
            refine (hN _).mono ?_; rintro e w2 ⟨rfl, rfl⟩
            go_wp2
            go_ret
            exact ⟨ret_int HR.out.symm, below_drewN' b1 _⟩
          | true =>
            have HR := HOk hno
            rw [hno] at hN
            clear HNt HOk hno
            go_wp2_with fail
            refine (hI _).mono ?_; rintro e w2 ⟨rfl, rfl⟩
            go_wp2_with fail
            refine (hN _).mono ?_; rintro e w2 ⟨rfl, rfl⟩
            go_wp2
            go_ret
            exact ⟨ret_int HR.out.symm, below_drewN' b1 _⟩
end Go.Proofs.YtijphomojljckaaGreatDoor
