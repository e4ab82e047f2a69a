/- The contract of the specification's TreeFault. No statement is proved here. -/
import Derived.Test.YtijphomojljckaaGreatDoorRows
import Derived.Test.YtijphomojljckaaGreatDoorLemQ
import Derived.Test.YtijphomojljckaaGreatDoorLFLemQ
import Derived.Test.YtijphomojljckaaGreatDoorInQ
import Derived.Test.YtijphomojljckaaGreatDoorComQ
import Derived.Test.YtijphomojljckaaGreatDoorHkTQ
import Derived.Test.YtijphomojljckaaGreatDoorIterQ
import Derived.Test.YtijphomojljckaaGreatDoorIdLQ
import Derived.Test.YtijphomojljckaaGreatDoorTeLQ
import Derived.Test.YtijphomojljckaaGreatDoorTrCQ
import Derived.Test.YtijphomojljckaaGreatDoorTrSQ
import Derived.WalkKit
import Derived.ProofKit
import Derived.Below
import Derived.WalkSpells
import Derived.Deep.QuietTactic
import Derived.BigQuiet
import Derived.Deep.RegionWith
import Derived.Deep.RegionHeld
import Derived.Laws.Cover1
import Derived.Deep.CutRange
namespace Go.Proofs.YtijphomojljckaaGreatDoor.Te
open Go.ChangeShapes Go.WideShapes Go.ChangeAt Go.RowKit

/-- The fault of a tree. -/
def tfl (l : List Ob) : Int := if trE l = 0 then tf (trB l) else trE l
theorem tfl_bad {l : List Ob} (h : ¬ trE l = 0) : tfl l = trE l := if_neg h
theorem tfl_ok {l : List Ob} (h : trE l = 0) : tfl l = tf (trB l) := if_pos h
/-- A variable that holds an entry. -/
def EV (W : World) (x0 : ByteArray) (x1 : Int) (x2 : ByteArray) (s : Value) (wx : World) : Prop := ∃ p : Nat, s = .pointer (some ⟨p, 0, none⟩) ∧ wx.cell? ⟨p, 0, none⟩ = some (.string x0) ∧ wx.cell? ⟨p, 1, none⟩ = some (.int .i64 x1) ∧ wx.cell? ⟨p, 2, none⟩ = some (.string x2) ∧ Below W.heap.size W wx

set_option maxRecDepth 20000 in
set_option maxHeartbeats 2000000 in
theorem specTreeFault (a : Option Addr) (c : Nat) (l : List Ob) (w : World) (h : OB w.heap.size w a l) (hn : l.length ≤ 1048576) :
    Calls Tryz.prog 33 #[.slice a l.length c] w fun e w' => e = .returned (.int .i64 (tfl l)) ∧ Below w.heap.size w w' := by
  by_cases hm : 100 < l.length
  · have hC : Hid (tfl l = 2) := by
      show tfl l = 2
      rw [tfl_bad (by rw [trE_many hm]; decide), trE_many hm]
    have q : (100 : Int) < (l.length : Int) := by omega
    go_enter Tryz.func33, Tryz.ntmps33
    go_wp2
    go_ret
    exact ⟨ret_int hC.out.symm, Below.refl _ _⟩
  have q : ¬ (100 : Int) < (l.length : Int) := by omega
  go_enter Tryz.func33, Tryz.ntmps33
  go_wp2
  go_loopw [3, 4, 5, 6] (fun i _r _c _k wr => ∃ k : Nat, k ≤ l.length ∧ i = .int .i64 k ∧ Hid (∀ j, j < k → teF l j = 0) ∧ Below w.heap.size w wr) (fun i _ _ _ _ => l.length - (intOf i).toNat)
  case atStart => exact ⟨0, Nat.zero_le _, rfl, fun j hj => absurd hj (Nat.not_lt_zero _), Below.refl _ _⟩
  case round =>
    obtain ⟨k, hk, rfl, hA, hbel⟩ := hrel
    have hsz := hbel.size
    by_cases hlt : k < l.length
    · have qk : (k : Int) < (l.length : Int) := by omega
      have h3 := h.below hbel
      obtain ⟨g, off, e, hg, d0, d1, d2⟩ := h3 k hlt
      subst e
      have hbad : ¬ teF l k = 0 → Hid (tfl l = teF l k) := fun hb => by
        show tfl l = _
        have e := trE_bad hm hlt hA.out hb
        rw [tfl_bad (by rw [e]; exact hb), e]
      have hgo : teF l k = 0 → Hid (∀ j, j < k + 1 → teF l j = 0) := fun h0 => by
        show ∀ j, _
        intro j hj
        by_cases e : j = k
        · rw [e]; exact h0
        · exact hA.out j (by omega)
      have hF : teF l k = teF l k := rfl
      conv at hF => rhs; unfold teF
      have hp : 0 < k → wr.cell? ⟨g, off + (k - 1) * 3, none⟩ = some (.string (l.getD (k - 1) onil).1) := fun hk0 => by
        obtain ⟨g', off', e', _, f0, _, _⟩ := h3 (k - 1) (by omega)
        simp only [Option.some.injEq, Addr.mk.injEq, and_true] at e'
        obtain ⟨rfl, rfl⟩ := e'
        exact f0
      obtain ⟨C, hCe⟩ : ∃ C, l.getD k onil = C := ⟨_, rfl⟩
      obtain ⟨P, hPe⟩ : ∃ P, (l.getD (k - 1) onil).1 = P := ⟨_, rfl⟩
      obtain ⟨x0, x1, x2⟩ := C
      rw [hCe] at d0 d1 d2 hF
      rw [hPe] at hF hp
      simp only [] at d0 d1 d2 hF
      have hN := fun w => specNameFault x0 w
      have hI := fun w => l1In x1 1 3 w
      have hO := fun w => l6Is (ek x1) (ek_in x1) x2 w
      clear hCe hPe hA h3
      obtain ⟨W1, hW1⟩ : ∃ W, wr.alloc (.cells #[.string x0, .int .i64 x1, .string x2] 72) = W := ⟨_, rfl⟩
      have b1 : Below wr.heap.size wr W1 := by rw [← hW1]; exact allocBelow _ _
      have r1 : Rf W1 wr.heap.size [.string x0, .int .i64 x1, .string x2] := by rw [← hW1]; exact Rf.new _ _ _
      have c0 := r1.at_ 0 _ rfl
      have c1 := r1.at_ 1 _ rfl
      have c2 := r1.at_ 2 _ rfl
      have B1 : Below w.heap.size w W1 := below_step hbel hsz b1
      have hgr : g < wr.heap.size := by omega
      have hp' : 0 < k → W1.cell? ⟨g, off + (k - 1) * 3, none⟩ = some (.string P) := fun hk0 => keep3 b1 hgr (hp hk0)
      clear hp r1 b1
      by_cases hn0 : nf x0 = 0
      · rw [hn0] at hN
        cases hin : inB x1 1 3 with
        | false =>
          have hE := ef_mode (x2 := x2) hn0 hin
          rw [hE, if_neg (by decide)] at hF
          have HC := hbad (by rw [hF]; decide)
          rw [hF] at HC
          rw [hin] at hI
          clear hbad hgo hF hE hO hp' hin hn0
          go_wp2_with fail
          refine (hN _).mono ?_; rintro e w2 ⟨rfl, rfl⟩
          go_wp2_with fail
          refine (hI _).mono ?_; rintro e w2 ⟨rfl, rfl⟩
          go_wp2
          go_ret
          exact ⟨ret_int HC.out.symm, B1⟩
        | true =>
          have hET := ef_ok (x2 := x2) hn0 hin
          have hEF := ef_id (x2 := x2) hn0 hin
          rw [hin] at hI
          rcases inB13 hin with rfl | rfl | rfl
          · have eK : ek 1 = 1 := rfl
            rw [eK] at hO hET hEF
            clear eK hin hn0
            cases hb : isOf 1 x2 with
            | false =>
              have hE := hEF hb
              rw [hE, if_neg (by decide)] at hF
              have HC := hbad (by rw [hF]; decide)
              rw [hF] at HC
              rw [hb] at hO
              clear hbad hgo hF hE hp' hET hEF hb
              go_wp2_with fail
              refine (hN _).mono ?_; rintro e w2 ⟨rfl, rfl⟩
              go_wp2_with fail
              refine (hI _).mono ?_; rintro e w2 ⟨rfl, rfl⟩
              go_wp2
              go_quiet ((go_at_call 29; exact quietN (hO _)))
              go_wp2
              go_ret
              exact ⟨ret_int HC.out.symm, below_drewN' B1 _⟩
            | true =>
              have hE := hET hb
              rw [if_pos hE] at hF
              rw [hb] at hO
              clear hE hET hEF hb
              by_cases hk0 : 0 < k
              · have hI0 : (0 : Int) < (k : Int) := by omega
                have e1 := hp' hk0
                obtain ⟨m, hmk⟩ : ∃ m, k - 1 = m := ⟨_, rfl⟩
                have hw : IntKind.i64.wrap ((k : Int) - 1) = (m : Int) := by rw [IntKind.wrap_i64]; omega
                have hI2 : (m : Int) < (l.length : Int) := by omega
                rw [hmk] at e1
                clear hp' hmk
                cases hle : leT x0 P with
                | true =>
                  have HC := hbad (by rw [hF, hle, if_pos ⟨hk0, rfl⟩]; decide)
                  rw [hF, hle, if_pos ⟨hk0, rfl⟩] at HC
                  unfold leT at hle
                  clear hbad hgo hF
                  cases hlb : Op.bytesLess x0.toList P.toList with
                  | true =>
                    clear hle
                    go_wp2_with fail
                    refine (hN _).mono ?_; rintro e w2 ⟨rfl, rfl⟩
                    go_wp2_with fail
                    refine (hI _).mono ?_; rintro e w2 ⟨rfl, rfl⟩
                    go_wp2
                    go_quiet ((go_at_call 29; exact quietN (hO _)))
                    go_wp2
                    go_ret
                    exact ⟨ret_int HC.out.symm, below_drewN' B1 _⟩
                  | false =>
                    rw [hlb, Bool.false_or] at hle
                    go_wp2_with fail
                    refine (hN _).mono ?_; rintro e w2 ⟨rfl, rfl⟩
                    go_wp2_with fail
                    refine (hI _).mono ?_; rintro e w2 ⟨rfl, rfl⟩
                    go_wp2
                    go_quiet ((go_at_call 29; exact quietN (hO _)))
                    go_wp2
                    go_ret
                    exact ⟨ret_int HC.out.symm, below_drewN' B1 _⟩
                | false =>
                  have HG := hgo (by rw [hF, hle, if_neg (fun c => Bool.noConfusion c.2)])
                  unfold leT at hle
                  obtain ⟨hl1, hl2⟩ := Bool.or_eq_false_iff.1 hle
                  clear hbad hgo hF hle
                  go_wp2_with fail
                  refine (hN _).mono ?_; rintro e w2 ⟨rfl, rfl⟩
                  go_wp2_with fail
                  refine (hI _).mono ?_; rintro e w2 ⟨rfl, rfl⟩
                  go_wp2
                  go_quiet ((go_at_call 29; exact quietN (hO _)))
                  go_wp2
                  go_roundw
                  case rel => exact ⟨k + 1, by omega, by go_num, HG, below_drewN' B1 _⟩
                  case measure => first | (simp [intOf]; omega) | simp [intOf]
              · have hI0 : ¬ (0 : Int) < (k : Int) := by omega
                have HG := hgo (by rw [hF, if_neg (fun c => hk0 c.1)])
                clear hbad hgo hF hp'
                go_wp2_with fail
                refine (hN _).mono ?_; rintro e w2 ⟨rfl, rfl⟩
                go_wp2_with fail
                refine (hI _).mono ?_; rintro e w2 ⟨rfl, rfl⟩
                go_wp2
                go_quiet ((go_at_call 29; exact quietN (hO _)))
                go_wp2
                go_roundw
                case rel => exact ⟨k + 1, by omega, by go_num, HG, below_drewN' B1 _⟩
                case measure => first | (simp [intOf]; omega) | simp [intOf]
          · have eK : ek 2 = 1 := rfl
            rw [eK] at hO hET hEF
            clear eK hin hn0
            cases hb : isOf 1 x2 with
            | false =>
              have hE := hEF hb
              rw [hE, if_neg (by decide)] at hF
              have HC := hbad (by rw [hF]; decide)
              rw [hF] at HC
              rw [hb] at hO
              clear hbad hgo hF hE hp' hET hEF hb
              go_wp2_with fail
              refine (hN _).mono ?_; rintro e w2 ⟨rfl, rfl⟩
              go_wp2_with fail
              refine (hI _).mono ?_; rintro e w2 ⟨rfl, rfl⟩
              go_wp2
              go_quiet ((go_at_call 29; exact quietN (hO _)))
              go_wp2
              go_ret
              exact ⟨ret_int HC.out.symm, below_drewN' B1 _⟩
            | true =>
              have hE := hET hb
              rw [if_pos hE] at hF
              rw [hb] at hO
              clear hE hET hEF hb
              by_cases hk0 : 0 < k
              · have hI0 : (0 : Int) < (k : Int) := by omega
                have e1 := hp' hk0
                obtain ⟨m, hmk⟩ : ∃ m, k - 1 = m := ⟨_, rfl⟩
                have hw : IntKind.i64.wrap ((k : Int) - 1) = (m : Int) := by rw [IntKind.wrap_i64]; omega
                have hI2 : (m : Int) < (l.length : Int) := by omega
                rw [hmk] at e1
                clear hp' hmk
                cases hle : leT x0 P with
                | true =>
                  have HC := hbad (by rw [hF, hle, if_pos ⟨hk0, rfl⟩]; decide)
                  rw [hF, hle, if_pos ⟨hk0, rfl⟩] at HC
                  unfold leT at hle
                  clear hbad hgo hF
                  cases hlb : Op.bytesLess x0.toList P.toList with
                  | true =>
                    clear hle
                    go_wp2_with fail
                    refine (hN _).mono ?_; rintro e w2 ⟨rfl, rfl⟩
                    go_wp2_with fail
                    refine (hI _).mono ?_; rintro e w2 ⟨rfl, rfl⟩
                    go_wp2
                    go_quiet ((go_at_call 29; exact quietN (hO _)))
                    go_wp2
                    go_ret
                    exact ⟨ret_int HC.out.symm, below_drewN' B1 _⟩
                  | false =>
                    rw [hlb, Bool.false_or] at hle
                    go_wp2_with fail
                    refine (hN _).mono ?_; rintro e w2 ⟨rfl, rfl⟩
                    go_wp2_with fail
                    refine (hI _).mono ?_; rintro e w2 ⟨rfl, rfl⟩
                    go_wp2
                    go_quiet ((go_at_call 29; exact quietN (hO _)))
                    go_wp2
                    go_ret
                    exact ⟨ret_int HC.out.symm, below_drewN' B1 _⟩
                | false =>
                  have HG := hgo (by rw [hF, hle, if_neg (fun c => Bool.noConfusion c.2)])
                  unfold leT at hle
                  obtain ⟨hl1, hl2⟩ := Bool.or_eq_false_iff.1 hle
                  clear hbad hgo hF hle
                  go_wp2_with fail
                  refine (hN _).mono ?_; rintro e w2 ⟨rfl, rfl⟩
                  go_wp2_with fail
                  refine (hI _).mono ?_; rintro e w2 ⟨rfl, rfl⟩
                  go_wp2
                  go_quiet ((go_at_call 29; exact quietN (hO _)))
                  go_wp2
                  go_roundw
                  case rel => exact ⟨k + 1, by omega, by go_num, HG, below_drewN' B1 _⟩
                  case measure => first | (simp [intOf]; omega) | simp [intOf]
              · have hI0 : ¬ (0 : Int) < (k : Int) := by omega
                have HG := hgo (by rw [hF, if_neg (fun c => hk0 c.1)])
                clear hbad hgo hF hp'
                go_wp2_with fail
                refine (hN _).mono ?_; rintro e w2 ⟨rfl, rfl⟩
                go_wp2_with fail
                refine (hI _).mono ?_; rintro e w2 ⟨rfl, rfl⟩
                go_wp2
                go_quiet ((go_at_call 29; exact quietN (hO _)))
                go_wp2
                go_roundw
                case rel => exact ⟨k + 1, by omega, by go_num, HG, below_drewN' B1 _⟩
                case measure => first | (simp [intOf]; omega) | simp [intOf]
          · have eK : ek 3 = 2 := rfl
            rw [eK] at hO hET hEF
            clear eK hin hn0
            cases hb : isOf 2 x2 with
            | false =>
              have hE := hEF hb
              rw [hE, if_neg (by decide)] at hF
              have HC := hbad (by rw [hF]; decide)
              rw [hF] at HC
              rw [hb] at hO
              clear hbad hgo hF hE hp' hET hEF hb
              go_wp2_with fail
              refine (hN _).mono ?_; rintro e w2 ⟨rfl, rfl⟩
              go_wp2_with fail
              refine (hI _).mono ?_; rintro e w2 ⟨rfl, rfl⟩
              go_wp2
              go_quiet ((go_at_call 29; exact quietN (hO _)))
              go_wp2
              go_ret
              exact ⟨ret_int HC.out.symm, below_drewN' B1 _⟩
            | true =>
              have hE := hET hb
              rw [if_pos hE] at hF
              rw [hb] at hO
              clear hE hET hEF hb
              by_cases hk0 : 0 < k
              · have hI0 : (0 : Int) < (k : Int) := by omega
                have e1 := hp' hk0
                obtain ⟨m, hmk⟩ : ∃ m, k - 1 = m := ⟨_, rfl⟩
                have hw : IntKind.i64.wrap ((k : Int) - 1) = (m : Int) := by rw [IntKind.wrap_i64]; omega
                have hI2 : (m : Int) < (l.length : Int) := by omega
                rw [hmk] at e1
                clear hp' hmk
                cases hle : leT x0 P with
                | true =>
                  have HC := hbad (by rw [hF, hle, if_pos ⟨hk0, rfl⟩]; decide)
                  rw [hF, hle, if_pos ⟨hk0, rfl⟩] at HC
                  unfold leT at hle
                  clear hbad hgo hF
                  cases hlb : Op.bytesLess x0.toList P.toList with
                  | true =>
                    clear hle
                    go_wp2_with fail
                    refine (hN _).mono ?_; rintro e w2 ⟨rfl, rfl⟩
                    go_wp2_with fail
                    refine (hI _).mono ?_; rintro e w2 ⟨rfl, rfl⟩
                    go_wp2
                    go_quiet ((go_at_call 29; exact quietN (hO _)))
                    go_wp2
                    go_ret
                    exact ⟨ret_int HC.out.symm, below_drewN' B1 _⟩
                  | false =>
                    rw [hlb, Bool.false_or] at hle
                    go_wp2_with fail
                    refine (hN _).mono ?_; rintro e w2 ⟨rfl, rfl⟩
                    go_wp2_with fail
                    refine (hI _).mono ?_; rintro e w2 ⟨rfl, rfl⟩
                    go_wp2
                    go_quiet ((go_at_call 29; exact quietN (hO _)))
                    go_wp2
                    go_ret
                    exact ⟨ret_int HC.out.symm, below_drewN' B1 _⟩
                | false =>
                  have HG := hgo (by rw [hF, hle, if_neg (fun c => Bool.noConfusion c.2)])
                  unfold leT at hle
                  obtain ⟨hl1, hl2⟩ := Bool.or_eq_false_iff.1 hle
                  clear hbad hgo hF hle
                  go_wp2_with fail
                  refine (hN _).mono ?_; rintro e w2 ⟨rfl, rfl⟩
                  go_wp2_with fail
                  refine (hI _).mono ?_; rintro e w2 ⟨rfl, rfl⟩
                  go_wp2
                  go_quiet ((go_at_call 29; exact quietN (hO _)))
                  go_wp2
                  go_roundw
                  case rel => exact ⟨k + 1, by omega, by go_num, HG, below_drewN' B1 _⟩
                  case measure => first | (simp [intOf]; omega) | simp [intOf]
              · have hI0 : ¬ (0 : Int) < (k : Int) := by omega
                have HG := hgo (by rw [hF, if_neg (fun c => hk0 c.1)])
                clear hbad hgo hF hp'
                go_wp2_with fail
                refine (hN _).mono ?_; rintro e w2 ⟨rfl, rfl⟩
                go_wp2_with fail
                refine (hI _).mono ?_; rintro e w2 ⟨rfl, rfl⟩
                go_wp2
                go_quiet ((go_at_call 29; exact quietN (hO _)))
                go_wp2
                go_roundw
                case rel => exact ⟨k + 1, by omega, by go_num, HG, below_drewN' B1 _⟩
                case measure => first | (simp [intOf]; omega) | simp [intOf]
      · have hE := ef_name (x1 := x1) (x2 := x2) hn0
        have hEn : ¬ ef x0 x1 x2 = 0 := by rw [hE]; exact hn0
        rw [if_neg hEn, hE] at hF
        have HC := hbad (by rw [hF]; exact hn0)
        rw [hF] at HC
        obtain ⟨N, hNN⟩ : ∃ N, nf x0 = N := ⟨_, rfl⟩
        rw [hNN] at hN HC hn0
        have qK : (N != 0) = true := ne_beq hn0
        clear hbad hgo hF hE hEn hO hI hp' hn0 hNN
        go_wp2_with fail
        refine (hN _).mono ?_; rintro e w2 ⟨rfl, rfl⟩
        go_wp2
        go_ret
        exact ⟨ret_int HC.out.symm, B1⟩
    · have qk : ¬ (k : Int) < (l.length : Int) := by omega
      have H0 : Hid (trE l = 0) := trE_ok hm (fun j hj => hA.out j (by omega))
      have hf : Fine l := fun j hj => teF_ef (hA.out j (by omega))
      have HC : Hid (tfl l = tf (trB l)) := tfl_ok H0.out
      have hlen := tr_len l.length (Nat.le_refl _) (fun j hj => hf j hj)
      rw [List.take_length] at hlen
      have hsB : (trB l).size ≤ 1048576 := by
        have e := trB_size (l := l) l.length
        rw [List.take_length] at e
        omega
      have hT := l6TreeC a c l wr ((h.below hbel).mono hsz) hf (by omega)
      have hX := fun w => specTextFault (trB l) w hsB
      clear hA H0 hf hlen
      go_wp2_with fail
      refine hT.mono ?_; rintro e w2 ⟨rfl, b2⟩
      go_wp2_with fail
      refine (hX _).mono ?_; rintro e w3 ⟨rfl, b3⟩
      go_wp2
      go_ret
      exact ⟨ret_int HC.out.symm, below_step hbel hsz (b2.trans (b3.mono b2.size))⟩
end Go.Proofs.YtijphomojljckaaGreatDoor.Te
