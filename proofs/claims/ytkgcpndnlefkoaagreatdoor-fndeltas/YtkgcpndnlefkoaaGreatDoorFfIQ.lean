/- The contracts of the program's isTaken and FilesFault. No statement is proved here. -/
import Derived.Test.YtkgcpndnlefkoaaGreatDoorRows
import Derived.Test.YtkgcpndnlefkoaaGreatDoorLemQ
import Derived.Test.YtkgcpndnlefkoaaGreatDoorDTabQ
import Derived.Test.YtkgcpndnlefkoaaGreatDoorInQ
import Derived.Test.YtkgcpndnlefkoaaGreatDoorIdLQ
import Derived.Test.YtkgcpndnlefkoaaGreatDoorPfCQ
import Derived.Test.YtkgcpndnlefkoaaGreatDoorDiCQ
import Derived.WalkKit
import Derived.ProofKit
import Derived.Below
import Derived.WalkSpells
import Derived.Deep.QuietTactic
import Derived.BigQuiet
import Derived.Deep.RegionWith
import Derived.Laws.Cover1
import Derived.Test.YtkgcpndnlefkoaaGreatDoorFfCQ
namespace Go.Proofs.YtkgcpndnlefkoaaGreatDoor.Fl
open Go.ChangeShapes Go.WideShapes Go.ChangeAt Go.RowKit

set_option maxRecDepth 20000 in
set_option maxHeartbeats 2000000 in
theorem indexFuncC (a : Option Addr) (c b : Nat) (l : List Ob) (p : ByteArray) (w : World) (h : OB w.heap.size w a l) (hn : l.length ≤ 1048576) (hb : b < w.heap.size) (hc : w.cell? ⟨b, 0, none⟩ = some (.string p)) :
    Calls Tryz.prog 67 #[.slice a l.length c, .func (.func 51) #[] #[.pointer (some ⟨b, 0, none⟩)]] w fun e w' => (∃ i : Int, e = .returned (.int .i64 i) ∧ (decide (0 ≤ i) = tk l p)) ∧ Below w.heap.size w w' := by
  have hF : tk l p = false → Hid (decide ((0 : Int) ≤ -1) = tk l p) := fun e => by show _ = _; rw [e]; rfl
  have hT : tk l p = true → ∀ k : Nat, Hid (decide ((0 : Int) ≤ (k : Int)) = tk l p) := fun e k => by show _ = _; rw [e]; exact decide_eq_true (by omega)
  go_enter Tryz.func67, Tryz.ntmps67
  go_wp2
  go_loopw [5, 8] (fun _j i wr => ∃ k : Nat, k ≤ l.length ∧ i = .int .i64 k ∧ Hid (tkU l p k = false) ∧ Below w.heap.size w wr) (fun _ i _ => l.length - (intOf i).toNat)
  case atStart => exact ⟨0, Nat.zero_le _, rfl, tkU_zero l p, Below.refl _ _⟩
  case round =>
    obtain ⟨k, hk, rfl, hA, hbel⟩ := hrel
    have hsz := hbel.size
    by_cases hlt : k < l.length
    · have qk : (k : Int) < (l.length : Int) := by omega
      obtain ⟨g, off, e, hg, d0, d1, d2⟩ := h.below hbel k hlt
      subst e
      have hu := tkU_succ l p k
      rw [hA.out, Bool.false_or] at hu
      have cb : wr.cell? ⟨b, 0, none⟩ = some (.string p) := (hbel.cell (p := ⟨b, 0, none⟩) hb).trans hc
      obtain ⟨C, hCe⟩ : ∃ C, l.getD k onil = C := ⟨_, rfl⟩
      obtain ⟨x0, x1, x2⟩ := C
      rw [hCe] at d0 d1 d2 hu
      simp only [] at d0 d1 d2 hu
      have hI := isTaken1 p x0 x2 x1 b wr (by omega) cb
      cases hin : inD p x0 with
      | false =>
        rw [hin] at hu hI
        have HU : Hid (tkU l p (k + 1) = false) := hu
        clear hCe hu hA hin hF hT
        go_wp2_with fail
        refine hI.mono ?_; rintro e w2 ⟨rfl, b2⟩
        have B2 := below_step hbel hsz b2
        clear hI b2
        go_wp2
        go_roundw
        case rel => exact ⟨k + 1, by omega, by go_num, HU, B2⟩
        case measure => simp [intOf]; omega
      | true =>
        rw [hin] at hu hI
        have HT := hT (tkU_more hu (by omega)) k
        clear hCe hu hA hin hF hT
        go_wp2_with fail
        refine hI.mono ?_; rintro e w2 ⟨rfl, b2⟩
        have B2 := below_step hbel hsz b2
        clear hI b2
        go_wp2
        go_ret
        exact ⟨⟨_, rfl, HT.out⟩, B2⟩
    · have qk : ¬ (k : Int) < (l.length : Int) := by omega
      have ek : k = l.length := by omega
      have HF := hF (by show tkU l p l.length = false; rw [← ek]; exact hA.out)
      clear hF hT hA ek
      go_wp2
      go_ret
      exact ⟨⟨_, rfl, HF.out⟩, hbel⟩
theorem containsFuncC (a : Option Addr) (c b : Nat) (l : List Ob) (p : ByteArray) (w : World) (h : OB w.heap.size w a l) (hn : l.length ≤ 1048576) (hb : b < w.heap.size) (hc : w.cell? ⟨b, 0, none⟩ = some (.string p)) :
    Calls Tryz.prog 50 #[.slice a l.length c, .func (.func 51) #[] #[.pointer (some ⟨b, 0, none⟩)]] w fun e w' => e = .returned (.bool (tk l p)) ∧ Below w.heap.size w w' := by
  have hI := indexFuncC a c b l p w h hn hb hc
  obtain ⟨r, hr⟩ : ∃ r, tk l p = r := ⟨_, rfl⟩
  rw [hr] at hI ⊢
  clear hr
  go_enter Tryz.func50, Tryz.ntmps50
  go_wp2_with fail
  refine hI.mono ?_; rintro e w2 ⟨⟨i, rfl, hi⟩, b2⟩
  have HI : Hid (decide (0 ≤ i) = r) := hi
  clear hI hi
  go_wp2
  go_ret
  exact ⟨ret_bool HI.out, b2⟩
theorem isTakenC (a : Option Addr) (c : Nat) (l : List Ob) (p : ByteArray) (w : World) (h : OB w.heap.size w a l) (hn : l.length ≤ 1048576) :
    Calls Tryz.prog 28 #[.string p, .slice a l.length c] w fun e w' => e = .returned (.bool (tk l p)) ∧ Below w.heap.size w w' := by
  obtain ⟨W1, hW1⟩ : ∃ W, w.alloc (.cells #[.string p] 9) = W := ⟨_, rfl⟩
  have b1 : Below w.heap.size w W1 := by rw [← hW1]; exact allocBelow _ _
  have z1 : w.heap.size < W1.heap.size := by rw [← hW1]; simp
  have c1 : W1.cell? ⟨w.heap.size, 0, none⟩ = some (.string p) := by rw [← hW1]; exact box_cell (World.alloc_heap_new w _)
  have hI := containsFuncC a c w.heap.size l p W1 ((h.below b1).mono b1.size) hn z1 c1
  obtain ⟨r, hr⟩ : ∃ r, tk l p = r := ⟨_, rfl⟩
  rw [hr] at hI ⊢
  clear hr
  go_enter Tryz.func28, Tryz.ntmps28
  go_wp2_with fail
  refine hI.mono ?_; rintro e w2 ⟨rfl, b2⟩
  have B2 := b1.trans (b2.mono b1.size)
  clear hI
  go_wp2
  go_ret
  exact ⟨rfl, B2⟩
set_option maxRecDepth 20000 in
set_option maxHeartbeats 4000000 in
theorem implFilesFault (a : Option Addr) (c : Nat) (l : List Ob) (w : World) (h : OB w.heap.size w a l) (hs : SmallO l) (hn : l.length ≤ 1048576) :
    Calls Tryz.prog 12 #[.slice a l.length c] w fun e w' => e = .returned (.int .i64 (ffl l)) ∧ Below w.heap.size w w' := by
  by_cases hm : 60 < l.length
  · have hC : Hid (ffl l = 2) := by
      show ffl l = 2
      rw [ffl_bad (by rw [fiE_many hm]; decide), fiE_many hm]
    have q : (60 : Int) < (l.length : Int) := by omega
    go_enter Tryz.func12, Tryz.ntmps12
    go_wp2
    go_ret
    exact ⟨ret_int hC.out.symm, Below.refl _ _⟩
  have q : ¬ (60 : Int) < (l.length : Int) := by omega
  have hTk := fun (p : ByteArray) W h => isTakenC a c l p W h hn
  go_enter Tryz.func12, Tryz.ntmps12
  go_wp2
  go_loopw [3, 4, 5, 13] (fun _j _o _r i wr => ∃ k : Nat, k ≤ l.length ∧ i = .int .i64 k ∧ Hid (∀ j, j < k → fiF l j = 0) ∧ Below w.heap.size w wr) (fun _ _ _ i _ => l.length - (intOf i).toNat)
  case atStart => exact ⟨0, Nat.zero_le _, rfl, fun j hj => absurd hj (Nat.not_lt_zero _), Below.refl _ _⟩
  case round =>
    obtain ⟨k, hk, rfl, hA, hbel⟩ := hrel
    have hsz := hbel.size
    by_cases hlt : k < l.length
    · have qk : (k : Int) < (l.length : Int) := by omega
      have h3 := h.below hbel
      obtain ⟨g, off, e, hg, d0, d1, d2⟩ := h3 k hlt
      subst e
      have hsl := (hs _ (ob_mem l k hlt)).1
      have hbad : ¬ fiF l k = 0 → Hid (ffl l = fiF l k) := fun hb => by
        show ffl l = _
        have e := fiE_bad hm hlt hA.out hb
        rw [ffl_bad (by rw [e]; exact hb), e]
      have hgo : fiF l k = 0 → Hid (∀ j, j < k + 1 → fiF l j = 0) := fun h0 => by
        show ∀ j, _
        intro j hj
        by_cases e : j = k
        · rw [e]; exact h0
        · exact hA.out j (by omega)
      have hF : fiF l k = fiF l k := rfl
      conv at hF => rhs; unfold fiF
      have hp : 0 < k → wr.cell? ⟨g, off + (k - 1) * 3, none⟩ = some (.string (l.getD (k - 1) onil).1) := fun hk0 => by
        obtain ⟨g', off', e', _, f0, _, _⟩ := h3 (k - 1) (by omega)
        simp only [Option.some.injEq, Addr.mk.injEq, and_true] at e'
        obtain ⟨rfl, rfl⟩ := e'
        exact f0
      obtain ⟨C, hCe⟩ : ∃ C, l.getD k onil = C := ⟨_, rfl⟩
      obtain ⟨P, hPe⟩ : ∃ P, (l.getD (k - 1) onil).1 = P := ⟨_, rfl⟩
      obtain ⟨x0, x1, x2⟩ := C
      rw [hCe] at d0 d1 d2 hF hsl
      rw [hPe] at hF hp
      simp only [] at d0 d1 d2 hF hsl
      have hI := fun w => fileFaultC x0 x2 x1 w hsl
      obtain ⟨K, hK⟩ : ∃ K, fi x0 x1 x2 = K := ⟨_, rfl⟩
      rw [hK] at hI hF
      obtain ⟨W, hW⟩ : ∃ W, wr.alloc (.cells #[.string x0, .int .i64 x1, .string x2] 42) = W := ⟨_, rfl⟩
      have bW : Below wr.heap.size wr W := by rw [← hW]; exact allocBelow _ _
      have oW : Rf W wr.heap.size [.string x0, .int .i64 x1, .string x2] := by rw [← hW]; exact Rf.new _ _ _
      have zW : wr.heap.size < W.heap.size := by rw [← hW]; simp
      have m0 := oW.at_ 0 _ rfl
      have m1 := oW.at_ 1 _ rfl
      have m2 := oW.at_ 2 _ rfl
      clear hK hCe hPe hA h3 hTk
      go_wp2_with fail
      refine (hI W).mono ?_; rintro e w2 ⟨rfl, b2⟩
      have hB : Below wr.heap.size wr w2 := bW.trans (b2.mono (Nat.le_of_lt zW))
      have B1 : Below w.heap.size w w2 := below_step hbel hsz hB
      have e0 := (oW.below zW b2).at_ 0 _ rfl
      have hgr : g < wr.heap.size := by omega
      clear d0 d1 d2 hI hbel m0 m1 m2 hW bW b2 oW
      by_cases hK0 : K = 0
      · rw [if_pos hK0] at hF
        subst hK0
        by_cases hk0 : 0 < k
        · have hI0 : (0 : Int) < (k : Int) := by omega
          have e1 := (hB.cell (p := ⟨g, off + (k - 1) * 3, none⟩) hgr).trans (hp hk0)
          obtain ⟨m, hmk⟩ : ∃ m, k - 1 = m := ⟨_, rfl⟩
          have hw : IntKind.i64.wrap ((k : Int) - 1) = (m : Int) := by rw [IntKind.wrap_i64]; omega
          have hI2 : (m : Int) < (l.length : Int) := by omega
          rw [hmk] at e1
          clear hp hB hmk
          cases hle : leF x0 P with
          | true =>
            have HC := hbad (by rw [hF, hle, if_pos ⟨hk0, rfl⟩]; decide)
            rw [hF, hle, if_pos ⟨hk0, rfl⟩] at HC
            unfold leF at hle
            clear hbad hgo hF
            cases hlb : Op.bytesLess x0.toList P.toList with
            | true =>
              go_wp2
              go_quiet (fail)
              go_wp2
              go_ret
              exact ⟨ret_int HC.out.symm, below_drewN' B1 _⟩
            | false =>
              rw [hlb, Bool.false_or] at hle
              go_wp2
              go_quiet (fail)
              go_wp2
              go_ret
              exact ⟨ret_int HC.out.symm, below_drewN' B1 _⟩
          | false =>
            have HG := hgo (by rw [hF, hle, if_neg (fun c => Bool.noConfusion c.2)])
            unfold leF at hle
            obtain ⟨hl1, hl2⟩ := Bool.or_eq_false_iff.1 hle
            clear hbad hgo hF hle
            go_wp2
            go_quiet (fail)
            go_wp2
            go_roundw
            case rel => exact ⟨k + 1, by omega, by go_num, HG, below_drewN' B1 _⟩
            case measure => first | (simp [intOf]; omega) | simp [intOf]
        · have hI0 : ¬ (0 : Int) < (k : Int) := by omega
          have HG := hgo (by rw [hF, if_neg (fun c => hk0 c.1)])
          clear hbad hgo hF hp hB
          go_wp2
          go_quiet (fail)
          go_wp2
          go_roundw
          case rel => exact ⟨k + 1, by omega, by go_num, HG, below_drewN' B1 _⟩
          case measure => first | (simp [intOf]; omega) | simp [intOf]
      · rw [if_neg hK0] at hF
        have qK : (K != 0) = true := by simpa using hK0
        have HC := hbad (by rw [hF]; exact hK0)
        rw [hF] at HC
        clear hbad hgo hF hp hK0 hB
        go_wp2
        go_ret
        exact ⟨ret_int HC.out.symm, B1⟩
    · have qk : ¬ (k : Int) < (l.length : Int) := by omega
      have ek : k = l.length := by omega
      have hE : Hid (fiE l = 0) := fiE_ok hm (fun j hj => hA.out j (by omega))
      have hTT : tkA l l.length = true → Hid (ffl l = 7) := fun e => ffl_taken hE.out e
      have hTF : tkA l l.length = false → Hid (ffl l = 0) := fun e => ffl_ok hE.out e
      have h1 := (h.below hbel).mono hsz
      clear hA ek
      obtain ⟨V, rfl⟩ : ∃ V, V = wr := ⟨_, rfl⟩
      go_wp2
      go_loopw [7, 39] (fun _o i wq => ∃ k : Nat, k ≤ l.length ∧ i = .int .i64 k ∧ Hid (tkA l k = false) ∧ Below V.heap.size V wq) (fun _ i _ => l.length - (intOf i).toNat)
      case atStart => exact ⟨0, Nat.zero_le _, rfl, tkA_zero l, Below.refl _ _⟩
      case round =>
        obtain ⟨k, hk, rfl, hA, hbq⟩ := hrel
        have hsq := hbq.size
        have B1 : Below w.heap.size w wr := below_step hbel hsz hbq
        have hA2 := tkA_succ l k
        rw [hA.out, Bool.false_or] at hA2
        by_cases hlt : k < l.length
        · have qk : (k : Int) < (l.length : Int) := by omega
          have h3 := h1.below hbq
          obtain ⟨g, off, e, hg, d0, d1, d2⟩ := h3 k hlt
          have h4 := h3.mono hsq
          obtain ⟨C, hCe⟩ : ∃ C, l.getD k onil = C := ⟨_, rfl⟩
          obtain ⟨x0, x1, x2⟩ := C
          rw [hCe] at d0 d1 d2 hA2
          simp only [] at d0 d1 d2 hA2
          obtain ⟨W, hW⟩ : ∃ W, wr.alloc (.cells #[.string x0, .int .i64 x1, .string x2] 42) = W := ⟨_, rfl⟩
          have bW : Below wr.heap.size wr W := by rw [← hW]; exact allocBelow _ _
          have oW : Rf W wr.heap.size [.string x0, .int .i64 x1, .string x2] := by rw [← hW]; exact Rf.new _ _ _
          have m0 := oW.at_ 0 _ rfl
          have hI := hTk x0 W ((h4.below bW).mono bW.size)
          subst e
          cases htk : tk l x0 with
          | false =>
            rw [htk] at hI hA2
            have HA : Hid (tkA l (k + 1) = false) := hA2
            clear hA2 hA hTk htk hCe h3 h4 oW hTT hTF hE
            go_wp2_with fail
            refine hI.mono ?_; rintro e w2 ⟨rfl, b2⟩
            have B2 : Below V.heap.size V w2 := below_step hbq hsq (bW.trans (b2.mono bW.size))
            clear hI bW b2 hW m0
            go_wp2
            go_roundw
            case rel => exact ⟨k + 1, by omega, by go_num, HA, B2⟩
            case measure => simp [intOf]; omega
          | true =>
            rw [htk] at hI hA2
            have HT := hTT (tkA_more hA2 (by omega))
            clear hA2 hA hTk htk hCe h3 h4 oW hTT hTF hE
            go_wp2_with fail
            refine hI.mono ?_; rintro e w2 ⟨rfl, b2⟩
            have B2 : Below w.heap.size w w2 := below_step B1 B1.size (bW.trans (b2.mono bW.size))
            clear hI bW b2 hW m0
            go_wp2
            go_ret
            exact ⟨ret_int HT.out.symm, B2⟩
        · have qk : ¬ (k : Int) < (l.length : Int) := by omega
          have ek : k = l.length := by omega
          have HF := hTF (by rw [← ek]; exact hA.out)
          clear hTT hTF hA hA2 hE ek
          go_wp2
          go_ret
          exact ⟨ret_int HF.out.symm, B1⟩
end Go.Proofs.YtkgcpndnlefkoaaGreatDoor.Fl
