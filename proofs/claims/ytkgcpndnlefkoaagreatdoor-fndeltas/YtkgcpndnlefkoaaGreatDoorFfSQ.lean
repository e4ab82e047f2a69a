/- The contract of the specification's FilesFault. No statement is proved here. -/
import Derived.Test.YtkgcpndnlefkoaaGreatDoorRows
import Derived.Test.YtkgcpndnlefkoaaGreatDoorLemQ
import Derived.Test.YtkgcpndnlefkoaaGreatDoorDTabQ
import Derived.Test.YtkgcpndnlefkoaaGreatDoorInQ
import Derived.Test.YtkgcpndnlefkoaaGreatDoorIdLQ
import Derived.Test.YtkgcpndnlefkoaaGreatDoorPfCQ
import Derived.Test.YtkgcpndnlefkoaaGreatDoorDiCQ
import Derived.WalkKit
import Derived.ProofKit
import Derived.Below
import Derived.WalkSpells
import Derived.Deep.QuietTactic
import Derived.BigQuiet
import Derived.Deep.RegionWith
import Derived.Laws.Cover1
import Derived.Test.YtkgcpndnlefkoaaGreatDoorPfSQ
import Derived.Test.YtkgcpndnlefkoaaGreatDoorFfCQ
import Derived.Deep.RegionHeld
import Derived.Deep.CutRange
namespace Go.Proofs.YtkgcpndnlefkoaaGreatDoor.Fl
open Go.ChangeShapes Go.WideShapes Go.ChangeAt Go.RowKit

theorem quietM {P : Program} {f : FuncId} {args : Array Value} {w : World} {n : Nat} {v : Value} (h : Calls P f args (w.drewN n) fun e w' => e = .returned v ∧ ∃ m, w' = (w.drewN n).drewN m) : Calls P f args (w.drewN n) fun e w'' => e = .returned v ∧ ∃ m, w'' = w.drewN m := h.mono fun _ _ ⟨he, m, hm⟩ => ⟨he, n + m, by rw [hm, World.drewN_drewN]⟩
theorem quietS {P : Program} {f : FuncId} {args : Array Value} {w : World} {n : Nat} {v : Value} (h : Calls P f args (w.drewN n) fun e w' => e = .returned v ∧ w' = w.drewN n) : Calls P f args (w.drewN n) fun e w'' => e = .returned v ∧ ∃ m, w'' = w.drewN m := h.mono fun _ _ ⟨he, hm⟩ => ⟨he, n, hm⟩
set_option maxRecDepth 20000 in
set_option maxHeartbeats 4000000 in
theorem specFilesFault (a : Option Addr) (c : Nat) (l : List Ob) (w : World) (h : OB w.heap.size w a l) (hs : SmallO l) (hn : l.length ≤ 1048576) :
    Calls Tryz.prog 36 #[.slice a l.length c] w fun e w' => e = .returned (.int .i64 (ffl l)) ∧ Below w.heap.size w w' := by
  by_cases hm : 60 < l.length
  · have hC : Hid (ffl l = 2) := by
      show ffl l = 2
      rw [ffl_bad (by rw [fiE_many hm]; decide), fiE_many hm]
    have q : (60 : Int) < (l.length : Int) := by omega
    go_enter Tryz.func36, Tryz.ntmps36
    go_wp2
    go_ret
    exact ⟨ret_int hC.out.symm, Below.refl _ _⟩
  have q : ¬ (60 : Int) < (l.length : Int) := by omega
  go_enter Tryz.func36, Tryz.ntmps36
  go_wp2
  go_loopw [3, 4, 5] (fun i _o _r wr => ∃ k : Nat, k ≤ l.length ∧ i = .int .i64 k ∧ Hid (∀ j, j < k → fiF l j = 0) ∧ Below w.heap.size w wr) (fun i _ _ _ => l.length - (intOf i).toNat)
  case atStart => exact ⟨0, Nat.zero_le _, rfl, fun j hj => absurd hj (Nat.not_lt_zero _), Below.refl _ _⟩
  case round =>
    obtain ⟨k, hk, rfl, hA, hbel⟩ := hrel
    have hsz := hbel.size
    by_cases hlt : k < l.length
    · have qk : (k : Int) < (l.length : Int) := by omega
      have h3 := h.below hbel
      obtain ⟨g, off, e, hg, d0, d1, d2⟩ := h3 k hlt
      subst e
      have hsl := (hs _ (ob_mem l k hlt)).1
      have hbad : ¬ fiF l k = 0 → Hid (ffl l = fiF l k) := fun hb => by
        show ffl l = _
        have e := fiE_bad hm hlt hA.out hb
        rw [ffl_bad (by rw [e]; exact hb), e]
      have hgo : fiF l k = 0 → Hid (∀ j, j < k + 1 → fiF l j = 0) := fun h0 => by
        show ∀ j, _
        intro j hj
        by_cases e : j = k
        · rw [e]; exact h0
        · exact hA.out j (by omega)
      have hF : fiF l k = fiF l k := rfl
      conv at hF => rhs; unfold fiF
      have hp : 0 < k → wr.cell? ⟨g, off + (k - 1) * 3, none⟩ = some (.string (l.getD (k - 1) onil).1) := fun hk0 => by
        obtain ⟨g', off', e', _, f0, _, _⟩ := h3 (k - 1) (by omega)
        simp only [Option.some.injEq, Addr.mk.injEq, and_true] at e'
        obtain ⟨rfl, rfl⟩ := e'
        exact f0
      obtain ⟨C, hCe⟩ : ∃ C, l.getD k onil = C := ⟨_, rfl⟩
      obtain ⟨P, hPe⟩ : ∃ P, (l.getD (k - 1) onil).1 = P := ⟨_, rfl⟩
      obtain ⟨x0, x1, x2⟩ := C
      rw [hCe] at d0 d1 d2 hF hsl
      rw [hPe] at hF hp
      simp only [] at d0 d1 d2 hF hsl
      have hN := fun w => specPathFault x0 w hsl
      have hO := fun w => l6Is 1 (.inl rfl) x2 w
      have fp := fi_path (x0 := x0) (x1 := x1) (x2 := x2)
      have fm := fi_mode (x0 := x0) (x1 := x1) (x2 := x2)
      have fd := fi_id (x0 := x0) (x1 := x1) (x2 := x2)
      have fk := fi_ok (x0 := x0) (x1 := x1) (x2 := x2)
      obtain ⟨n, hn0⟩ : ∃ n, pf x0 = n := ⟨_, rfl⟩
      rw [hn0] at fp fm fd fk
      simp only [hn0] at hN
      obtain ⟨K, hK⟩ : ∃ K, fi x0 x1 x2 = K := ⟨_, rfl⟩
      rw [hK] at hF fp fm fd fk
      obtain ⟨W1, hW1⟩ : ∃ W, wr.alloc (.cells #[.string x0, .int .i64 x1, .string x2] 42) = W := ⟨_, rfl⟩
      have b1 : Below wr.heap.size wr W1 := by rw [← hW1]; exact allocBelow _ _
      have r1 : Rf W1 wr.heap.size [.string x0, .int .i64 x1, .string x2] := by rw [← hW1]; exact Rf.new _ _ _
      have z1 : wr.heap.size < W1.heap.size := by rw [← hW1]; simp
      have c0 := r1.at_ 0 _ rfl
      have c1 := r1.at_ 1 _ rfl
      have c2 := r1.at_ 2 _ rfl
      have hgr : g < wr.heap.size := by omega
      clear hCe hPe hA h3 hn0 hK
      go_wp2_with fail
      refine (hN _).mono ?_; rintro e w2 ⟨rfl, b2⟩
      have hB : Below wr.heap.size wr w2 := b1.trans (b2.mono (Nat.le_of_lt z1))
      have B1 : Below w.heap.size w w2 := below_step hbel hsz hB
      have r2 := r1.below z1 b2
      have c0 := r2.at_ 0 _ rfl
      have c1 := r2.at_ 1 _ rfl
      have c2 := r2.at_ 2 _ rfl
      have hp' : 0 < k → w2.cell? ⟨g, off + (k - 1) * 3, none⟩ = some (.string P) := fun hk0 => (hB.cell (p := ⟨g, off + (k - 1) * 3, none⟩) hgr).trans (hp hk0)
      clear hp r1 b1 b2 r2 hN hW1 d0 d1 d2 hbel hB
      by_cases hz : n = 0
      · have qn : (n != 0) = false := by simp [hz]
        subst hz
        replace fm := fm rfl
        replace fd := fd rfl
        replace fk := fk rfl
        clear fp
        cases hin : inB x1 1 2 with
        | false =>
          obtain ⟨n1, n2⟩ := inB12F hin
          have hE := fm hin
          rw [hE, if_neg (by decide)] at hF
          have HC := hbad (by rw [hF]; decide)
          rw [hF] at HC
          have q1 : (x1 != 1) = true := by simpa using n1
          have q2 : (x1 != 2) = true := by simpa using n2
          clear hbad hgo hF hE hO hp' hin n1 n2 fm fd fk
          go_wp2
          go_ret
          exact ⟨ret_int HC.out.symm, B1⟩
        | true =>
          replace fd := fd hin
          replace fk := fk hin
          clear fm
          have q12 : (x1 != 1) = false ∨ (x1 != 1) = true ∧ (x1 != 2) = false := by
            rcases inB12 hin with e | e
            · exact .inl (by simp [e])
            · exact .inr ⟨by simp [e], by simp [e]⟩
          clear hin
          cases hb : isOf 1 x2 with
          | false =>
            have hE := fd hb
            rw [hE, if_neg (by decide)] at hF
            have HC := hbad (by rw [hF]; decide)
            rw [hF] at HC
            rw [hb] at hO
            clear hbad hgo hF hE hp' hb fd fk
            rcases q12 with q1 | ⟨q1, q2⟩ <;>
            · go_wp2
              go_quiet ((go_at_call 58; exact quietM (hO _)))
              go_wp2
              go_ret
              exact ⟨ret_int HC.out.symm, below_drewN' B1 _⟩
          | true =>
            have hE := fk hb
            rw [if_pos hE] at hF
            rw [hb] at hO
            clear hE hb fd fk
            by_cases hk0 : 0 < k
            · have hI0 : (0 : Int) < (k : Int) := by omega
              have e1 := hp' hk0
              obtain ⟨m, hmk⟩ : ∃ m, k - 1 = m := ⟨_, rfl⟩
              have hw : IntKind.i64.wrap ((k : Int) - 1) = (m : Int) := by rw [IntKind.wrap_i64]; omega
              have hI2 : (m : Int) < (l.length : Int) := by omega
              rw [hmk] at e1
              clear hp' hmk
              cases hle : leF x0 P with
              | true =>
                have HC := hbad (by rw [hF, hle, if_pos ⟨hk0, rfl⟩]; decide)
                rw [hF, hle, if_pos ⟨hk0, rfl⟩] at HC
                unfold leF at hle
                clear hbad hgo hF
                cases hlb : Op.bytesLess x0.toList P.toList with
                | true =>
                  clear hle
                  rcases q12 with q1 | ⟨q1, q2⟩ <;>
                  · go_wp2
                    go_quiet ((go_at_call 58; exact quietM (hO _)))
                    go_wp2
                    go_ret
                    exact ⟨ret_int HC.out.symm, below_drewN' B1 _⟩
                | false =>
                  rw [hlb, Bool.false_or] at hle
                  rcases q12 with q1 | ⟨q1, q2⟩ <;>
                  · go_wp2
                    go_quiet ((go_at_call 58; exact quietM (hO _)))
                    go_wp2
                    go_ret
                    exact ⟨ret_int HC.out.symm, below_drewN' B1 _⟩
              | false =>
                have HG := hgo (by rw [hF, hle, if_neg (fun c => Bool.noConfusion c.2)])
                unfold leF at hle
                obtain ⟨hl1, hl2⟩ := Bool.or_eq_false_iff.1 hle
                clear hbad hgo hF hle
                rcases q12 with q1 | ⟨q1, q2⟩ <;>
                · go_wp2
                  go_quiet ((go_at_call 58; exact quietM (hO _)))
                  go_wp2
                  go_roundw
                  case rel => exact ⟨k + 1, by omega, by go_num, HG, below_drewN' B1 _⟩
                  case measure => first | (simp [intOf]; omega) | simp [intOf]
            · have hI0 : ¬ (0 : Int) < (k : Int) := by omega
              have HG := hgo (by rw [hF, if_neg (fun c => hk0 c.1)])
              clear hbad hgo hF hp'
              rcases q12 with q1 | ⟨q1, q2⟩ <;>
              · go_wp2
                go_quiet ((go_at_call 58; exact quietM (hO _)))
                go_wp2
                go_roundw
                case rel => exact ⟨k + 1, by omega, by go_num, HG, below_drewN' B1 _⟩
                case measure => first | (simp [intOf]; omega) | simp [intOf]
      · have hE := fp hz
        have qn : (n != 0) = true := by simp [hz]
        rw [if_neg (by rw [hE]; exact hz), hE] at hF
        have HC := hbad (by rw [hF]; exact hz)
        rw [hF] at HC
        clear hbad hgo hF hE hp' hO fp fm fd fk hz
        go_wp2
        go_ret
        exact ⟨ret_int HC.out.symm, B1⟩
    · have qk : ¬ (k : Int) < (l.length : Int) := by omega
      have hE : Hid (fiE l = 0) := fiE_ok hm (fun j hj => hA.out j (by omega))
      have hTT : tkA l l.length = true → Hid (ffl l = 7) := fun e => ffl_taken hE.out e
      have hTF : tkA l l.length = false → Hid (ffl l = 0) := fun e => ffl_ok hE.out e
      have h1 := (h.below hbel).mono hsz
      clear hA hE
      obtain ⟨V, rfl⟩ : ∃ V, V = wr := ⟨_, rfl⟩
      go_wp2
      go_loopw [6, 7] (fun i _j wq => ∃ k : Nat, k ≤ l.length ∧ i = .int .i64 k ∧ Hid (tkA l k = false) ∧ Below V.heap.size V wq) (fun i _ _ => l.length - (intOf i).toNat)
      case atStart => exact ⟨0, Nat.zero_le _, rfl, tkA_zero l, Below.refl _ _⟩
      case round =>
        obtain ⟨k, hk, rfl, hA, hbq⟩ := hrel
        have hA2 := tkA_succ l k
        rw [hA.out, Bool.false_or] at hA2
        by_cases hlt : k < l.length
        · have qk : (k : Int) < (l.length : Int) := by omega
          have hYes : tk l (l.getD k onil).1 = true → Hid (ffl l = 7) := fun e => hTT (tkA_more (hA2.trans e) (by omega))
          have hNo : tk l (l.getD k onil).1 = false → Hid (tkA l (k + 1) = false) := fun e => hA2.trans e
          have h3 := h1.below hbq
          obtain ⟨g, off, e, hg, d0, _, _⟩ := h3 k hlt
          obtain ⟨p, hpe⟩ : ∃ p, (l.getD k onil).1 = p := ⟨_, rfl⟩
          rw [hpe] at hYes hNo d0
          have hps : p.size ≤ 1048576 := by rw [← hpe]; exact (hs _ (ob_mem l k hlt)).1
          clear hA hA2 hTT hpe
          obtain ⟨U, rfl⟩ : ∃ U, U = wr := ⟨_, rfl⟩
          go_wp2
          go_loopw [7] (fun j wq => ∃ m : Nat, m ≤ l.length ∧ j = .int .i64 m ∧ Hid (tkU l p m = false) ∧ Below U.heap.size U wq) (fun j _ => l.length - (intOf j).toNat)
          case atStart => exact ⟨0, Nat.zero_le _, rfl, tkU_zero l p, Below.refl _ _⟩
          case round =>
            obtain ⟨m, hmm, rfl, hU, hbu⟩ := hrel
            have hU2 := tkU_succ l p m
            rw [hU.out, Bool.false_or] at hU2
            have BU : Below V.heap.size V wr := below_step hbq hbq.size hbu
            have BW : Below w.heap.size w wr := below_step hbel hsz BU
            by_cases hlm : m < l.length
            · have qm : (m : Int) < (l.length : Int) := by omega
              obtain ⟨g', off', e', hg', f0, _, _⟩ := (h3.below hbu) m hlm
              have d0' := (h3.below hbu) k hlt
              obtain ⟨g2, off2, e2, hg2, f2, _, _⟩ := d0'
              rw [e] at e' e2
              simp only [Option.some.injEq, Addr.mk.injEq, and_true] at e' e2
              obtain ⟨rfl, rfl⟩ := e'
              obtain ⟨rfl, rfl⟩ := e2
              obtain ⟨y, hy⟩ : ∃ y, (l.getD m onil).1 = y := ⟨_, rfl⟩
              have hys : y.size ≤ 1048576 := by rw [← hy]; exact (hs _ (ob_mem l m hlm)).1
              rw [hy] at hU2 f0
              have hd0 : wr.cell? ⟨g, off + k * 3, none⟩ = some (.string p) := by
                have hgU : g < U.heap.size := by have := hbq.size; omega
                exact (hbu.cell (p := ⟨g, off + k * 3, none⟩) hgU).trans d0
              have hI := fun w => specInDir p y w hps hys
              cases hin : inD p y with
              | false =>
                rw [hin] at hU2 hI
                have HU : Hid (tkU l p (m + 1) = false) := hU2
                subst e
                clear hU hU2 hin hYes hNo hTF hy f2 h3
                go_wp2
                go_quiet ((go_at_call 59; exact quietS (hI _)))
                go_wp2
                go_roundw
                case rel => exact ⟨m + 1, by omega, by go_num, HU, below_drewN' hbu _⟩
                case measure => simp [intOf]; omega
              | true =>
                rw [hin] at hU2 hI
                have HT := hYes (tkU_more hU2 (by omega))
                subst e
                clear hU hU2 hin hYes hNo hTF hy f2 h3
                go_wp2
                go_quiet ((go_at_call 59; exact quietS (hI _)))
                go_wp2
                go_ret
                exact ⟨ret_int HT.out.symm, below_drewN' BW _⟩
            · have qm : ¬ (m : Int) < (l.length : Int) := by omega
              have em : m = l.length := by omega
              have HN := hNo (by show tkU l p l.length = false; rw [← em]; exact hU.out)
              clear hYes hNo hU hU2 hTF em
              go_wp2
              go_roundw
              case rel => exact ⟨k + 1, by omega, by go_num, HN, BU⟩
              case measure => simp [intOf]; omega
        · have qk : ¬ (k : Int) < (l.length : Int) := by omega
          have ek : k = l.length := by omega
          have HF := hTF (by rw [← ek]; exact hA.out)
          have B1 : Below w.heap.size w wr := below_step hbel hsz hbq
          clear hTT hTF hA hA2 ek
          go_wp2
          go_ret
          exact ⟨ret_int HF.out.symm, B1⟩
end Go.Proofs.YtkgcpndnlefkoaaGreatDoor.Fl
