/- The contract of the program's put where nothing is put. No statement is proved here. -/
import Derived.Test.YtnififnogdekiaaRows
import Derived.Test.YtnififnogdekiaaLemQ
import Derived.Test.YtnififnogdekiaaDTabQ
import Derived.Test.YtnififnogdekiaaHkTQ
import Derived.Test.YtnififnogdekiaaObLQ
import Derived.Test.YtnififnogdekiaaSfCQ
import Derived.Test.YtnififnogdekiaaShMQ
import Derived.Test.YtnififnogdekiaaShPQ
import Derived.WalkKit
import Derived.ProofKit
import Derived.Below
import Derived.WalkSpells
import Derived.Laws.Cover1
import Derived.Defers
import Derived.Deep.RegionWith
import Derived.Deep.RegionHeld
namespace Go.Proofs.Ytnififnogdekiaa
open Go.ChangeShapes Go.WideShapes Go.ChangeAt Go.RowKit

set_option maxRecDepth 20000 in
set_option maxHeartbeats 2000000 in
theorem putOld (p b : Nat) (l : List Ob) (x0 x2 v0 v2 : ByteArray) (x1 v1 c : Int) (ok : Bool) (w : World) (hR : Rf w p [.map (some b), .int .i64 (l.length : Int)]) (hbp : b < p) (hp : p < w.heap.size) (hS : Sh w b l) (h5 : x0.size = 5)
    (hlk : ∀ w, Sh w b l → (Instr.lookup 76 (.map (some b)) (kv x0) true).run Try.prog w = .ok (.tuple #[.agg #[.string v0, .int .i64 v1, .string v2], .bool ok]) w)
    (hyes : ok = true → c = if v2 = x2 then 0 else 6) (hno : ok = false → c = 2 ∧ 200 ≤ l.length) :
    Calls Try.prog 40 #[.pointer (some ⟨p, 0, none⟩), .agg #[.string x0, .int .i64 x1, .string x2]] w fun e w' => e = .returned (.int .i64 c) ∧ Rf w' p [.map (some b), .int .i64 (l.length : Int)] ∧ Sh w' b l ∧ Below b w w' ∧ w.heap.size ≤ w'.heap.size ∧ PK b p w w' := by
  obtain ⟨n0, n1, n2, n3, n4, hkv⟩ := kv_ints x0
  have hKO := fun w => keyOfC x0 w h5
  rw [hkv] at hKO hlk
  have hmf : ∀ (fn : Fn) (first cap : Array Value) (w : World), (Instr.makeFunc fn first cap).run Try.prog w = .ok (.func fn first cap) w := fun _ _ _ _ => rfl
  obtain ⟨WA, hWA⟩ : ∃ W, w.alloc (.cells #[.pointer (some ⟨p, 0, none⟩)] 53) = W := ⟨_, rfl⟩
  have bA : Below w.heap.size w WA := by rw [← hWA]; exact allocBelow _ _
  have zA : WA.heap.size = w.heap.size + 1 := by rw [← hWA]; simp
  have rqA : Rf WA w.heap.size [.pointer (some ⟨p, 0, none⟩)] := by rw [← hWA]; exact Rf.new _ _ _
  obtain ⟨W0, hW0⟩ : ∃ W, WA.alloc (.cells #[.string x0, .int .i64 x1, .string x2] 31) = W := ⟨_, rfl⟩
  have b0 : Below WA.heap.size WA W0 := by rw [← hW0]; exact allocBelow _ _
  have z0 : W0.heap.size = w.heap.size + 1 + 1 := by rw [← hW0]; simp [zA]
  have ro0 : Rf W0 (w.heap.size + 1) [.string x0, .int .i64 x1, .string x2] := by rw [← hW0, ← zA]; exact Rf.new _ _ _
  have rq0 := rqA.below (by omega) b0
  have B0 : Below w.heap.size w W0 := bA.trans (b0.mono (by omega))
  have rp0 := hR.below hp B0
  have S0 := hS.below B0
  have hb := hS.lt
  have c0 := ro0.at_ 0 _ rfl
  clear rqA b0 bA hR hS
  go_enter_defers Try.func40, Try.ntmps40
  go_wp2_with fail
  refine (hKO _).mono ?_; rintro e w1 ⟨rfl, b1⟩
  have z1 := b1.size
  have rq1 := rq0.below (by omega) b1
  have ro1 := ro0.below (by omega) b1
  have rp1 := rp0.below (by omega) b1
  have S1 := S0.below b1
  have B1 : Below w.heap.size w w1 := B0.trans (b1.mono (by omega))
  clear rq0 ro0 rp0 S0 b1 B0 c0 hW0 hWA
  obtain ⟨W1, hW1⟩ : ∃ W, w1.alloc (.cells #[.int .u8 0, .int .u8 0, .int .u8 0, .int .u8 0, .int .u8 0] 81) = W := ⟨_, rfl⟩
  have b2 : Below w1.heap.size w1 W1 := by rw [← hW1]; exact allocBelow _ _
  have zz : W1.heap.size = w1.heap.size + 1 := by rw [← hW1]; simp
  have rk1 : Rf W1 w1.heap.size [.int .u8 0, .int .u8 0, .int .u8 0, .int .u8 0, .int .u8 0] := by rw [← hW1]; exact Rf.new _ _ _
  have rq2 := (rq1.below (by omega) b2).five (k := w1.heap.size) (by omega) (.int .u8 n0) (.int .u8 n1) (.int .u8 n2) (.int .u8 n3) (.int .u8 n4)
  have ro2 := (ro1.below (by omega) b2).five (k := w1.heap.size) (by omega) (.int .u8 n0) (.int .u8 n1) (.int .u8 n2) (.int .u8 n3) (.int .u8 n4)
  have rp2 := (rp1.below (by omega) b2).five (k := w1.heap.size) (by omega) (.int .u8 n0) (.int .u8 n1) (.int .u8 n2) (.int .u8 n3) (.int .u8 n4)
  have S2 := (S1.below b2).five (k := w1.heap.size) (by omega) (.int .u8 n0) (.int .u8 n1) (.int .u8 n2) (.int .u8 n3) (.int .u8 n4)
  have rk2 := rk1.fiveAt (.int .u8 n0) (.int .u8 n1) (.int .u8 n2) (.int .u8 n3) (.int .u8 n4)
  have B2 := below5 (B1.trans (b2.mono (by omega))) (show w.heap.size ≤ w1.heap.size by omega) (.int .u8 n0) (.int .u8 n1) (.int .u8 n2) (.int .u8 n3) (.int .u8 n4)
  have k0 := rk1.at_ 0 _ rfl
  have k1 := rk1.at_ 1 _ rfl
  have k2 := rk1.at_ 2 _ rfl
  have k3 := rk1.at_ 3 _ rfl
  have k4 := rk1.at_ 4 _ rfl
  have g0 := rk1.fz 0
  have g1 := rk1.fz 1
  have g2 := rk1.fz 2
  have g3 := rk1.fz 3
  have g4 := rk1.fz 4
  have zs : (set5 W1 w1.heap.size (.int .u8 n0) (.int .u8 n1) (.int .u8 n2) (.int .u8 n3) (.int .u8 n4)).heap.size = w1.heap.size + 1 := by unfold set5; simp [zz]
  obtain ⟨W2, hW2⟩ : ∃ W, set5 W1 w1.heap.size (.int .u8 n0) (.int .u8 n1) (.int .u8 n2) (.int .u8 n3) (.int .u8 n4) = W := ⟨_, rfl⟩
  rw [hW2] at rq2 ro2 rp2 S2 rk2 B2 zs
  unfold set5 at hW2
  clear rq1 ro1 rp1 S1 b2 B1 rk1
  have bX : Below W2.heap.size W2 (W2.alloc (.cells #[.string ⟨#[]⟩, .int .i64 0, .string ⟨#[]⟩] 31)) := allocBelow _ _
  have hlk1 := hlk _ S2.drew
  have hlk2 := hlk _ (S2.below bX).drew
  have rqX := rq2.below (by omega) bX
  have rpX := rp2.below (by omega) bX
  have rkX := rk2.below (by omega) bX
  have rxX : Rf (W2.alloc (.cells #[.string ⟨#[]⟩, .int .i64 0, .string ⟨#[]⟩] 31)) W2.heap.size [.string ⟨#[]⟩, .int .i64 0, .string ⟨#[]⟩] := Rf.new _ _ _
  have cq := rq2.at_ 0 _ rfl
  have cp0 := rp2.at_ 0 _ rfl
  have m0 := rk2.at_ 0 _ rfl
  have m1 := rk2.at_ 1 _ rfl
  have m2 := rk2.at_ 2 _ rfl
  have m3 := rk2.at_ 3 _ rfl
  have m4 := rk2.at_ 4 _ rfl
  have cqX := rqX.at_ 0 _ rfl
  have cp0X := rpX.at_ 0 _ rfl
  have m0X := rkX.at_ 0 _ rfl
  have m1X := rkX.at_ 1 _ rfl
  have m2X := rkX.at_ 2 _ rfl
  have m3X := rkX.at_ 3 _ rfl
  have m4X := rkX.at_ 4 _ rfl
  have x0X := rxX.at_ 0 _ rfl
  have x1X := rxX.at_ 1 _ rfl
  have x2X := rxX.at_ 2 _ rfl
  have f0X := rxX.fz 0
  have f1X := rxX.fz 1
  have f2X := rxX.fz 2
  have HbX : Hid (Below W2.heap.size W2 (W2.alloc (.cells #[.string ⟨#[]⟩, .int .i64 0, .string ⟨#[]⟩] 31))) := bX
  have HxX : Hid (Rf (W2.alloc (.cells #[.string ⟨#[]⟩, .int .i64 0, .string ⟨#[]⟩] 31)) W2.heap.size [.string ⟨#[]⟩, .int .i64 0, .string ⟨#[]⟩]) := rxX
  clear rqX rpX rkX rxX bX
  have HS2 : Hid (Sh W2 b l) := S2
  have HB2 : Hid (Below w.heap.size w W2) := B2
  have Hrp2 : Hid (Rf W2 p _) := rp2
  have Hrq2 : Hid (Rf W2 w.heap.size _) := rq2
  have Hro2 : Hid (Rf W2 (w.heap.size + 1) _) := ro2
  clear S2 B2 rp2 rq2 ro2 rk2 hKO hlk
  go_wp2
  go_region
  all_goals
    first
      | (obtain ⟨W3, hW3⟩ : ∃ W, (W2.alloc (.cells #[.string v0, .int .i64 v1, .string v2] 31)).drew = W := ⟨_, rfl⟩
         rw [hW3]
         have bX : Below W2.heap.size W2 W3 := by rw [← hW3]; exact below_drew (allocBelow _ _)
         have rh3 : Rf W3 W2.heap.size [.string v0, .int .i64 v1, .string v2] := by rw [← hW3]; exact (Rf.new _ _ _).drewM)
      | (obtain ⟨W3, hW3⟩ : ∃ W, set3 ((W2.alloc (.cells #[.string ⟨#[]⟩, .int .i64 0, .string ⟨#[]⟩] 31)).drew) W2.heap.size (.string v0) (.int .i64 v1) (.string v2) = W := ⟨_, rfl⟩
         have hW3' := hW3
         unfold set3 at hW3'
         rw [hW3']
         clear hW3'
         have bX : Below W2.heap.size W2 W3 := by rw [← hW3]; exact below3 (below_drew HbX.out) (Nat.le_refl _) _ _ _
         have rh3 : Rf W3 W2.heap.size [.string v0, .int .i64 v1, .string v2] := by rw [← hW3]; exact ((HxX.out.drewM.set (o := 0) (by simp) (.string v0)).set (o := 1) (by simp) (.int .i64 v1)).set (o := 2) (by simp) (.string v2))
  all_goals
    have z3 := bX.size
    have S3 := HS2.out.below bX
    have rq3 := Hrq2.out.below (by omega) bX
    have rp3 := Hrp2.out.below (by omega) bX
    have ro3 := Hro2.out.below (by omega) bX
    have B3 : Below b w W3 := (HB2.out.mono (by omega)).trans (bX.mono (by omega))
    have z4 : w.heap.size ≤ W3.heap.size := by omega
    have cq := rq3.at_ 0 _ rfl
    have cp0 := rp3.at_ 0 _ rfl
    have cp1 := rp3.at_ 1 _ rfl
    have o2 := ro3.at_ 2 _ rfl
    have k2 := rh3.at_ 2 _ rfl
    rw [zs] at k2
    have HE : ∀ W4 : World, W4 = W3 ∨ W4 = W3.drew → Hid (W4.cell? ⟨w.heap.size, 0, none⟩ = some (.pointer (some ⟨p, 0, none⟩)) ∧ Rf W4 p [.map (some b), .int .i64 (l.length : Int)] ∧ Sh W4 b l ∧ Rf (W4.drew.setCell ⟨p, 1, none⟩ (.int .i64 (l.length : Int))) p [.map (some b), .int .i64 (l.length : Int)] ∧ Sh (W4.drew.setCell ⟨p, 1, none⟩ (.int .i64 (l.length : Int))) b l ∧ Below b w (W4.drew.setCell ⟨p, 1, none⟩ (.int .i64 (l.length : Int))) ∧ w.heap.size ≤ (W4.drew.setCell ⟨p, 1, none⟩ (.int .i64 (l.length : Int))).heap.size ∧ PK b p w (W4.drew.setCell ⟨p, 1, none⟩ (.int .i64 (l.length : Int)))) := by
      have PK3 : PK b p w W3 := fun j hj _ _ => (bX.block j (by omega)).trans (HB2.out.block j hj)
      intro W4 h4
      rcases h4 with rfl | rfl
      · exact ⟨cq, rp3, S3, rp3.drewM.set (o := 1) (by simp) (.int .i64 (l.length : Int)), S3.drew.setCell (a := ⟨p, 1, none⟩) (by show b ≠ p; omega) _, B3.drew.setCell (p := ⟨p, 1, none⟩) (by show b ≤ p; omega) _, by simpa using z4, pk_set PK3⟩
      · exact ⟨cq, rp3.drewM, S3.drew, rp3.drewM.drewM.set (o := 1) (by simp) (.int .i64 (l.length : Int)), S3.drew.drew.setCell (a := ⟨p, 1, none⟩) (by show b ≠ p; omega) _, B3.drew.drew.setCell (p := ⟨p, 1, none⟩) (by show b ≤ p; omega) _, by simpa using z4, pk_set (w' := W3.drew) PK3⟩
    clear S3 rq3 rp3 ro3 rh3 B3 bX HS2 HB2 Hrp2 Hrq2 Hro2 HbX HxX hW3 hW2 hW1 hlk1 hlk2 cqX cp0X m0X m1X m2X m3X m4X x0X x1X x2X f0X f1X f2X m0 m1 m2 m3 m4 z4
  all_goals
    cases ok with
    | true =>
      have hc := hyes rfl
      by_cases e2 : v2 = x2
      · rw [if_pos e2] at hc
        subst hc
        have q2 : (v2.toList == x2.toList) = true := beq_bytes_true e2
        clear hyes hno e2
        go_wp2
        refine leaves_cons (f := 51) (args := #[.pointer (some ⟨w.heap.size, 0, none⟩)]) (by simp) (by simp [go_sem]) ?_
        have H := (HE W3 (.inl rfl)).out
        refine (putDone w.heap.size p b l _ .returning W3 H.1 H.2.1 H.2.2.1).mono ?_
        rintro e u' w'' ⟨rfl, rfl, rfl⟩
        exact ⟨_, results_tmp rfl _ _ _, rfl, H.2.2.2.1, H.2.2.2.2.1, H.2.2.2.2.2.1, H.2.2.2.2.2.2.1, H.2.2.2.2.2.2.2⟩
      · rw [if_neg e2] at hc
        subst hc
        have q2 : (v2.toList == x2.toList) = false := beq_bytes_false e2
        clear hyes hno e2
        go_wp2
        refine leaves_cons (f := 51) (args := #[.pointer (some ⟨w.heap.size, 0, none⟩)]) (by simp) (by simp [go_sem]) ?_
        have H := (HE W3 (.inl rfl)).out
        refine (putDone w.heap.size p b l _ .returning W3 H.1 H.2.1 H.2.2.1).mono ?_
        rintro e u' w'' ⟨rfl, rfl, rfl⟩
        exact ⟨_, results_tmp rfl _ _ _, rfl, H.2.2.2.1, H.2.2.2.2.1, H.2.2.2.2.2.1, H.2.2.2.2.2.2.1, H.2.2.2.2.2.2.2⟩
    | false =>
      obtain ⟨hc, h200⟩ := hno rfl
      subst hc
      have q200 : (200 : Int) ≤ (l.length : Int) := by omega
      clear hyes hno h200
      go_wp2
      refine leaves_cons (f := 51) (args := #[.pointer (some ⟨w.heap.size, 0, none⟩)]) (by simp) (by simp [go_sem]) ?_
      have H := (HE W3 (.inl rfl)).out
      refine (putDone w.heap.size p b l _ .returning W3 H.1 H.2.1 H.2.2.1).mono ?_
      rintro e u' w'' ⟨rfl, rfl, rfl⟩
      exact ⟨_, results_tmp rfl _ _ _, rfl, H.2.2.2.1, H.2.2.2.2.1, H.2.2.2.2.2.1, H.2.2.2.2.2.2.1, H.2.2.2.2.2.2.2⟩
end Go.Proofs.Ytnififnogdekiaa
