/- The contracts of the program's shelf: put, find. No statement is proved here. -/
import Derived.Test.YtlgeoaepjghdhaaRows
import Derived.Test.YtlgeoaepjghdhaaLem
import Derived.Test.YtlgeoaepjghdhaaStrs
import Derived.Test.YtlgeoaepjghdhaaDTab
import Derived.Test.YtlgeoaepjghdhaaOwn
import Derived.Test.YtlgeoaepjghdhaaFr
import Derived.Test.YtlgeoaepjghdhaaHkT
import Derived.Test.YtlgeoaepjghdhaaObL
import Derived.Test.YtlgeoaepjghdhaaSfC
import Derived.Test.YtlgeoaepjghdhaaShM
import Derived.Test.YtlgeoaepjghdhaaShI
import Derived.WalkKit
import Derived.ProofKit
import Derived.Below
import Derived.WalkSpells
import Derived.Laws.Cover1
import Derived.Defers
import Derived.Deep.RegionWith
import Derived.Deep.RegionHeld
namespace Go.Proofs.Ytlgeoaepjghdhaa
open Go.ChangeShapes Go.WideShapes Go.ChangeAt Go.RowKit

theorem Sh.drew {w : World} {b : Nat} {l : List Ob} (h : Sh w b l) : Sh w.drew b l := by
  obtain ⟨D, h1, h2⟩ := h
  exact ⟨D, h1.drew, h2⟩

set_option maxRecDepth 20000 in
set_option maxHeartbeats 1000000 in
theorem putDone (q p b : Nat) (l : List Ob) (x : Value) (u : _) (w : World) (hq : w.cell? ⟨q, 0, none⟩ = some (.pointer (some ⟨p, 0, none⟩))) (hR : Rf w p [.map (some b), x]) (hS : Sh w b l) :
    CallsD Try.prog 115 #[.pointer (some ⟨q, 0, none⟩)] u w fun e u' w' => u' = u ∧ (e = .returned (.tuple #[]) ∧ w' = w.drew.setCell ⟨p, 1, none⟩ (.int .i64 (l.length : Int))) := by
  have hL := fun ty => hS.drew.len ty
  have d0 := hR.at_ 0 _ rfl
  have d1 := hR.at_ 1 _ rfl
  have f1 := hR.fz 1
  clear hS hR
  go_enter_d Try.func115, Try.ntmps115
  go_wp2
  go_region
  go_end0
  exact ⟨rfl, rfl⟩

theorem Rf.five {w : World} {b k : Nat} {vs : List Value} (h : Rf w b vs) (hne : b ≠ k) (v0 v1 v2 v3 v4 : Value) : Rf (set5 w k v0 v1 v2 v3 v4) b vs :=
  ((((h.other (o := 0) hne v0).other (o := 1) hne v1).other (o := 2) hne v2).other (o := 3) hne v3).other (o := 4) hne v4
theorem Rf.fiveAt {w : World} {k : Nat} {x0 x1 x2 x3 x4 : Value} (h : Rf w k [x0, x1, x2, x3, x4]) (v0 v1 v2 v3 v4 : Value) : Rf (set5 w k v0 v1 v2 v3 v4) k [v0, v1, v2, v3, v4] :=
  ((((h.set (o := 0) (by simp) v0).set (o := 1) (by simp) v1).set (o := 2) (by simp) v2).set (o := 3) (by simp) v3).set (o := 4) (by simp) v4
theorem Sh.five {w : World} {b k : Nat} {l : List Ob} (h : Sh w b l) (hne : b ≠ k) (v0 v1 v2 v3 v4 : Value) : Sh (set5 w k v0 v1 v2 v3 v4) b l :=
  ((((h.setCell (a := ⟨k, 0, none⟩) hne v0).setCell (a := ⟨k, 1, none⟩) hne v1).setCell (a := ⟨k, 2, none⟩) hne v2).setCell (a := ⟨k, 3, none⟩) hne v3).setCell (a := ⟨k, 4, none⟩) hne v4
theorem below5 {B k : Nat} {w0 w : World} (h : Below B w0 w) (hk : B ≤ k) (v0 v1 v2 v3 v4 : Value) : Below B w0 (set5 w k v0 v1 v2 v3 v4) :=
  ((((h.setCell (p := ⟨k, 0, none⟩) hk v0).setCell (p := ⟨k, 1, none⟩) hk v1).setCell (p := ⟨k, 2, none⟩) hk v2).setCell (p := ⟨k, 3, none⟩) hk v3).setCell (p := ⟨k, 4, none⟩) hk v4
def set3 (w : World) (b : Nat) (v0 v1 v2 : Value) : World := ((w.setCell ⟨b, 0, none⟩ v0).setCell ⟨b, 1, none⟩ v1).setCell ⟨b, 2, none⟩ v2
theorem Rf.three {w : World} {b k : Nat} {vs : List Value} (h : Rf w b vs) (hne : b ≠ k) (v0 v1 v2 : Value) : Rf (set3 w k v0 v1 v2) b vs :=
  ((h.other (o := 0) hne v0).other (o := 1) hne v1).other (o := 2) hne v2
theorem Sh.three {w : World} {b k : Nat} {l : List Ob} (h : Sh w b l) (hne : b ≠ k) (v0 v1 v2 : Value) : Sh (set3 w k v0 v1 v2) b l :=
  ((h.setCell (a := ⟨k, 0, none⟩) hne v0).setCell (a := ⟨k, 1, none⟩) hne v1).setCell (a := ⟨k, 2, none⟩) hne v2
theorem below3 {B k : Nat} {w0 w : World} (h : Below B w0 w) (hk : B ≤ k) (v0 v1 v2 : Value) : Below B w0 (set3 w k v0 v1 v2) :=
  ((h.setCell (p := ⟨k, 0, none⟩) hk v0).setCell (p := ⟨k, 1, none⟩) hk v1).setCell (p := ⟨k, 2, none⟩) hk v2
theorem Rf.grewM {w w' : World} {b : Nat} {vs : List Value} {row : Option Nat} (h : Rf w b vs) (hg : w.grownBy w' row) (hne : some b ≠ row) (hlt : b < w.heap.size) : Rf w' b vs :=
  ⟨fun k v hk => hg.cell (h.at_ k v hk) hne, fun k => by
    have e := hg.block b hlt hne
    have h1 := h.fz k
    unfold World.frozen? at h1 ⊢
    rw [e]; exact h1⟩
theorem Rf.drewM {w : World} {b : Nat} {vs : List Value} (h : Rf w b vs) : Rf w.drew b vs := ⟨fun k v hk => h.at_ k v hk, fun k => h.fz k⟩
theorem kv_ints (id : ByteArray) : ∃ n0 n1 n2 n3 n4 : Int, kv id = .agg #[.int .u8 n0, .int .u8 n1, .int .u8 n2, .int .u8 n3, .int .u8 n4] := ⟨_, _, _, _, _, rfl⟩

/-- Of the old blocks none but b and p has turned. -/
def PK (b p : Nat) (w w' : World) : Prop := ∀ k, k < w.heap.size → k ≠ b → k ≠ p → w'.heap[k]? = w.heap[k]?
theorem pk_set {b p o : Nat} {w w' : World} {v : Value} (h : PK b p w w') : PK b p w (w'.drew.setCell ⟨p, o, none⟩ v) := fun k hk hb hp =>
  (Below.heap_setCell w'.drew ⟨p, o, none⟩ v k (by simpa using hp)).trans (h k hk hb hp)
set_option maxRecDepth 20000 in
set_option maxHeartbeats 2000000 in
theorem putNew (p b : Nat) (l : List Ob) (x0 x2 : ByteArray) (x1 : Int) (w : World) (hR : Rf w p [.map (some b), .int .i64 (l.length : Int)]) (hbp : b < p) (hp : p < w.heap.size) (hS : Sh w b l) (h5 : x0.size = 5) (hn : ∀ o ∈ l, o.1 ≠ x0) (hl : l.length < 200) :
    Calls Try.prog 92 #[.pointer (some ⟨p, 0, none⟩), .agg #[.string x0, .int .i64 x1, .string x2]] w fun e w' => e = .returned (.int .i64 0) ∧ Rf w' p [.map (some b), .int .i64 ((l.length + 1 : Nat) : Int)] ∧ Sh w' b (l ++ [(x0, x1, x2)]) ∧ Below b w w' ∧ w.heap.size ≤ w'.heap.size ∧ PK b p w w' := by
  obtain ⟨n0, n1, n2, n3, n4, hkv⟩ := kv_ints x0
  have hKO := fun w => keyOfC x0 w h5
  rw [hkv] at hKO
  have hmf : ∀ (fn : Fn) (first cap : Array Value) (w : World), (Instr.makeFunc fn first cap).run Try.prog w = .ok (.func fn first cap) w := fun _ _ _ _ => rfl
  have q200 : ¬ (200 : Int) ≤ (l.length : Int) := by omega
  obtain ⟨WA, hWA⟩ : ∃ W, w.alloc (.cells #[.pointer (some ⟨p, 0, none⟩)] 102) = W := ⟨_, rfl⟩
  have bA : Below w.heap.size w WA := by rw [← hWA]; exact allocBelow _ _
  have zA : WA.heap.size = w.heap.size + 1 := by rw [← hWA]; simp
  have rqA : Rf WA w.heap.size [.pointer (some ⟨p, 0, none⟩)] := by rw [← hWA]; exact Rf.new _ _ _
  obtain ⟨W0, hW0⟩ : ∃ W, WA.alloc (.cells #[.string x0, .int .i64 x1, .string x2] 100) = W := ⟨_, rfl⟩
  have b0 : Below WA.heap.size WA W0 := by rw [← hW0]; exact allocBelow _ _
  have z0 : W0.heap.size = w.heap.size + 1 + 1 := by rw [← hW0]; simp [zA]
  have ro0 : Rf W0 (w.heap.size + 1) [.string x0, .int .i64 x1, .string x2] := by rw [← hW0, ← zA]; exact Rf.new _ _ _
  have rq0 := rqA.below (by omega) b0
  have B0 : Below w.heap.size w W0 := bA.trans (b0.mono (by omega))
  have rp0 := hR.below hp B0
  have S0 := hS.below B0
  have hb := hS.lt
  have c0 := ro0.at_ 0 _ rfl
  clear rqA b0 bA hR hS
  go_enter_defers Try.func92, Try.ntmps92
  go_wp2_with fail
  refine (hKO _).mono ?_; rintro e w1 ⟨rfl, b1⟩
  have z1 := b1.size
  have rq1 := rq0.below (by omega) b1
  have ro1 := ro0.below (by omega) b1
  have rp1 := rp0.below (by omega) b1
  have S1 := S0.below b1
  have B1 : Below w.heap.size w w1 := B0.trans (b1.mono (by omega))
  clear rq0 ro0 rp0 S0 b1 B0 c0 hW0 hWA
  obtain ⟨W1, hW1⟩ : ∃ W, w1.alloc (.cells #[.int .u8 0, .int .u8 0, .int .u8 0, .int .u8 0, .int .u8 0] 173) = W := ⟨_, rfl⟩
  have b2 : Below w1.heap.size w1 W1 := by rw [← hW1]; exact allocBelow _ _
  have zz : W1.heap.size = w1.heap.size + 1 := by rw [← hW1]; simp
  have rk1 : Rf W1 w1.heap.size [.int .u8 0, .int .u8 0, .int .u8 0, .int .u8 0, .int .u8 0] := by rw [← hW1]; exact Rf.new _ _ _
  have rq2 := (rq1.below (by omega) b2).five (k := w1.heap.size) (by omega) (.int .u8 n0) (.int .u8 n1) (.int .u8 n2) (.int .u8 n3) (.int .u8 n4)
  have ro2 := (ro1.below (by omega) b2).five (k := w1.heap.size) (by omega) (.int .u8 n0) (.int .u8 n1) (.int .u8 n2) (.int .u8 n3) (.int .u8 n4)
  have rp2 := (rp1.below (by omega) b2).five (k := w1.heap.size) (by omega) (.int .u8 n0) (.int .u8 n1) (.int .u8 n2) (.int .u8 n3) (.int .u8 n4)
  have S2 := (S1.below b2).five (k := w1.heap.size) (by omega) (.int .u8 n0) (.int .u8 n1) (.int .u8 n2) (.int .u8 n3) (.int .u8 n4)
  have rk2 := rk1.fiveAt (.int .u8 n0) (.int .u8 n1) (.int .u8 n2) (.int .u8 n3) (.int .u8 n4)
  have B2 := below5 (B1.trans (b2.mono (by omega))) (show w.heap.size ≤ w1.heap.size by omega) (.int .u8 n0) (.int .u8 n1) (.int .u8 n2) (.int .u8 n3) (.int .u8 n4)
  have k0 := rk1.at_ 0 _ rfl
  have k1 := rk1.at_ 1 _ rfl
  have k2 := rk1.at_ 2 _ rfl
  have k3 := rk1.at_ 3 _ rfl
  have k4 := rk1.at_ 4 _ rfl
  have g0 := rk1.fz 0
  have g1 := rk1.fz 1
  have g2 := rk1.fz 2
  have g3 := rk1.fz 3
  have g4 := rk1.fz 4
  have zs : (set5 W1 w1.heap.size (.int .u8 n0) (.int .u8 n1) (.int .u8 n2) (.int .u8 n3) (.int .u8 n4)).heap.size = w1.heap.size + 1 := by unfold set5; simp [zz]
  obtain ⟨W2, hW2⟩ : ∃ W, set5 W1 w1.heap.size (.int .u8 n0) (.int .u8 n1) (.int .u8 n2) (.int .u8 n3) (.int .u8 n4) = W := ⟨_, rfl⟩
  rw [hW2] at rq2 ro2 rp2 S2 rk2 B2 zs
  unfold set5 at hW2
  clear rq1 ro1 rp1 S1 b2 B1 rk1
  have bX : Below W2.heap.size W2 (W2.alloc (.cells #[.string ⟨#[]⟩, .int .i64 0, .string ⟨#[]⟩] 100)) := allocBelow _ _
  have hlk := S2.drew.miss h5 hn
  have hlk' := (S2.below bX).drew.miss h5 hn
  rw [hkv, show obV onil = .agg #[.string ⟨#[]⟩, .int .i64 0, .string ⟨#[]⟩] from rfl] at hlk hlk'
  have rqX := rq2.below (by omega) bX
  have rpX := rp2.below (by omega) bX
  have rkX := rk2.below (by omega) bX
  have rxX : Rf (W2.alloc (.cells #[.string ⟨#[]⟩, .int .i64 0, .string ⟨#[]⟩] 100)) W2.heap.size [.string ⟨#[]⟩, .int .i64 0, .string ⟨#[]⟩] := Rf.new _ _ _
  have cq := rq2.at_ 0 _ rfl
  have cp0 := rp2.at_ 0 _ rfl
  have m0 := rk2.at_ 0 _ rfl
  have m1 := rk2.at_ 1 _ rfl
  have m2 := rk2.at_ 2 _ rfl
  have m3 := rk2.at_ 3 _ rfl
  have m4 := rk2.at_ 4 _ rfl
  have cqX := rqX.at_ 0 _ rfl
  have cp0X := rpX.at_ 0 _ rfl
  have m0X := rkX.at_ 0 _ rfl
  have m1X := rkX.at_ 1 _ rfl
  have m2X := rkX.at_ 2 _ rfl
  have m3X := rkX.at_ 3 _ rfl
  have m4X := rkX.at_ 4 _ rfl
  have x0X := rxX.at_ 0 _ rfl
  have x1X := rxX.at_ 1 _ rfl
  have x2X := rxX.at_ 2 _ rfl
  have f0X := rxX.fz 0
  have f1X := rxX.fz 1
  have f2X := rxX.fz 2
  clear rqX rpX rkX rxX bX
  have HS2 : Hid (Sh W2 b l) := S2
  have HB2 : Hid (Below w.heap.size w W2) := B2
  have Hrp2 : Hid (Rf W2 p _) := rp2
  have Hrq2 : Hid (Rf W2 w.heap.size _) := rq2
  have Hro2 : Hid (Rf W2 (w.heap.size + 1) _) := ro2
  have Hrk2 : Hid (Rf W2 w1.heap.size _) := rk2
  clear S2 B2 rp2 rq2 ro2 rk2 hKO
  go_wp2
  go_region
  all_goals
    obtain ⟨W3, hW3⟩ : ∃ W, (W2.alloc (.cells #[.string ⟨#[]⟩, .int .i64 0, .string ⟨#[]⟩] 100)).drew = W := ⟨_, rfl⟩
    rw [hW3]
    have bX : Below W2.heap.size W2 W3 := by rw [← hW3]; exact below_drew (allocBelow _ _)
    have z3 := bX.size
    have S3 := HS2.out.below bX
    have rq3 := Hrq2.out.below (by omega) bX
    have rp3 := Hrp2.out.below (by omega) bX
    have ro3 := Hro2.out.below (by omega) bX
    have rk3 := Hrk2.out.below (by omega) bX
    have B3 : Below b w W3 := (HB2.out.mono (by omega)).trans (bX.mono (by omega))
    obtain ⟨W4, hup, S4, g4⟩ := S3.drew.put (o := (x0, x1, x2)) h5 hn (by omega)
    rw [show kv ((x0, x1, x2) : Ob).1 = _ from hkv, show obV (x0, x1, x2) = .agg #[.string x0, .int .i64 x1, .string x2] from rfl] at hup
    have R4 := rp3.drewM.grewM g4 (by simp; omega) (by show p < W3.heap.size; omega)
    have q4 := (rq3.drewM.grewM g4 (by simp; omega) (by show w.heap.size < W3.heap.size; omega)).at_ 0 _ rfl
    have PK4 : PK b p w W4 := fun j hj hjb _ => (g4.block j (by show j < W3.heap.size; omega) (fun e => hjb (by cases e; rfl))).trans ((bX.block j (by omega)).trans (HB2.out.block j hj))
    have B4 : Below b w W4 := B3.drew.grown g4 (by show b ≤ W3.heap.size; omega) (fun i hi => by cases hi; exact Nat.le_refl _)
    have z4 : w.heap.size ≤ W4.heap.size := by have := g4.size; have e : W3.drew.heap.size = W3.heap.size := rfl; omega
    have cq := rq3.at_ 0 _ rfl
    have cp0 := rp3.at_ 0 _ rfl
    have cp1 := rp3.at_ 1 _ rfl
    have m0 := rk3.at_ 0 _ rfl
    have m1 := rk3.at_ 1 _ rfl
    have m2 := rk3.at_ 2 _ rfl
    have m3 := rk3.at_ 3 _ rfl
    have m4 := rk3.at_ 4 _ rfl
    have o0 := ro3.at_ 0 _ rfl
    have o1 := ro3.at_ 1 _ rfl
    have o2 := ro3.at_ 2 _ rfl
    have HS4 : Hid (Sh W4 b _) := S4
    have HR4 : Hid (Rf W4 p _) := R4
    have HB4 : Hid (Below b w W4) := B4
    have HF : Hid (Rf (W4.drew.setCell ⟨p, 1, none⟩ (.int .i64 ((l ++ [(x0, x1, x2)]).length : Int))) p [.map (some b), .int .i64 ((l.length + 1 : Nat) : Int)] ∧ Sh (W4.drew.setCell ⟨p, 1, none⟩ (.int .i64 ((l ++ [(x0, x1, x2)]).length : Int))) b (l ++ [(x0, x1, x2)]) ∧ Below b w (W4.drew.setCell ⟨p, 1, none⟩ (.int .i64 ((l ++ [(x0, x1, x2)]).length : Int))) ∧ w.heap.size ≤ (W4.drew.setCell ⟨p, 1, none⟩ (.int .i64 ((l ++ [(x0, x1, x2)]).length : Int))).heap.size ∧ PK b p w (W4.drew.setCell ⟨p, 1, none⟩ (.int .i64 ((l ++ [(x0, x1, x2)]).length : Int)))) := by
      refine ⟨?_, S4.drew.setCell (a := ⟨p, 1, none⟩) (by show b ≠ p; omega) _, B4.drew.setCell (p := ⟨p, 1, none⟩) (by show b ≤ p; omega) _, ?_, pk_set PK4⟩
      · have h := R4.drewM.set (o := 1) (by simp) (.int .i64 ((l ++ [(x0, x1, x2)]).length : Int))
        rw [show (l ++ [(x0, x1, x2)]).length = l.length + 1 by simp] at h ⊢
        exact h
      · simpa using z4
    clear S3 rq3 rp3 ro3 rk3 B3 bX S4 R4 B4 PK4 g4 hW3 HS2 HB2 Hrp2 Hrq2 Hro2 Hrk2 hW2 hW1 hlk hlk'
    go_wp2
    go_region
    go_wp2
    refine leaves_cons (f := 115) (args := #[.pointer (some ⟨w.heap.size, 0, none⟩)]) (by simp) (by simp [go_sem]) ?_
    refine (putDone w.heap.size p b (l ++ [(x0, x1, x2)]) _ .returning W4 q4 HR4.out HS4.out).mono ?_
    rintro e u' w'' ⟨rfl, rfl, rfl⟩
    exact ⟨_, results_tmp rfl _ _ _, rfl, HF.out.1, HF.out.2.1, HF.out.2.2.1, HF.out.2.2.2.1, HF.out.2.2.2.2⟩
end Go.Proofs.Ytlgeoaepjghdhaa
