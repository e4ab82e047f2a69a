/- The contract of l4Chunks. No statement is proved here. -/
import Derived.Test.YtciddfpkcdicaaaRows
import Derived.Test.YtciddfpkcdicaaaKpDQ
import Derived.Test.YtciddfpkcdicaaaKpGQ
import Derived.WalkKit
import Derived.ProofKit
import Derived.Below
import Derived.WalkSpells
import Derived.Deep.QuietTactic
import Derived.BigQuiet
import Derived.Deep.RegionWith
import Derived.Deep.RegionHeld
import Derived.Deep.Cut
import Derived.Deep.CutRange
namespace Go.Proofs.Ytciddfpkcdicaaa
open Go.ChangeShapes Go.WideShapes Go.ChangeAt Go.RowKit

/-- Where there is no list there is no room. -/
structure N3 (a1 a2 a3 : Option Addr) (c1 c2 c3 : Nat) : Prop where
  z1 : a1 = none → c1 = 0
  z2 : a2 = none → c2 = 0
  z3 : a3 = none → c3 = 0
theorem segA_none {a : Option Addr} {c f : Nat} (h : a = none → c = 0) (e : segA a c f = none) : c - f = 0 := by
  unfold segA at e
  split at e
  · omega
  · cases a with
    | none => have := h rfl; omega
    | some x => cases e
theorem putSeg (base : Nat) (v : Value) (L : List Ck) (sl : Nat → Value) (a1 a2 a3 : Option Addr) (c1 c2 c3 : Nat) (x1 x2 x3 : List ByteArray) (f0 f1 f2 t0 t1 t2 : Nat) (w : World) (B : Nat) (hO : KO base w v L sl) (hb : base ≤ w.heap.size) (hX : X3 B w a1 a2 a3 c1 c2 c3 x1 x2 x3) (hB : B ≤ w.heap.size) (hZ : Z3 c1 c2 c3 x1 x2 x3) (hN : N3 a1 a2 a3 c1 c2 c3) (hL : L.length ≤ 1048576)
    (h1 : le3 (f0, f1, f2) (t0, t1, t2)) (h2 : le3 (t0, t1, t2) (x1.length, x2.length, x3.length)) :
    Calls Try.prog 58 #[v, segV a1 c1 f0 t0, segV a2 c2 f1 t1, segV a3 c3 f2 t2] w fun e w' => PutP base v (L ++ ptK x1 x2 x3 ((f0, f1, f2), (t0, t1, t2))) w e w' := by
  obtain ⟨h10, h11, h12⟩ := h1
  obtain ⟨h20, h21, h22⟩ := h2
  simp only [] at h10 h11 h12 h20 h21 h22
  have l1 : (sgK x1 f0 t0).length = t0 - f0 := sgK_len h20
  have l2 : (sgK x2 f1 t1).length = t1 - f1 := sgK_len h21
  have l3 : (sgK x3 f2 t2).length = t2 - f2 := sgK_len h22
  have q1 := segSSB hX.s1 f0 t0 c1 h10 h20 hZ.k1
  have q2 := segSSB hX.s2 f1 t1 c2 h11 h21 hZ.k2
  have q3 := segSSB hX.s3 f2 t2 c3 h12 h22 hZ.k3
  have hA := l4PutW base v L sl (segA a1 c1 f0) (segA a2 c2 f1) (segA a3 c3 f2) (c1 - f0) (c2 - f1) (c3 - f2) (sgK x1 f0 t0) (sgK x2 f1 t1) (sgK x3 f2 t2) w hO hb ⟨q1.mono hB, segA_none hN.z1⟩ ⟨q2.mono hB, segA_none hN.z2⟩ ⟨q3.mono hB, segA_none hN.z3⟩ (by have := hZ.n1; omega) (by have := hZ.n2; omega) (by have := hZ.n3; omega) hL
  rw [l1, l2, l3] at hA
  exact hA
/-- The pieces that are still to come where a run of kept lines may begin. -/
def rest3 (A B : Nat → Int) (E : T3) (N : Nat) (f : T3) : List (T3 × T3) := (f, ad f (runF A B (N - f.1) f)) :: segs E (ad f (runF A B (N - f.1) f)) (keptR A B (f.1 + runF A B (N - f.1) f) (N - (f.1 + runF A B (N - f.1) f)))
theorem rest_ok {A B : Nat → Int} {E : T3} {N : Nat} (G : T3 × T3 → Prop) (h0 : G ((0, 0, 0), (0, 0, 0))) (hok : ∀ x ∈ segs E (0, 0, 0) (keptR A B 0 N), G x) : ∀ x ∈ rest3 A B E N (0, 0, 0), G x := by
  unfold rest3
  simp only [Nat.sub_zero, Nat.zero_add]
  cases N with
  | zero =>
    intro x hx
    rcases List.mem_cons.1 hx with rfl | hx
    · exact h0
    · exact hok x hx
  | succ n =>
    by_cases h : A 0 = 0 ∧ B 0 = 0
    · have hb : both A B 0 = true := by unfold both; rw [h.1, h.2]; rfl
      have e := segs_run (E := E) (f := (0, 0, 0)) (n := n) hb
      rw [h.1, h.2] at e
      rw [e] at hok
      simp only [Int.toNat_zero, Nat.zero_add] at hok
      exact fun x hx => hok x (List.mem_cons_of_mem _ hx)
    · have hz : runF A B (n + 1) (0, 0, 0) = 0 := runF_no n h
      rw [hz, ad_zero, Nat.sub_zero]
      intro x hx
      rcases List.mem_cons.1 hx with rfl | hx
      · exact h0
      · exact hok x hx
theorem rest_start {A B : Nat → Int} {E : T3} {N : Nat} {α : Type} (pt : T3 × T3 → List α) (h0 : ∀ p, pt (p, p) = []) : (segs E (0, 0, 0) (keptR A B 0 N)).flatMap pt = (rest3 A B E N (0, 0, 0)).flatMap pt := by
  rw [segs_start A B E N pt h0]
  unfold rest3
  simp only [Nat.sub_zero, Nat.zero_add]
theorem ptK_self (x1 x2 x3 : List ByteArray) (p : T3) : ptK x1 x2 x3 (p, p) = [] := by
  unfold ptK sgK
  simp only [Nat.sub_self, List.take_zero]
  rfl
theorem runF_ad {A B : Nat → Int} {N : Nat} {f : T3} {n : Nat} (hn : f.1 + n < N) (h : A (f.1 + n) = ((f.2.1 + n : Nat) : Int) ∧ B (f.1 + n) = ((f.2.2 + n : Nat) : Int)) : runF A B (N - f.1 - n) (ad f n) = runF A B (N - f.1 - (n + 1)) (ad f (n + 1)) + 1 := by
  obtain ⟨m, hm⟩ : ∃ m, N - f.1 - n = m + 1 := ⟨N - f.1 - n - 1, by omega⟩
  rw [hm, runF_yes m h, show N - f.1 - (n + 1) = m by omega]
  rfl
theorem runF_ad_no {A B : Nat → Int} {N : Nat} {f : T3} {n : Nat} (h : f.1 + n < N → ¬ (A (f.1 + n) = ((f.2.1 + n : Nat) : Int) ∧ B (f.1 + n) = ((f.2.2 + n : Nat) : Int))) : runF A B (N - f.1 - n) (ad f n) = 0 := by
  cases e : N - f.1 - n with
  | zero => rfl
  | succ m => exact runF_no m (h (by omega))
end Go.Proofs.Ytciddfpkcdicaaa
