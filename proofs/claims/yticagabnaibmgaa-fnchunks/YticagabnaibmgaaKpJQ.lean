/- The chunks of three texts: what is told of them whole. Plain mathematics. No statement is proved here. -/
import Derived.Test.YticagabnaibmgaaRows
import Derived.Test.YticagabnaibmgaaLemQ
import Derived.Test.YticagabnaibmgaaLFLemQ
import Derived.Test.YticagabnaibmgaaComQ
import Derived.Test.YticagabnaibmgaaKpMQ
import Derived.Test.YticagabnaibmgaaCkLQ
import Derived.Test.YticagabnaibmgaaCkMQ
import Derived.Test.YticagabnaibmgaaCkTQ
import Derived.Test.YticagabnaibmgaaKpBQ
import Derived.Test.YticagabnaibmgaaKpDQ
import Derived.WalkKit
import Derived.ProofKit
import Derived.Test.YticagabnaibmgaaLFQ
import Derived.Test.YticagabnaibmgaaAskedQ
import Derived.Test.YticagabnaibmgaaDTabQ
import Derived.Test.YticagabnaibmgaaKpFQ
import Derived.Test.YticagabnaibmgaaKpGQ
import Derived.Test.YticagabnaibmgaaKpIQ
import Derived.Below
import Derived.WalkSpells
import Derived.Deep.QuietTactic
import Derived.BigQuiet
import Derived.Deep.RegionWith
import Derived.Deep.RegionHeld
import Derived.Deep.Cut
import Derived.Deep.CutRange
namespace Go.Proofs.Yticagabnaibmgaa
open Go.ChangeShapes Go.WideShapes Go.ChangeAt Go.RowKit

/-- The places that all three keep, and the chunks. -/
def kpL (x1 x2 x3 : List ByteArray) : List T3 := keptR (part (mat x1 x2 0 0)) (part (mat x1 x3 0 0)) 0 x1.length
def ckT (x1 x2 x3 : List ByteArray) : List Ck := (segs (x1.length, x2.length, x3.length) (0, 0, 0) (kpL x1 x2 x3)).flatMap (ptK x1 x2 x3)
theorem kp_keep (x1 x2 x3 : List ByteArray) : keep3 (mat x1 x2 0 0) (mat x1 x3 0 0) = kpL x1 x2 x3 := by
  have r1 := mat_rises x1 x2 _ 0 0 (Nat.le_refl _)
  have r2 := mat_rises x1 x3 _ 0 0 (Nat.le_refl _)
  have i1 := mat_in x1 x2 _ 0 0 (Nat.le_refl _)
  have i2 := mat_in x1 x3 _ 0 0 (Nat.le_refl _)
  exact keep3_kept x1.length 0 _ _ (r1.imp fun h => h.1) (r2.imp fun h => h.1) (fun p hp => by have := i1 p hp; omega) (fun p hp => by have := i2 p hp; omega)
theorem kp_mem {x1 x2 x3 : List ByteArray} {p : T3} (h : p ∈ kpL x1 x2 x3) : p.1 < x1.length ∧ p.2.1 < x2.length ∧ p.2.2 < x3.length := by
  obtain ⟨_, h1, h2, h3⟩ := keptR_mem _ _ p h
  refine ⟨by omega, ?_, ?_⟩
  · rcases part_cases (mat x1 x2 0 0) p.1 with e | ⟨j, e, hm⟩
    · omega
    · have := mat_in x1 x2 _ 0 0 (Nat.le_refl _) _ hm
      simp only [] at this
      omega
  · rcases part_cases (mat x1 x3 0 0) p.1 with e | ⟨j, e, hm⟩
    · omega
    · have := mat_in x1 x3 _ 0 0 (Nat.le_refl _) _ hm
      simp only [] at this
      omega
theorem kp_rises (x1 x2 x3 : List ByteArray) : (kpL x1 x2 x3).Pairwise lt3 := by
  have r1 := mat_rises x1 x2 _ 0 0 (Nat.le_refl _)
  have r2 := mat_rises x1 x3 _ 0 0 (Nat.le_refl _)
  exact keptR_rises _ _ (fun x y _ hxy _ hx hy => part_mono r1 hxy hx hy) (fun x y _ hxy _ hx hy => part_mono r2 hxy hx hy)
theorem kp_ok (x1 x2 x3 : List ByteArray) : ∀ x ∈ segs (x1.length, x2.length, x3.length) (0, 0, 0) (kpL x1 x2 x3), le3 x.1 x.2 ∧ le3 x.2 (x1.length, x2.length, x3.length) :=
  segs_ok _ _ _ _ (Nat.le_refl _) ⟨Nat.zero_le _, Nat.zero_le _, Nat.zero_le _⟩ (kp_rises x1 x2 x3) (fun p hp => by
    have h := kp_mem hp
    exact ⟨⟨Nat.zero_le _, Nat.zero_le _, Nat.zero_le _⟩, ⟨by show p.1 + 1 ≤ x1.length; omega, by show p.2.1 + 1 ≤ x2.length; omega, by show p.2.2 + 1 ≤ x3.length; omega⟩⟩)
theorem kp_len (x1 x2 x3 : List ByteArray) : (kpL x1 x2 x3).length ≤ x1.length := by
  rw [← kp_keep]
  have h1 := keep3_len (mat x1 x2 0 0) (mat x1 x3 0 0)
  have h2 := mat_length x1 x2 _ 0 0 (Nat.le_refl _)
  have h3 := (comAt_le x1 x2 0 0).1
  omega
theorem kp_small {x1 x2 x3 : List ByteArray} (n1 : x1.length ≤ 1048576) (n2 : x2.length ≤ 1048576) (n3 : x3.length ≤ 1048576) : T3s (kpL x1 x2 x3) := fun p hp => by
  have := kp_mem hp
  omega
theorem segs_len (E : T3) : ∀ (n : Nat) (l : List T3) (f : T3), l.length ≤ n → (segs E f l).length ≤ 2 * l.length + 1 := by
  intro n
  induction n with
  | zero =>
    intro l f h
    have e : l = [] := List.length_eq_zero_iff.1 (by omega)
    subst e
    rw [segs_nil]; simp
  | succ n ih =>
    intro l f h
    cases l with
    | nil => rw [segs_nil]; simp
    | cons p r =>
      rw [segs_cons]
      have h1 : (r.drop (tog p r)).length ≤ r.length := by rw [List.length_drop]; omega
      have h2 := ih (r.drop (tog p r)) (ad p (tog p r + 1)) (by simp at h; omega)
      simp only [List.length_cons] at h ⊢
      omega
theorem ptK_len (x1 x2 x3 : List ByteArray) (s : T3 × T3) : (ptK x1 x2 x3 s).length ≤ 1 := by
  unfold ptK putK
  split <;> simp
theorem flat_len {α β : Type} (f : α → List β) (h : ∀ x, (f x).length ≤ 1) : ∀ (l : List α), (l.flatMap f).length ≤ l.length := by
  intro l
  induction l with
  | nil => simp
  | cons x l ih =>
    rw [List.flatMap_cons, List.length_append, List.length_cons]
    have := h x
    omega
theorem ckT_len (x1 x2 x3 : List ByteArray) : (ckT x1 x2 x3).length ≤ 2 * x1.length + 1 := by
  have h1 := flat_len (ptK x1 x2 x3) (ptK_len x1 x2 x3) (segs (x1.length, x2.length, x3.length) (0, 0, 0) (kpL x1 x2 x3))
  have h2 := segs_len (x1.length, x2.length, x3.length) _ (kpL x1 x2 x3) (0, 0, 0) (Nat.le_refl _)
  have h3 := kp_len x1 x2 x3
  unfold ckT
  omega
/-- The lines of a chunk are lines of the texts. -/
theorem ckT_mem {x1 x2 x3 : List ByteArray} {c : Ck} (h : c ∈ ckT x1 x2 x3) : (∀ s ∈ c.2.1, s ∈ x1) ∧ (∀ s ∈ c.2.2.1, s ∈ x2) ∧ (∀ s ∈ c.2.2.2, s ∈ x3) ∧ c.2.1.length ≤ x1.length ∧ c.2.2.1.length ≤ x2.length ∧ c.2.2.2.length ≤ x3.length := by
  unfold ckT at h
  obtain ⟨s, _, hc⟩ := List.mem_flatMap.1 h
  unfold ptK putK at hc
  split at hc
  · cases hc
  · rw [List.mem_singleton] at hc
    subst hc
    have key : ∀ (xs : List ByteArray) (i j : Nat), (∀ s ∈ sgK xs i j, s ∈ xs) ∧ (sgK xs i j).length ≤ xs.length := fun xs i j => by
      unfold sgK
      exact ⟨fun s hs => List.mem_of_mem_drop (List.mem_of_mem_take hs), by rw [List.length_take, List.length_drop]; omega⟩
    exact ⟨(key x1 _ _).1, (key x2 _ _).1, (key x3 _ _).1, (key x1 _ _).2, (key x2 _ _).2, (key x3 _ _).2⟩
/-- What ChunksOf tells. -/
def ckR (x1 x2 x3 : List ByteArray) : Int := if lf x1 = 0 then (if lf x2 = 0 then lf x3 else lf x2) else lf x1
def ckV (x1 x2 x3 : List ByteArray) : List Ck := if ckR x1 x2 x3 = 0 then ckT x1 x2 x3 else []
theorem lf_bd {ss : List ByteArray} (h : lf ss = 0) : ss.length ≤ 100 ∧ tot ss ≤ 2000 := by
  by_cases e : 100 < (ss.length : Int) ∨ 2000 < tot ss
  · rw [lf_many e] at h; exact absurd h (by decide)
  · omega
theorem ckR_zero {x1 x2 x3 : List ByteArray} (h : ckR x1 x2 x3 = 0) : lf x1 = 0 ∧ lf x2 = 0 ∧ lf x3 = 0 := by
  unfold ckR at h
  by_cases e1 : lf x1 = 0
  · rw [if_pos e1] at h
    by_cases e2 : lf x2 = 0
    · rw [if_pos e2] at h; exact ⟨e1, e2, h⟩
    · rw [if_neg e2] at h; exact absurd h e2
  · rw [if_neg e1] at h; exact absurd h e1
theorem ckV_mem {x1 x2 x3 : List ByteArray} {ss : List ByteArray} (h : ss ∈ lnsAll (ckV x1 x2 x3)) : ss.length ≤ 100 ∧ ∀ s ∈ ss, s ∈ x1 ∨ s ∈ x2 ∨ s ∈ x3 := by
  unfold ckV at h
  split at h
  · rename_i e
    obtain ⟨z1, z2, z3⟩ := ckR_zero e
    have b1 := lf_bd z1
    have b2 := lf_bd z2
    have b3 := lf_bd z3
    obtain ⟨c, hc, hq⟩ := mem_of_lns h
    have m := ckT_mem hc
    rcases hq with rfl | rfl | rfl
    · exact ⟨by omega, fun s hs => .inl (m.1 s hs)⟩
    · exact ⟨by omega, fun s hs => .inr (.inl (m.2.1 s hs))⟩
    · exact ⟨by omega, fun s hs => .inr (.inr (m.2.2.1 s hs))⟩
  · cases h
theorem ckV_len (x1 x2 x3 : List ByteArray) : (ckV x1 x2 x3).length ≤ 201 := by
  unfold ckV
  split
  · rename_i e
    have b1 := lf_bd (ckR_zero e).1
    have := ckT_len x1 x2 x3
    omega
  · simp
theorem ckV_marks (x1 x2 x3 : List ByteArray) : mkK (ckV x1 x2 x3) (ckV x1 x2 x3).length ≤ 100000 := by
  have hb : ∀ c ∈ ckV x1 x2 x3, mk1 c ≤ 301 := by
    intro c hc
    obtain ⟨m1, m2, m3⟩ := mem_lns hc
    have h1 := (ckV_mem m1).1
    have h2 := (ckV_mem m2).1
    have h3 := (ckV_mem m3).1
    show 1 + c.2.1.length + c.2.2.1.length + c.2.2.2.length ≤ 301
    omega
  have hs : ∀ (l : List Ck), (∀ c ∈ l, mk1 c ≤ 301) → (l.map mk1).sum ≤ 301 * l.length := by
    intro l
    induction l with
    | nil => intro _; simp
    | cons c l ih =>
      intro h
      have h1 := h c (List.mem_cons_self ..)
      have h2 := ih (fun d hd => h d (List.mem_cons_of_mem _ hd))
      simp only [List.map_cons, List.sum_cons, List.length_cons]
      omega
  unfold mkK
  rw [List.take_length]
  have h1 := hs _ hb
  have h2 := ckV_len x1 x2 x3
  omega
end Go.Proofs.Yticagabnaibmgaa
/- The contracts of ChunksOf, of the program and of the specification. No statement is proved here. -/
namespace Go.Proofs.Yticagabnaibmgaa
open Go.ChangeShapes Go.WideShapes Go.ChangeAt Go.RowKit

theorem TP.ofRow {w : World} {base : Nat} {v : Value} {l : List T3} (h : w.ownsRow base 110 3 v l.length (t3Cells l)) : ∃ a c, v = .slice a l.length c ∧ TP w.heap.size w a l ∧ l.length ≤ c := by
  obtain ⟨a, c, e⟩ := shapeK h
  subst e
  refine ⟨a, c, rfl, TP.of h, ?_⟩
  rcases h.2 with ⟨h', h0⟩ | ⟨g, cap, cur, h', _, _, hc, _⟩
  · omega
  · cases h'; exact hc
/-- The chunks of the program, the kept places told by both choices. -/
theorem chunksKept (a1 a2 a3 : Option Addr) (c1 c2 c3 : Nat) (x1 x2 x3 : List ByteArray) (w : World) (hX : X3 w.heap.size w a1 a2 a3 c1 c2 c3 x1 x2 x3) (hZ : Z3 c1 c2 c3 x1 x2 x3) (ka : Option Addr) (kc : Nat) (hK : TP w.heap.size w ka (kpL x1 x2 x3)) (hKc : (kpL x1 x2 x3).length ≤ kc) (n1 : x1.length ≤ 100) :
    Calls Try.prog 30 #[.agg #[.slice a1 x1.length c1, .slice a2 x2.length c2, .slice a3 x3.length c3], .slice ka (kpL x1 x2 x3).length kc] w fun e w' => KPost (ckT x1 x2 x3) w e w' :=
  chunksAround a1 a2 a3 c1 c2 c3 x1 x2 x3 ka kc (kpL x1 x2 x3) w hX hZ hK hKc (by have := kp_len x1 x2 x3; omega) (kp_small hZ.n1 hZ.n2 hZ.n3) (kp_ok x1 x2 x3) (by have := ckT_len x1 x2 x3; unfold ckT at this; omega)
theorem keptC (a1 a2 a3 : Option Addr) (c1 c2 c3 : Nat) (x1 x2 x3 : List ByteArray) (w : World) (hX : X3 w.heap.size w a1 a2 a3 c1 c2 c3 x1 x2 x3) (n1 : x1.length ≤ 100) (n2 : x2.length ≤ 100) (n3 : x3.length ≤ 100) :
    Calls Try.prog 31 #[.agg #[.slice a1 x1.length c1, .slice a2 x2.length c2, .slice a3 x3.length c3]] w fun e w' => KeptPost w (kpL x1 x2 x3) e w' := by
  rw [← kp_keep]
  exact keptPlaces a1 a2 a3 c1 c2 c3 x1 x2 x3 w (hX.s1.toSS (Nat.le_refl _)) (hX.s2.toSS (Nat.le_refl _)) (hX.s3.toSS (Nat.le_refl _)) n1 n2 n3
theorem X3.mono {B B' : Nat} {w : World} {a1 a2 a3 : Option Addr} {c1 c2 c3 : Nat} {x1 x2 x3 : List ByteArray} (h : X3 B w a1 a2 a3 c1 c2 c3 x1 x2 x3) (hb : B ≤ B') : X3 B' w a1 a2 a3 c1 c2 c3 x1 x2 x3 := ⟨h.s1.mono hb, h.s2.mono hb, h.s3.mono hb⟩
set_option maxRecDepth 20000 in
set_option maxHeartbeats 4000000 in
theorem implChunksOf (a1 a2 a3 : Option Addr) (c1 c2 c3 : Nat) (x1 x2 x3 : List ByteArray) (w : World) (hX : X3 w.heap.size w a1 a2 a3 c1 c2 c3 x1 x2 x3) (hZ : Z3 c1 c2 c3 x1 x2 x3) :
    Calls Try.prog 9 #[.slice a1 x1.length c1, .slice a2 x2.length c2, .slice a3 x3.length c3] w fun e w' => KP2 (ckR x1 x2 x3) (ckV x1 x2 x3) w e w' := by
  have hF1 := fun W h => implLinesFault a1 c1 x1 W h hZ.n1
  have hF2 := fun W h => implLinesFault a2 c2 x2 W h hZ.n2
  have hF3 := fun W h => implLinesFault a3 c3 x3 W h hZ.n3
  have hR1 : ¬ lf x1 = 0 → Hid (ckR x1 x2 x3 = lf x1 ∧ ckV x1 x2 x3 = []) := fun e => by
    have h : ckR x1 x2 x3 = lf x1 := if_neg e
    exact ⟨h, if_neg (by rw [h]; exact e)⟩
  have hR2 : lf x1 = 0 → ¬ lf x2 = 0 → Hid (ckR x1 x2 x3 = lf x2 ∧ ckV x1 x2 x3 = []) := fun e1 e => by
    have h : ckR x1 x2 x3 = lf x2 := by unfold ckR; rw [if_pos e1, if_neg e]
    exact ⟨h, if_neg (by rw [h]; exact e)⟩
  have hR3 : lf x1 = 0 → lf x2 = 0 → Hid (ckR x1 x2 x3 = lf x3 ∧ (¬ lf x3 = 0 → ckV x1 x2 x3 = []) ∧ (lf x3 = 0 → ckV x1 x2 x3 = ckT x1 x2 x3)) := fun e1 e2 => by
    have h : ckR x1 x2 x3 = lf x3 := by unfold ckR; rw [if_pos e1, if_pos e2]
    exact ⟨h, fun e => if_neg (by rw [h]; exact e), fun e => if_pos (by rw [h]; exact e)⟩
  have hb1 := lf_bd (ss := x1)
  have hb2 := lf_bd (ss := x2)
  have hb3 := lf_bd (ss := x3)
  generalize ckR x1 x2 x3 = R at hR1 hR2 hR3 ⊢
  generalize ckV x1 x2 x3 = V at hR1 hR2 hR3 ⊢
  generalize lf x1 = q1 at hF1 hR1 hR2 hR3 hb1
  generalize lf x2 = q2 at hF2 hR2 hR3 hb2
  generalize lf x3 = q3 at hF3 hR3 hb3
  obtain ⟨W1, hW1⟩ : ∃ W, w.alloc (.cells #[.int .i64 0, .slice none 0 0] 29) = W := ⟨_, rfl⟩
  have b1 : Below w.heap.size w W1 := by rw [← hW1]; exact allocBelow _ _
  have r1 : Res2 W1 w.heap.size (.int .i64 0) (.slice none 0 0) := by rw [← hW1]; exact Res2.new _ _ _ _
  have zW1 : W1.heap.size = w.heap.size + 1 := by rw [← hW1]; simp
  obtain ⟨W2, hW2⟩ : ∃ W, W1.alloc (.cells #[.slice a1 x1.length c1, .slice a2 x2.length c2, .slice a3 x3.length c3] 69) = W := ⟨_, rfl⟩
  have b2 : Below W1.heap.size W1 W2 := by rw [← hW2]; exact allocBelow _ _
  have rL : Rs W2 (w.heap.size + 1) [.slice a1 x1.length c1, .slice a2 x2.length c2, .slice a3 x3.length c3] := by rw [← hW2, ← zW1]; exact Rs.new _ _ _
  have z2 := b2.size
  replace r1 := r1.below (by omega) b2
  have B2 : Below w.heap.size w W2 := b1.trans (b2.mono (by omega))
  have X2 := hX.belowAt B2
  have L0 := rL 0 _ rfl
  have L1 := rL 1 _ rfl
  have L2 := rL 2 _ rfl
  have d0 := r1.c0
  have d1 := r1.c1
  have f0 := r1.f0
  have f1 := r1.f1
  have hzz : w.heap.size ≤ W2.heap.size := by omega
  have hz2 : w.heap.size + 1 < W2.heap.size := cellLt L0
  have i0 : ∀ w, (Instr.index 69 (.agg #[.slice a1 x1.length c1, .slice a2 x2.length c2, .slice a3 x3.length c3]) (.int .i64 0)).run Try.prog w = .ok (.slice a1 x1.length c1) w := fun _ => by kernel_rfl
  have i1 : ∀ w, (Instr.index 69 (.agg #[.slice a1 x1.length c1, .slice a2 x2.length c2, .slice a3 x3.length c3]) (.int .i64 1)).run Try.prog w = .ok (.slice a2 x2.length c2) w := fun _ => by kernel_rfl
  have i2 : ∀ w, (Instr.index 69 (.agg #[.slice a1 x1.length c1, .slice a2 x2.length c2, .slice a3 x3.length c3]) (.int .i64 2)).run Try.prog w = .ok (.slice a3 x3.length c3) w := fun _ => by kernel_rfl
  clear b1 b2 hX rL
  go_enter Try.func9, Try.ntmps9
  go_wp2
  clear zW1 hW1 hW2
  go_loopw [9, 10, 16] (fun _ _ i wr => ∃ j : Nat, j ≤ 3 ∧ i = .int .i64 j ∧ W2 = wr ∧ Hid ((0 < j → q1 = 0) ∧ (1 < j → q2 = 0) ∧ (2 < j → q3 = 0))) (fun _ _ i _ => 3 - (intOf i).toNat)
  case atStart => exact ⟨0, by omega, rfl, rfl, ⟨fun h => absurd h (by omega), fun h => absurd h (by omega), fun h => absurd h (by omega)⟩⟩
  case round =>
    obtain ⟨j, hj, rfl, rfl, hc⟩ := hrel
    by_cases hj3 : j < 3
    · have hjj : j = 0 ∨ j = 1 ∨ j = 2 := by omega
      rcases hjj with rfl | rfl | rfl
      · by_cases hq : q1 = 0
        · have HC : Hid ((0 < 1 → q1 = 0) ∧ (1 < 1 → q2 = 0) ∧ (2 < 1 → q3 = 0)) := ⟨fun _ => hq, fun h => absurd h (by omega), fun h => absurd h (by omega)⟩
          have hF := hF1 _ (X2.s1.toSS hzz)
          rw [hq] at hF
          clear hR1 hR2 hR3 hb1 hb2 hb3 hc hF1 hF2 hF3
          go_wp2_with fail
          refine hF.mono ?_; rintro e W2 ⟨rfl, rfl⟩
          go_wp2
          go_roundw
          case rel => exact ⟨1, by omega, rfl, by trivial, HC⟩
          case measure => simp [intOf]
        · have h2 : R = q1 ∧ V = [] := by
            exact (hR1 hq).out
          have HR : Hid (R = q1) := h2.1
          have HV : Hid (V = []) := h2.2
          have q0 : (q1 != 0) = true := by simp [hq]
          have hF := hF1 _ (X2.s1.toSS hzz)
          have HB : Hid (Below w.heap.size w ((W2.setCell ⟨w.heap.size, 0, none⟩ (.int .i64 q1)).setCell ⟨w.heap.size, 1, none⟩ (.slice none 0 0))) := below_sets B2 (Nat.le_refl _) _ _
          clear hR1 hR2 hR3 hb1 hb2 hb3 hc hF1 hF2 hF3 h2 hq
          go_wp2_with fail
          refine hF.mono ?_; rintro e W2 ⟨rfl, rfl⟩
          go_wp2
          refine bodyPost_ret (v := .agg #[.int .i64 q1, .slice none 0 0]) (by simp [results, Try.results9, go_sem, d0, d1]) rfl ?_
          exact ⟨_, fun _ => .slice none 0 0, by rw [HR.out], by rw [HV.out]; exact KO.nil _ _ _, HB.out⟩
      · by_cases hq : q2 = 0
        · have HC : Hid ((0 < 2 → q1 = 0) ∧ (1 < 2 → q2 = 0) ∧ (2 < 2 → q3 = 0)) := ⟨fun _ => hc.out.1 (by omega), fun _ => hq, fun h => absurd h (by omega)⟩
          have hF := hF2 _ (X2.s2.toSS hzz)
          rw [hq] at hF
          clear hR1 hR2 hR3 hb1 hb2 hb3 hc hF1 hF2 hF3
          go_wp2_with fail
          refine hF.mono ?_; rintro e W2 ⟨rfl, rfl⟩
          go_wp2
          go_roundw
          case rel => exact ⟨2, by omega, rfl, by trivial, HC⟩
          case measure => simp [intOf]
        · have h2 : R = q2 ∧ V = [] := by
            have e1 := hc.out.1 (by omega)
            exact (hR2 e1 hq).out
          have HR : Hid (R = q2) := h2.1
          have HV : Hid (V = []) := h2.2
          have q0 : (q2 != 0) = true := by simp [hq]
          have hF := hF2 _ (X2.s2.toSS hzz)
          have HB : Hid (Below w.heap.size w ((W2.setCell ⟨w.heap.size, 0, none⟩ (.int .i64 q2)).setCell ⟨w.heap.size, 1, none⟩ (.slice none 0 0))) := below_sets B2 (Nat.le_refl _) _ _
          clear hR1 hR2 hR3 hb1 hb2 hb3 hc hF1 hF2 hF3 h2 hq
          go_wp2_with fail
          refine hF.mono ?_; rintro e W2 ⟨rfl, rfl⟩
          go_wp2
          refine bodyPost_ret (v := .agg #[.int .i64 q2, .slice none 0 0]) (by simp [results, Try.results9, go_sem, d0, d1]) rfl ?_
          exact ⟨_, fun _ => .slice none 0 0, by rw [HR.out], by rw [HV.out]; exact KO.nil _ _ _, HB.out⟩
      · by_cases hq : q3 = 0
        · have HC : Hid ((0 < 3 → q1 = 0) ∧ (1 < 3 → q2 = 0) ∧ (2 < 3 → q3 = 0)) := ⟨fun _ => hc.out.1 (by omega), fun _ => hc.out.2.1 (by omega), fun _ => hq⟩
          have hF := hF3 _ (X2.s3.toSS hzz)
          rw [hq] at hF
          clear hR1 hR2 hR3 hb1 hb2 hb3 hc hF1 hF2 hF3
          go_wp2_with fail
          refine hF.mono ?_; rintro e W2 ⟨rfl, rfl⟩
          go_wp2
          go_roundw
          case rel => exact ⟨3, by omega, rfl, by trivial, HC⟩
          case measure => simp [intOf]
        · have h2 : R = q3 ∧ V = [] := by
            have e1 := hc.out.1 (by omega)
            have e2 := hc.out.2.1 (by omega)
            exact (⟨(hR3 e1 e2).out.1, (hR3 e1 e2).out.2.1 hq⟩ : R = q3 ∧ V = [])
          have HR : Hid (R = q3) := h2.1
          have HV : Hid (V = []) := h2.2
          have q0 : (q3 != 0) = true := by simp [hq]
          have hF := hF3 _ (X2.s3.toSS hzz)
          have HB : Hid (Below w.heap.size w ((W2.setCell ⟨w.heap.size, 0, none⟩ (.int .i64 q3)).setCell ⟨w.heap.size, 1, none⟩ (.slice none 0 0))) := below_sets B2 (Nat.le_refl _) _ _
          clear hR1 hR2 hR3 hb1 hb2 hb3 hc hF1 hF2 hF3 h2 hq
          go_wp2_with fail
          refine hF.mono ?_; rintro e W2 ⟨rfl, rfl⟩
          go_wp2
          refine bodyPost_ret (v := .agg #[.int .i64 q3, .slice none 0 0]) (by simp [results, Try.results9, go_sem, d0, d1]) rfl ?_
          exact ⟨_, fun _ => .slice none 0 0, by rw [HR.out], by rw [HV.out]; exact KO.nil _ _ _, HB.out⟩
    · obtain rfl : j = 3 := by omega
      have e1 := hc.out.1 (by omega)
      have e2 := hc.out.2.1 (by omega)
      have e3 := hc.out.2.2 (by omega)
      have bb1 := (hb1 e1).1
      have bb2 := (hb2 e2).1
      have bb3 := (hb3 e3).1
      have h3 := (hR3 e1 e2).out
      have HR : Hid (R = 0) := h3.1.trans e3
      have HV : Hid (V = ckT x1 x2 x3) := h3.2.2 e3
      have hKp : Hid (∀ W, Below W2.heap.size W2 W → Calls Try.prog 31 #[.agg #[.slice a1 x1.length c1, .slice a2 x2.length c2, .slice a3 x3.length c3]] W fun e w' => KeptPost W (kpL x1 x2 x3) e w') := fun W b => keptC a1 a2 a3 c1 c2 c3 x1 x2 x3 W ((X2.belowAt (b.mono hzz)).mono (by have := b.size; omega)) bb1 bb2 bb3
      have hCk : Hid (∀ W (ka : Option Addr) (kc : Nat), Below W2.heap.size W2 W → TP W.heap.size W ka (kpL x1 x2 x3) → (kpL x1 x2 x3).length ≤ kc → Calls Try.prog 30 #[.agg #[.slice a1 x1.length c1, .slice a2 x2.length c2, .slice a3 x3.length c3], .slice ka (kpL x1 x2 x3).length kc] W fun e w' => KPost (ckT x1 x2 x3) W e w') := fun W ka kc b hK hc => chunksKept a1 a2 a3 c1 c2 c3 x1 x2 x3 W ((X2.belowAt (b.mono hzz)).mono (by have := b.size; omega)) hZ ka kc hK hc bb1
      generalize kpL x1 x2 x3 = KL at hKp hCk
      generalize ckT x1 x2 x3 = T at hCk HV
      clear hR1 hR2 hR3 hb1 hb2 hb3 hc h3 hF1 hF2 hF3 i0 i1 i2 e1 e2 e3 X2
      have BD : Below W2.heap.size W2 W2.drew := (Below.refl _ _).drew
      go_upto_region 9 with fail
      have r1D : Res2 W2.drew w.heap.size (.int .i64 0) (.slice none 0 0) := ⟨d0, d1, f0, f1⟩
      clear d0 d1 f0 f1
      go_region_held (fun W' => W'.cell? ⟨w.heap.size + 1, 0, none⟩ = some (.slice a1 x1.length c1) ∧ W'.cell? ⟨w.heap.size + 1, 1, none⟩ = some (.slice a2 x2.length c2) ∧ W'.cell? ⟨w.heap.size + 1, 2, none⟩ = some (.slice a3 x3.length c3)) (first | with_reducible exact ⟨L0, L1, L2⟩ | with_reducible exact ⟨M0, M1, M2⟩ | exact ⟨L0, L1, L2⟩)
        ((first
          | (go_at_call 31; refine (hKp.out _ BD).mono ?_; rintro e w' ⟨v, rfl, own, b⟩; obtain ⟨ka, kc, rfl, hTP, hkc⟩ := TP.ofRow own; have L0 := zcK b L0; have L1 := zcK b L1; have L2 := zcK b L2; have BD := below_step BD (by have := BD.size; omega) b; clear b own)
          | (go_at_call 30; refine (hCk.out _ _ _ BD hTP hkc).mono ?_; rintro e w' ⟨v, sl, rfl, O, b⟩; obtain ⟨va, vc, rfl⟩ := shapeK O.row; have L0 := zcK b L0; have L1 := zcK b L1; have L2 := zcK b L2; have sb := BD.size; have BD := below_step BD (by omega) b; have lw : w.heap.size < W2.heap.size := (by omega); have d0 := (BD.cell (p := ⟨w.heap.size, 0, none⟩) lw).trans r1.c0; have d1 := (BD.cell (p := ⟨w.heap.size, 1, none⟩) lw).trans r1.c1; have f0 := (BD.frozen (p := ⟨w.heap.size, 0, none⟩) lw).trans r1.f0; have f1 := (BD.frozen (p := ⟨w.heap.size, 1, none⟩) lw).trans r1.f1; have M0 : ((w'.setCell ⟨w.heap.size, 0, none⟩ (.int .i64 0)).setCell ⟨w.heap.size, 1, none⟩ (.slice va T.length vc)).cell? ⟨w.heap.size + 1, 0, none⟩ = some (.slice a1 x1.length c1) := (grownTrans (grownSet w' w.heap.size 0 (.int .i64 0)) (grownSet _ w.heap.size 1 (.slice va T.length vc))).cell L0 (fun e => Nat.succ_ne_self _ (Option.some.inj e)); have M1 : ((w'.setCell ⟨w.heap.size, 0, none⟩ (.int .i64 0)).setCell ⟨w.heap.size, 1, none⟩ (.slice va T.length vc)).cell? ⟨w.heap.size + 1, 1, none⟩ = some (.slice a2 x2.length c2) := (grownTrans (grownSet w' w.heap.size 0 (.int .i64 0)) (grownSet _ w.heap.size 1 (.slice va T.length vc))).cell L1 (fun e => Nat.succ_ne_self _ (Option.some.inj e)); have M2 : ((w'.setCell ⟨w.heap.size, 0, none⟩ (.int .i64 0)).setCell ⟨w.heap.size, 1, none⟩ (.slice va T.length vc)).cell? ⟨w.heap.size + 1, 2, none⟩ = some (.slice a3 x3.length c3) := (grownTrans (grownSet w' w.heap.size 0 (.int .i64 0)) (grownSet _ w.heap.size 1 (.slice va T.length vc))).cell L2 (fun e => Nat.succ_ne_self _ (Option.some.inj e)))))
      all_goals
        have BB := below_step B2 (by omega) BD
        have HB : Hid (Below w.heap.size w ((w'.setCell ⟨w.heap.size, 0, none⟩ (.int .i64 0)).setCell ⟨w.heap.size, 1, none⟩ (.slice va T.length vc))) := below_sets BB (Nat.le_refl _) _ _
        have HO : Hid (KO w.heap.size ((w'.setCell ⟨w.heap.size, 0, none⟩ (.int .i64 0)).setCell ⟨w.heap.size, 1, none⟩ (.slice va T.length vc)) (.slice va T.length vc) T sl) := by
          show KO _ _ _ _ _
          exact (O.fr (Fr.ofGrown (lo := w.heap.size) (hi := w.heap.size + 1) (grownTrans (grownSet w' w.heap.size 0 (.int .i64 0)) (grownSet _ w.heap.size 1 (.slice va T.length vc))) (fun j hj => by cases hj; omega)) (fun j hj => by have := (O.row.lt j hj).1; omega) (fun n hn j hj => by have := ((O.each n hn).lt j hj).1; omega)).mono (by omega)
        clear O hKp hCk L0 L1 L2
        go_wp2
        refine bodyPost_ret (v := .agg #[.int .i64 0, .slice va T.length vc]) (by simp [results, Try.results9, go_sem, d0, d1]) rfl ?_
        exact ⟨_, sl, by rw [HR.out], by rw [HV.out]; exact HO.out, HB.out⟩
set_option maxRecDepth 20000 in
set_option maxHeartbeats 4000000 in
theorem specChunksOf (a1 a2 a3 : Option Addr) (c1 c2 c3 : Nat) (x1 x2 x3 : List ByteArray) (w : World) (hX : X3 w.heap.size w a1 a2 a3 c1 c2 c3 x1 x2 x3) (hZ : Z3 c1 c2 c3 x1 x2 x3) (hN : N3 a1 a2 a3 c1 c2 c3) (t1 : tot x1 ≤ 1048576) (t2 : tot x2 ≤ 1048576) (t3 : tot x3 ≤ 1048576) :
    Calls Try.prog 10 #[.slice a1 x1.length c1, .slice a2 x2.length c2, .slice a3 x3.length c3] w fun e w' => KP2 (ckR x1 x2 x3) (ckV x1 x2 x3) w e w' := by
  have hF1 := fun W h => specLinesFault a1 c1 x1 W h hZ.n1 t1
  have hF2 := fun W h1 h2 => specAsked a2 a3 c2 c3 x2 x3 W h1 h2 hZ.n2 t2 hZ.n3 t3
  have hR1 : ¬ lf x1 = 0 → Hid (ckR x1 x2 x3 = lf x1 ∧ ckV x1 x2 x3 = []) := fun e => by
    have h : ckR x1 x2 x3 = lf x1 := if_neg e
    exact ⟨h, if_neg (by rw [h]; exact e)⟩
  have hR2 : lf x1 = 0 → Hid (ckR x1 x2 x3 = asked x2 x3 ∧ (¬ asked x2 x3 = 0 → ckV x1 x2 x3 = []) ∧ (asked x2 x3 = 0 → ckV x1 x2 x3 = ckT x1 x2 x3)) := fun e1 => by
    have h : ckR x1 x2 x3 = asked x2 x3 := by unfold ckR asked; rw [if_pos e1]
    exact ⟨h, fun e => if_neg (by rw [h]; exact e), fun e => if_pos (by rw [h]; exact e)⟩
  have hb1 := lf_bd (ss := x1)
  have hb2 := fun (e : asked x2 x3 = 0) => (⟨lf_bd (asked_zero e).1, lf_bd (asked_zero e).2⟩ : (x2.length ≤ 100 ∧ tot x2 ≤ 2000) ∧ (x3.length ≤ 100 ∧ tot x3 ≤ 2000))
  have hL4 := fun (n1 : x1.length ≤ 100) (n2 : x2.length ≤ 100) (n3 : x3.length ≤ 100) W hX => l4Chunks a1 a2 a3 c1 c2 c3 x1 x2 x3 W hX hZ hN n1 n2 n3 (kp_ok x1 x2 x3) (by have := ckT_len x1 x2 x3; unfold ckT at this; exact Nat.le_trans this (by omega))
  have hL5 : ∀ (n1 : x1.length ≤ 100) (n2 : x2.length ≤ 100) (n3 : x3.length ≤ 100) W, X3 W.heap.size W a1 a2 a3 c1 c2 c3 x1 x2 x3 → Calls Try.prog 34 #[.slice a1 x1.length c1, .slice a2 x2.length c2, .slice a3 x3.length c3] W fun e w' => KPs (ckT x1 x2 x3) W e w' := hL4
  clear hL4
  generalize ckR x1 x2 x3 = R at hR1 hR2 ⊢
  generalize ckV x1 x2 x3 = V at hR1 hR2 ⊢
  generalize ckT x1 x2 x3 = T at hR2 hL5
  generalize lf x1 = q1 at hF1 hR1 hR2 hb1
  generalize asked x2 x3 = q2 at hF2 hR2 hb2
  obtain ⟨W1, hW1⟩ : ∃ W1, w.alloc (.cells #[.int .i64 0, .slice none 0 0] 29) = W1 := ⟨_, rfl⟩
  have b1 : Below w.heap.size w W1 := by rw [← hW1]; exact allocBelow _ _
  have zW : w.heap.size < W1.heap.size := by rw [← hW1]; simp
  have r1 : Res2 W1 w.heap.size (.int .i64 0) (.slice none 0 0) := by rw [← hW1]; exact Res2.new _ _ _ _
  have X1 := (hX.belowAt b1).mono b1.size
  have d0 := r1.c0
  have d1 := r1.c1
  have f0 := r1.f0
  have f1 := r1.f1
  have HBc : ∀ F, Hid (Below w.heap.size w ((W1.setCell ⟨w.heap.size, 0, none⟩ (.int .i64 F)).setCell ⟨w.heap.size, 1, none⟩ (.slice none 0 0))) := fun F => below_sets b1 (Nat.le_refl _) _ _
  clear hX
  go_enter Try.func10, Try.ntmps10
  go_wp2_with fail
  refine (hF1 _ (X1.s1.toSS (Nat.le_refl _))).mono ?_; rintro e W1 ⟨rfl, rfl⟩
  by_cases e0 : q1 = 0
  · have h2 := (hR2 e0).out
    have bb1 := (hb1 e0).1
    subst e0
    clear hR1 hR2 hb1 hF1
    go_wp2_with fail
    refine (hF2 _ (X1.s2.toSS (Nat.le_refl _)) (X1.s3.toSS (Nat.le_refl _))).mono ?_; rintro e W1 ⟨rfl, rfl⟩
    by_cases e2 : q2 = 0
    · have HR : Hid (R = 0) := h2.1.trans e2
      have HV : Hid (V = T) := h2.2.2 e2
      have bb2 := (hb2 e2).1.1
      have bb3 := (hb2 e2).2.1
      subst e2
      clear h2 hb2 hF2 HBc d0 d1 f0 f1
      go_wp2_with fail
      refine (hL5 bb1 bb2 bb3 _ X1).mono ?_; rintro e w2 ⟨v, sl, rfl, hO, b2⟩
      obtain ⟨ra, rc, er⟩ := shapeK hO.row
      subst er
      have r3 := r1.below zW b2
      have B3 := b1.trans (b2.mono b1.size)
      have d0 := r3.c0
      have d1 := r3.c1
      have f0 := r3.f0
      have f1 := r3.f1
      have HB : Hid (Below w.heap.size w ((w2.setCell ⟨w.heap.size, 0, none⟩ (.int .i64 0)).setCell ⟨w.heap.size, 1, none⟩ (.slice ra T.length rc))) := below_sets B3 (Nat.le_refl _) _ _
      have HO : Hid (KO w.heap.size ((w2.setCell ⟨w.heap.size, 0, none⟩ (.int .i64 0)).setCell ⟨w.heap.size, 1, none⟩ (.slice ra T.length rc)) (.slice ra T.length rc) T sl) := by
        show KO _ _ _ _ _
        exact (hO.fr (Fr.ofGrown (lo := w.heap.size) (hi := w.heap.size + 1) (grownTrans (grownSet w2 w.heap.size 0 (.int .i64 0)) (grownSet _ w.heap.size 1 (.slice ra T.length rc))) (fun j hj => by cases hj; omega)) (fun j hj => by have := (hO.row.lt j hj).1; omega) (fun n hn j hj => by have := ((hO.each n hn).lt j hj).1; omega)).mono (by omega)
      clear hO r1 r3 B3 b2 hL5
      go_wp2
      refine bodyPost_ret (v := .agg #[.int .i64 0, .slice ra T.length rc]) (by simp [results, Try.results10, go_sem, d0, d1]) rfl ?_
      exact ⟨_, sl, by rw [HR.out], by rw [HV.out]; exact HO.out, HB.out⟩
    · have HR : Hid (R = q2) := h2.1
      have HV : Hid (V = []) := h2.2.1 e2
      have q0 : (q2 != 0) = true := by simp [e2]
      have HB := HBc q2
      clear h2 hb2 hF2 HBc hL5 r1 e2
      go_wp2
      refine bodyPost_ret (v := .agg #[.int .i64 q2, .slice none 0 0]) (by simp [results, Try.results10, go_sem, d0, d1]) rfl ?_
      exact ⟨_, fun _ => .slice none 0 0, by rw [HR.out], by rw [HV.out]; exact KO.nil _ _ _, HB.out⟩
  · have h2 := (hR1 e0).out
    have HR : Hid (R = q1) := h2.1
    have HV : Hid (V = []) := h2.2
    have q0 : (q1 != 0) = true := by simp [e0]
    have HB := HBc q1
    clear h2 hb1 hb2 hF1 hF2 HBc hL5 r1 e0 hR1 hR2
    go_wp2
    refine bodyPost_ret (v := .agg #[.int .i64 q1, .slice none 0 0]) (by simp [results, Try.results10, go_sem, d0, d1]) rfl ?_
    exact ⟨_, fun _ => .slice none 0 0, by rw [HR.out], by rw [HV.out]; exact KO.nil _ _ _, HB.out⟩
end Go.Proofs.Yticagabnaibmgaa
