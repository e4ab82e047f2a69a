/- The chunks of three texts: what is told of them whole. Plain mathematics. No statement is proved here. -/
import Derived.Test.YtkeinpobngfioaaRows
import Derived.Test.YtkeinpobngfioaaLemQ
import Derived.Test.YtkeinpobngfioaaLFLemQ
import Derived.Test.YtkeinpobngfioaaComQ
import Derived.Test.YtkeinpobngfioaaCkLQ
import Derived.Test.YtkeinpobngfioaaCkMQ
import Derived.Test.YtkeinpobngfioaaCkTQ
import Derived.Test.YtkeinpobngfioaaKpMQ
import Derived.Test.YtkeinpobngfioaaKpBQ
import Derived.Test.YtkeinpobngfioaaKpDQ
import Derived.WalkKit
import Derived.ProofKit
import Derived.Test.YtkeinpobngfioaaHkTQ
import Derived.Test.YtkeinpobngfioaaAskedQ
import Derived.Test.YtkeinpobngfioaaDTabQ
import Derived.Test.YtkeinpobngfioaaKpGQ
import Derived.Below
import Derived.WalkSpells
import Derived.Deep.QuietTactic
import Derived.BigQuiet
import Derived.Deep.RegionWith
import Derived.Deep.RegionHeld
import Derived.Deep.Cut
import Derived.Deep.CutRange
namespace Go.Proofs.Ytkeinpobngfioaa
open Go.ChangeShapes Go.WideShapes Go.ChangeAt Go.RowKit

/-- The places that all three keep, and the chunks. -/
def kpL (x1 x2 x3 : List ByteArray) : List T3 := keptR (part (mat x1 x2 0 0)) (part (mat x1 x3 0 0)) 0 x1.length
def ckT (x1 x2 x3 : List ByteArray) : List Ck := (segs (x1.length, x2.length, x3.length) (0, 0, 0) (kpL x1 x2 x3)).flatMap (ptK x1 x2 x3)
theorem kp_keep (x1 x2 x3 : List ByteArray) : keep3 (mat x1 x2 0 0) (mat x1 x3 0 0) = kpL x1 x2 x3 := by
  have r1 := mat_rises x1 x2 _ 0 0 (Nat.le_refl _)
  have r2 := mat_rises x1 x3 _ 0 0 (Nat.le_refl _)
  have i1 := mat_in x1 x2 _ 0 0 (Nat.le_refl _)
  have i2 := mat_in x1 x3 _ 0 0 (Nat.le_refl _)
  exact keep3_kept x1.length 0 _ _ (r1.imp fun h => h.1) (r2.imp fun h => h.1) (fun p hp => by have := i1 p hp; omega) (fun p hp => by have := i2 p hp; omega)
theorem kp_mem {x1 x2 x3 : List ByteArray} {p : T3} (h : p ∈ kpL x1 x2 x3) : p.1 < x1.length ∧ p.2.1 < x2.length ∧ p.2.2 < x3.length := by
  obtain ⟨_, h1, h2, h3⟩ := keptR_mem _ _ p h
  refine ⟨by omega, ?_, ?_⟩
  · rcases part_cases (mat x1 x2 0 0) p.1 with e | ⟨j, e, hm⟩
    · omega
    · have := mat_in x1 x2 _ 0 0 (Nat.le_refl _) _ hm
      simp only [] at this
      omega
  · rcases part_cases (mat x1 x3 0 0) p.1 with e | ⟨j, e, hm⟩
    · omega
    · have := mat_in x1 x3 _ 0 0 (Nat.le_refl _) _ hm
      simp only [] at this
      omega
theorem kp_rises (x1 x2 x3 : List ByteArray) : (kpL x1 x2 x3).Pairwise lt3 := by
  have r1 := mat_rises x1 x2 _ 0 0 (Nat.le_refl _)
  have r2 := mat_rises x1 x3 _ 0 0 (Nat.le_refl _)
  exact keptR_rises _ _ (fun x y _ hxy _ hx hy => part_mono r1 hxy hx hy) (fun x y _ hxy _ hx hy => part_mono r2 hxy hx hy)
theorem kp_ok (x1 x2 x3 : List ByteArray) : ∀ x ∈ segs (x1.length, x2.length, x3.length) (0, 0, 0) (kpL x1 x2 x3), le3 x.1 x.2 ∧ le3 x.2 (x1.length, x2.length, x3.length) :=
  segs_ok _ _ _ _ (Nat.le_refl _) ⟨Nat.zero_le _, Nat.zero_le _, Nat.zero_le _⟩ (kp_rises x1 x2 x3) (fun p hp => by
    have h := kp_mem hp
    exact ⟨⟨Nat.zero_le _, Nat.zero_le _, Nat.zero_le _⟩, ⟨by show p.1 + 1 ≤ x1.length; omega, by show p.2.1 + 1 ≤ x2.length; omega, by show p.2.2 + 1 ≤ x3.length; omega⟩⟩)
theorem kp_len (x1 x2 x3 : List ByteArray) : (kpL x1 x2 x3).length ≤ x1.length := by
  rw [← kp_keep]
  have h1 := keep3_len (mat x1 x2 0 0) (mat x1 x3 0 0)
  have h2 := mat_length x1 x2 _ 0 0 (Nat.le_refl _)
  have h3 := (comAt_le x1 x2 0 0).1
  omega
theorem kp_small {x1 x2 x3 : List ByteArray} (n1 : x1.length ≤ 1048576) (n2 : x2.length ≤ 1048576) (n3 : x3.length ≤ 1048576) : T3s (kpL x1 x2 x3) := fun p hp => by
  have := kp_mem hp
  omega
theorem segs_len (E : T3) : ∀ (n : Nat) (l : List T3) (f : T3), l.length ≤ n → (segs E f l).length ≤ 2 * l.length + 1 := by
  intro n
  induction n with
  | zero =>
    intro l f h
    have e : l = [] := List.length_eq_zero_iff.1 (by omega)
    subst e
    rw [segs_nil]; simp
  | succ n ih =>
    intro l f h
    cases l with
    | nil => rw [segs_nil]; simp
    | cons p r =>
      rw [segs_cons]
      have h1 : (r.drop (tog p r)).length ≤ r.length := by rw [List.length_drop]; omega
      have h2 := ih (r.drop (tog p r)) (ad p (tog p r + 1)) (by simp at h; omega)
      simp only [List.length_cons] at h ⊢
      omega
theorem ptK_len (x1 x2 x3 : List ByteArray) (s : T3 × T3) : (ptK x1 x2 x3 s).length ≤ 1 := by
  unfold ptK putK
  split <;> simp
theorem flat_len {α β : Type} (f : α → List β) (h : ∀ x, (f x).length ≤ 1) : ∀ (l : List α), (l.flatMap f).length ≤ l.length := by
  intro l
  induction l with
  | nil => simp
  | cons x l ih =>
    rw [List.flatMap_cons, List.length_append, List.length_cons]
    have := h x
    omega
theorem ckT_len (x1 x2 x3 : List ByteArray) : (ckT x1 x2 x3).length ≤ 2 * x1.length + 1 := by
  have h1 := flat_len (ptK x1 x2 x3) (ptK_len x1 x2 x3) (segs (x1.length, x2.length, x3.length) (0, 0, 0) (kpL x1 x2 x3))
  have h2 := segs_len (x1.length, x2.length, x3.length) _ (kpL x1 x2 x3) (0, 0, 0) (Nat.le_refl _)
  have h3 := kp_len x1 x2 x3
  unfold ckT
  omega
/-- The lines of a chunk are lines of the texts. -/
theorem ckT_mem {x1 x2 x3 : List ByteArray} {c : Ck} (h : c ∈ ckT x1 x2 x3) : (∀ s ∈ c.2.1, s ∈ x1) ∧ (∀ s ∈ c.2.2.1, s ∈ x2) ∧ (∀ s ∈ c.2.2.2, s ∈ x3) ∧ c.2.1.length ≤ x1.length ∧ c.2.2.1.length ≤ x2.length ∧ c.2.2.2.length ≤ x3.length := by
  unfold ckT at h
  obtain ⟨s, _, hc⟩ := List.mem_flatMap.1 h
  unfold ptK putK at hc
  split at hc
  · cases hc
  · rw [List.mem_singleton] at hc
    subst hc
    have key : ∀ (xs : List ByteArray) (i j : Nat), (∀ s ∈ sgK xs i j, s ∈ xs) ∧ (sgK xs i j).length ≤ xs.length := fun xs i j => by
      unfold sgK
      exact ⟨fun s hs => List.mem_of_mem_drop (List.mem_of_mem_take hs), by rw [List.length_take, List.length_drop]; omega⟩
    exact ⟨(key x1 _ _).1, (key x2 _ _).1, (key x3 _ _).1, (key x1 _ _).2, (key x2 _ _).2, (key x3 _ _).2⟩
/-- What ChunksOf tells. -/
def ckR (x1 x2 x3 : List ByteArray) : Int := if lf x1 = 0 then (if lf x2 = 0 then lf x3 else lf x2) else lf x1
def ckV (x1 x2 x3 : List ByteArray) : List Ck := if ckR x1 x2 x3 = 0 then ckT x1 x2 x3 else []
theorem lf_bd {ss : List ByteArray} (h : lf ss = 0) : ss.length ≤ 100 ∧ tot ss ≤ 2000 := by
  by_cases e : 100 < (ss.length : Int) ∨ 2000 < tot ss
  · rw [lf_many e] at h; exact absurd h (by decide)
  · omega
theorem ckR_zero {x1 x2 x3 : List ByteArray} (h : ckR x1 x2 x3 = 0) : lf x1 = 0 ∧ lf x2 = 0 ∧ lf x3 = 0 := by
  unfold ckR at h
  by_cases e1 : lf x1 = 0
  · rw [if_pos e1] at h
    by_cases e2 : lf x2 = 0
    · rw [if_pos e2] at h; exact ⟨e1, e2, h⟩
    · rw [if_neg e2] at h; exact absurd h e2
  · rw [if_neg e1] at h; exact absurd h e1
theorem ckV_mem {x1 x2 x3 : List ByteArray} {ss : List ByteArray} (h : ss ∈ lnsAll (ckV x1 x2 x3)) : ss.length ≤ 100 ∧ ∀ s ∈ ss, s ∈ x1 ∨ s ∈ x2 ∨ s ∈ x3 := by
  unfold ckV at h
  split at h
  · rename_i e
    obtain ⟨z1, z2, z3⟩ := ckR_zero e
    have b1 := lf_bd z1
    have b2 := lf_bd z2
    have b3 := lf_bd z3
    obtain ⟨c, hc, hq⟩ := mem_of_lns h
    have m := ckT_mem hc
    rcases hq with rfl | rfl | rfl
    · exact ⟨by omega, fun s hs => .inl (m.1 s hs)⟩
    · exact ⟨by omega, fun s hs => .inr (.inl (m.2.1 s hs))⟩
    · exact ⟨by omega, fun s hs => .inr (.inr (m.2.2.1 s hs))⟩
  · cases h
theorem ckV_len (x1 x2 x3 : List ByteArray) : (ckV x1 x2 x3).length ≤ 201 := by
  unfold ckV
  split
  · rename_i e
    have b1 := lf_bd (ckR_zero e).1
    have := ckT_len x1 x2 x3
    omega
  · simp
theorem ckV_marks (x1 x2 x3 : List ByteArray) : mkK (ckV x1 x2 x3) (ckV x1 x2 x3).length ≤ 100000 := by
  have hb : ∀ c ∈ ckV x1 x2 x3, mk1 c ≤ 301 := by
    intro c hc
    obtain ⟨m1, m2, m3⟩ := mem_lns hc
    have h1 := (ckV_mem m1).1
    have h2 := (ckV_mem m2).1
    have h3 := (ckV_mem m3).1
    show 1 + c.2.1.length + c.2.2.1.length + c.2.2.2.length ≤ 301
    omega
  have hs : ∀ (l : List Ck), (∀ c ∈ l, mk1 c ≤ 301) → (l.map mk1).sum ≤ 301 * l.length := by
    intro l
    induction l with
    | nil => intro _; simp
    | cons c l ih =>
      intro h
      have h1 := h c (List.mem_cons_self ..)
      have h2 := ih (fun d hd => h d (List.mem_cons_of_mem _ hd))
      simp only [List.map_cons, List.sum_cons, List.length_cons]
      omega
  unfold mkK
  rw [List.take_length]
  have h1 := hs _ hb
  have h2 := ckV_len x1 x2 x3
  omega
end Go.Proofs.Ytkeinpobngfioaa
/- The contracts of ChunksOf, of the program and of the specification. No statement is proved here. -/
namespace Go.Proofs.Ytkeinpobngfioaa
open Go.ChangeShapes Go.WideShapes Go.ChangeAt Go.RowKit

theorem X3.mono {B B' : Nat} {w : World} {a1 a2 a3 : Option Addr} {c1 c2 c3 : Nat} {x1 x2 x3 : List ByteArray} (h : X3 B w a1 a2 a3 c1 c2 c3 x1 x2 x3) (hb : B ≤ B') : X3 B' w a1 a2 a3 c1 c2 c3 x1 x2 x3 := ⟨h.s1.mono hb, h.s2.mono hb, h.s3.mono hb⟩
end Go.Proofs.Ytkeinpobngfioaa
