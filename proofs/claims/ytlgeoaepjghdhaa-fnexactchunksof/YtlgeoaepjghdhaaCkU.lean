/- The contracts of the laws' helpers over lists of chunks (szChunkS, toChunkS, eqChunkS). No statement is proved here. -/
import Derived.Test.YtlgeoaepjghdhaaRows
import Derived.Test.YtlgeoaepjghdhaaLem
import Derived.Test.YtlgeoaepjghdhaaStrs
import Derived.Test.YtlgeoaepjghdhaaLFLem
import Derived.Test.YtlgeoaepjghdhaaDTab
import Derived.Test.YtlgeoaepjghdhaaOwn
import Derived.Test.YtlgeoaepjghdhaaFr
import Derived.Test.YtlgeoaepjghdhaaIn
import Derived.Test.YtlgeoaepjghdhaaHkT
import Derived.Test.YtlgeoaepjghdhaaCkL
import Derived.Test.YtlgeoaepjghdhaaCkN
import Derived.Test.YtlgeoaepjghdhaaCkT
import Derived.WalkKit
import Derived.ProofKit
import Derived.Below
import Derived.WalkSpells
import Derived.Deep.QuietTactic
import Derived.BigQuiet
import Derived.Deep.RegionWith
import Derived.Maps.AppendAt
namespace Go.Proofs.Ytlgeoaepjghdhaa
open Go.ChangeShapes Go.WideShapes Go.ChangeAt Go.RowKit

/-- The lists of the first k chunks, each in memory of its own, above block B. -/
structure KP (B : Nat) (w : World) (l : List Ck) (sl : Nat → Value) (k : Nat) : Prop where
  each : ∀ j, j < k * 3 → w.ownsRow B 9 1 (sl j) (lns l j).length ((lns l j).map Value.string)
  apart : ∀ i j, i < j → j < k * 3 → ∀ b, (sl i).ownBlock = some b → (sl j).ownBlock = some b → False
  bd : ∀ j, j < k * 3 → ∀ b, (sl j).ownBlock = some b → B < b ∧ b < w.heap.size
theorem KP.zero (B : Nat) (w : World) (l : List Ck) (sl : Nat → Value) : KP B w l sl 0 := ⟨fun _ h => absurd h (by omega), fun _ _ _ h => absurd h (by omega), fun _ h => absurd h (by omega)⟩
theorem KP.fr {lo hi B k : Nat} {w w' : World} {l : List Ck} {sl : Nat → Value} (h : KP B w l sl k) (hF : Fr lo hi w w') (hh : hi ≤ B + 1) : KP B w' l sl k :=
  ⟨fun j hj => hF.own (h.each j hj) (fun b hb => by have := h.bd j hj b hb; omega), h.apart, fun j hj b hb => by have := h.bd j hj b hb; have := hF.size; omega⟩
theorem three {i k : Nat} (h : i < (k + 1) * 3) : i < k * 3 ∨ i = k * 3 ∨ i = k * 3 + 1 ∨ i = k * 3 + 2 := by omega
theorem KP.add {B k M : Nat} {w : World} {l : List Ck} {sl : Nat → Value} {v1 v2 v3 : Value} (h : KP B w l sl k) (hM : ∀ j, j < k * 3 → ∀ b, (sl j).ownBlock = some b → b < M) (hB : B < M)
    (o1 : w.ownsRow B 9 1 v1 (lns l (k * 3)).length ((lns l (k * 3)).map Value.string)) (o2 : w.ownsRow B 9 1 v2 (lns l (k * 3 + 1)).length ((lns l (k * 3 + 1)).map Value.string)) (o3 : w.ownsRow B 9 1 v3 (lns l (k * 3 + 2)).length ((lns l (k * 3 + 2)).map Value.string))
    (a1 : ∀ b, v1.ownBlock = some b → M ≤ b) (a2 : ∀ b, v2.ownBlock = some b → M ≤ b) (a3 : ∀ b, v3.ownBlock = some b → M ≤ b)
    (d12 : ∀ b, v1.ownBlock = some b → v2.ownBlock = some b → False) (d13 : ∀ b, v1.ownBlock = some b → v3.ownBlock = some b → False) (d23 : ∀ b, v2.ownBlock = some b → v3.ownBlock = some b → False) : KP B w l (sl3 sl k v1 v2 v3) (k + 1) := by
  refine ⟨fun j hj => ?_, fun i j hij hj b hb hb' => ?_, fun j hj b hb => ?_⟩
  · rcases three hj with h' | rfl | rfl | rfl
    · rw [sl3_old _ _ _ _ _ _ h']; exact h.each j h'
    · rw [sl3_0]; exact o1
    · rw [sl3_1]; exact o2
    · rw [sl3_2]; exact o3
  · rcases three (show i < (k + 1) * 3 by omega) with hi | rfl | rfl | rfl
    · rw [sl3_old _ _ _ _ _ _ hi] at hb
      rcases three hj with h' | rfl | rfl | rfl
      · rw [sl3_old _ _ _ _ _ _ h'] at hb'; exact h.apart i j hij h' b hb hb'
      · rw [sl3_0] at hb'; have := hM i hi b hb; have := a1 b hb'; omega
      · rw [sl3_1] at hb'; have := hM i hi b hb; have := a2 b hb'; omega
      · rw [sl3_2] at hb'; have := hM i hi b hb; have := a3 b hb'; omega
    · rw [sl3_0] at hb
      rcases three hj with h' | h' | rfl | rfl
      · omega
      · omega
      · rw [sl3_1] at hb'; exact d12 b hb hb'
      · rw [sl3_2] at hb'; exact d13 b hb hb'
    · rw [sl3_1] at hb
      rcases three hj with h' | h' | h' | rfl
      · omega
      · omega
      · omega
      · rw [sl3_2] at hb'; exact d23 b hb hb'
    · omega
  · rcases three hj with h' | rfl | rfl | rfl
    · rw [sl3_old _ _ _ _ _ _ h'] at hb; exact h.bd j h' b hb
    · rw [sl3_0] at hb; have := a1 b hb; have := (o1.lt b hb).2; omega
    · rw [sl3_1] at hb; have := a2 b hb; have := (o2.lt b hb).2; omega
    · rw [sl3_2] at hb; have := a3 b hb; have := (o3.lt b hb).2; omega
theorem fourSets (w : World) (b o : Nat) (v0 v1 v2 v3 : Value) : Fr b (b + 1) w ((((w.setCell ⟨b, o, none⟩ v0).setCell ⟨b, o + 1, none⟩ v1).setCell ⟨b, o + 2, none⟩ v2).setCell ⟨b, o + 3, none⟩ v3) := by
  have G : ∀ (u : World) (o : Nat) (v : Value), Fr b (b + 1) u (u.setCell ⟨b, o, none⟩ v) := fun u o v => Fr.ofGrown (grownSet u b o v) (fun j hj => by cases hj; omega)
  exact (((G _ _ _).trans (G _ _ _)).trans (G _ _ _)).trans (G _ _ _)

set_option maxRecDepth 20000 in
set_option maxHeartbeats 2000000 in
theorem eqChunkS (a1 a2 : Option Addr) (c1 c2 : Nat) (l : List Ck) (w : World) (h1 : KB w.heap.size w a1 l) (h2 : KB w.heap.size w a2 l) (hs : ShortK l) (hn : l.length ≤ 1048576) :
    Calls Try.prog 44 #[.slice a1 l.length c1, .slice a2 l.length c2] w fun e w' => e = .returned (.bool true) ∧ Below w.heap.size w w' := by
  have hl : ((l.length : Int) != (l.length : Int)) = false := by simp
  go_enter Try.func44, Try.ntmps44
  go_wp2
  go_loopw [5] (fun i wr => ∃ k : Nat, k ≤ l.length ∧ i = .int .i64 k ∧ Below w.heap.size w wr) (fun i _ => l.length - (intOf i).toNat)
  case atStart => exact ⟨0, Nat.zero_le _, rfl, Below.refl _ _⟩
  case round =>
    obtain ⟨k, hk, rfl, hbel⟩ := hrel
    have hsz := hbel.size
    by_cases hlt : k < l.length
    · have q : (k : Int) < (l.length : Int) := by omega
      obtain ⟨g, off, a1, c1, a2, c2, a3, c3, e, hg, d0, d1, d2, d3, s1, s2, s3⟩ := h1.below hbel k hlt
      obtain ⟨g', off', b1, k1, b2, k2, b3, k3, e', hg', f0, f1, f2, f3, t1, t2, t3⟩ := h2.below hbel k hlt
      subst e e'
      obtain ⟨m1, m2, m3⟩ := mem_lns (ck_mem l k hlt)
      have n1 := hs _ m1
      have n2 := hs _ m2
      have n3 := hs _ m3
      obtain ⟨C, hCe⟩ : ∃ C, l.getD k cnil = C := ⟨_, rfl⟩
      obtain ⟨x0, x1, x2, x3⟩ := C
      rw [hCe] at d0 d1 d2 d3 s1 s2 s3 f0 f1 f2 f3 t1 t2 t3 n1 n2 n3
      simp only [] at d0 d1 d2 d3 s1 s2 s3 f0 f1 f2 f3 t1 t2 t3 n1 n2 n3
      have S1 : SS wr.drew a1 x1 := s1.1.toSS hsz
      have S2 : SS wr.drew a2 x2 := s2.1.toSS hsz
      have S3 : SS wr.drew a3 x3 := s3.1.toSS hsz
      have T1 : SS wr.drew b1 x1 := t1.1.toSS hsz
      have T2 : SS wr.drew b2 x2 := t2.1.toSS hsz
      have T3 : SS wr.drew b3 x3 := t3.1.toSS hsz
      clear hCe h1 h2 s1 s2 s3 t1 t2 t3 m1 m2 m3
      go_wp2
      go_region_with (go_at_call 80; refine (eqChunk x0 _ _ _ _ _ _ _ _ _ _ _ _ x1 x2 x3 _ S1 S2 S3 T1 T2 T3 n1 n2 n3).mono ?_; rintro e w' ⟨rfl, b⟩)
      all_goals
        have b' : Below wr.heap.size wr w' := (below_drew (Below.refl wr.heap.size wr)).trans b
        have HB : Hid (Below w.heap.size w w') := below_step hbel hsz b'
        clear d0 d1 d2 d3 f0 f1 f2 f3 b b' hbel
        go_wp2
        go_roundw
        case rel => exact ⟨k + 1, by omega, by go_num, by first | exact HB.out | exact below_drew HB.out | exact below_drewN' HB.out _⟩
        case measure => first | (simp [intOf]; omega) | simp [intOf]
    · have q : ¬ (k : Int) < (l.length : Int) := by omega
      go_wp2
      go_ret
      exact ⟨rfl, hbel⟩
end Go.Proofs.Ytlgeoaepjghdhaa
