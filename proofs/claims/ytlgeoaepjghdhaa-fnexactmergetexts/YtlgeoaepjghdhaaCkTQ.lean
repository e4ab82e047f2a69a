/- The contracts of the laws' helpers over chunks (szChunk, toChunk, eqChunk and their lists). No statement is proved here. -/
import Derived.Test.YtlgeoaepjghdhaaRows
import Derived.Test.YtlgeoaepjghdhaaLemQ
import Derived.Test.YtlgeoaepjghdhaaLFLemQ
import Derived.Test.YtlgeoaepjghdhaaDTabQ
import Derived.Test.YtlgeoaepjghdhaaInQ
import Derived.Test.YtlgeoaepjghdhaaHkTQ
import Derived.Test.YtlgeoaepjghdhaaCkLQ
import Derived.Test.YtlgeoaepjghdhaaCkNQ
import Derived.WalkKit
import Derived.ProofKit
import Derived.Below
import Derived.WalkSpells
import Derived.Deep.QuietTactic
import Derived.BigQuiet
import Derived.Deep.RegionWith
import Derived.Maps.AppendAt
import Derived.Deep.Strs
import Derived.SliceStrings
import Derived.Lib.SmallJoins
namespace Go.Proofs.Ytlgeoaepjghdhaa
open Go.ChangeShapes Go.WideShapes Go.ChangeAt Go.RowKit

theorem left_neg {l : Int} {ss : List ByteArray} (h : left l ss < 0) : left l ss = -1 := by unfold left at h ⊢; split at h <;> simp_all

set_option maxHeartbeats 1000000 in
theorem eqChunk (x0 : Int) (a1 a2 a3 b1 b2 b3 : Option Addr) (c1 c2 c3 k1 k2 k3 : Nat) (x1 x2 x3 : List ByteArray) (w : World) (h1 : SS w a1 x1) (h2 : SS w a2 x2) (h3 : SS w a3 x3) (g1 : SS w b1 x1) (g2 : SS w b2 x2) (g3 : SS w b3 x3) (n1 : x1.length ≤ 1048576) (n2 : x2.length ≤ 1048576) (n3 : x3.length ≤ 1048576) :
    Calls Try.prog 80 #[.agg #[.int .i64 x0, .slice a1 x1.length c1, .slice a2 x2.length c2, .slice a3 x3.length c3], .agg #[.int .i64 x0, .slice b1 x1.length k1, .slice b2 x2.length k2, .slice b3 x3.length k3]] w fun e w' => e = .returned (.bool true) ∧ Below w.heap.size w w' := by
  obtain ⟨W, hW⟩ : ∃ W, (w.alloc (.cells #[.int .i64 x0, .slice a1 x1.length c1, .slice a2 x2.length c2, .slice a3 x3.length c3] 123)).alloc (.cells #[.int .i64 x0, .slice b1 x1.length k1, .slice b2 x2.length k2, .slice b3 x3.length k3] 123) = W := ⟨_, rfl⟩
  have bW : Below w.heap.size w W := by rw [← hW]; exact ((Below.refl _ _).alloc (Nat.le_refl _) _).alloc (by simp) _
  have hR : Rs W w.heap.size [.int .i64 x0, .slice a1 x1.length c1, .slice a2 x2.length c2, .slice a3 x3.length c3] := by
    rw [← hW]; exact (Fr.ofAlloc (lo := 0) (hi := 0) _ _).rs (Rs.new _ _ _) (.inr (Nat.zero_le _))
  have hR' : Rs W (w.heap.size + 1) [.int .i64 x0, .slice b1 x1.length k1, .slice b2 x2.length k2, .slice b3 x3.length k3] := by
    rw [← hW]; simpa using Rs.new (w.alloc (.cells #[.int .i64 x0, .slice a1 x1.length c1, .slice a2 x2.length c2, .slice a3 x3.length c3] 123)) #[.int .i64 x0, .slice b1 x1.length k1, .slice b2 x2.length k2, .slice b3 x3.length k3] 123
  have q0 : (x0 != x0) = false := by simp
  have r0 := hR 0 _ rfl
  have r1 := hR 1 _ rfl
  have r2 := hR 2 _ rfl
  have r3 := hR 3 _ rfl
  have s0 := hR' 0 _ rfl
  have s1 := hR' 1 _ rfl
  have s2 := hR' 2 _ rfl
  have s3 := hR' 3 _ rfl
  replace h1 := h1.below bW
  replace h2 := h2.below bW
  replace h3 := h3.below bW
  replace g1 := g1.below bW
  replace g2 := g2.below bW
  replace g3 := g3.below bW
  clear hR hR'
  go_enter Try.func80, Try.ntmps80
  go_wp2_with fail
  refine (eqStringS _ _ _ _ _ _ _ h1 g1 n1 n1).mono ?_; rintro e w1 ⟨rfl, m1, rfl⟩
  rw [eqB_self]
  go_wp2_with fail
  refine (eqStringS _ _ _ _ _ _ _ (h2.drewN _) (g2.drewN _) n2 n2).mono ?_; rintro e w1 ⟨rfl, m2, rfl⟩
  rw [eqB_self]
  go_wp2_with fail
  refine (eqStringS _ _ _ _ _ _ _ (h3.drewN _) (g3.drewN _) n3 n3).mono ?_; rintro e w1 ⟨rfl, m3, rfl⟩
  rw [eqB_self]
  go_wp2_with fail
  go_ret
  exact ⟨rfl, below_drewN' bW _⟩

theorem Fr.ofSet (w : World) (b o : Nat) (v : Value) : Fr b (b + 1) w (w.setCell ⟨b, o, none⟩ v) := Fr.ofGrown (grownSet w b o v) (fun j hj => by cases hj; omega)
/-- A new chunk, each list in memory of its own. -/
def CP (x0 : Int) (x1 x2 x3 : List ByteArray) (w : World) (e : Ending) (w' : World) : Prop := ∃ g1 g2 g3, w.heap.size < g1 ∧ g1 < g2 ∧ g2 < g3 ∧ e = .returned (.agg #[.int .i64 x0, .slice (some ⟨g1, 0, none⟩) x1.length x1.length, .slice (some ⟨g2, 0, none⟩) x2.length x2.length, .slice (some ⟨g3, 0, none⟩) x3.length x3.length]) ∧
  w'.ownsRow w.heap.size 9 1 (.slice (some ⟨g1, 0, none⟩) x1.length x1.length) x1.length (x1.map Value.string) ∧ w'.ownsRow w.heap.size 9 1 (.slice (some ⟨g2, 0, none⟩) x2.length x2.length) x2.length (x2.map Value.string) ∧
  w'.ownsRow w.heap.size 9 1 (.slice (some ⟨g3, 0, none⟩) x3.length x3.length) x3.length (x3.map Value.string) ∧ Below w.heap.size w w'
theorem blkOf {g n c j : Nat} (h : (Value.slice (some ⟨g, 0, none⟩) n c).ownBlock = some j) : g = j := by simpa [Value.ownBlock] using h

end Go.Proofs.Ytlgeoaepjghdhaa
/- The contracts of the laws' helpers over lists of chunks (szChunkS, toChunkS, eqChunkS). No statement is proved here. -/
namespace Go.Proofs.Ytlgeoaepjghdhaa
open Go.ChangeShapes Go.WideShapes Go.ChangeAt Go.RowKit

/-- The lists of the first k chunks, each in memory of its own, above block B. -/
structure KP (B : Nat) (w : World) (l : List Ck) (sl : Nat → Value) (k : Nat) : Prop where
  each : ∀ j, j < k * 3 → w.ownsRow B 9 1 (sl j) (lns l j).length ((lns l j).map Value.string)
  apart : ∀ i j, i < j → j < k * 3 → ∀ b, (sl i).ownBlock = some b → (sl j).ownBlock = some b → False
  bd : ∀ j, j < k * 3 → ∀ b, (sl j).ownBlock = some b → B < b ∧ b < w.heap.size
theorem KP.zero (B : Nat) (w : World) (l : List Ck) (sl : Nat → Value) : KP B w l sl 0 := ⟨fun _ h => absurd h (by omega), fun _ _ _ h => absurd h (by omega), fun _ h => absurd h (by omega)⟩
theorem KP.fr {lo hi B k : Nat} {w w' : World} {l : List Ck} {sl : Nat → Value} (h : KP B w l sl k) (hF : Fr lo hi w w') (hh : hi ≤ B + 1) : KP B w' l sl k :=
  ⟨fun j hj => hF.own (h.each j hj) (fun b hb => by have := h.bd j hj b hb; omega), h.apart, fun j hj b hb => by have := h.bd j hj b hb; have := hF.size; omega⟩
theorem three {i k : Nat} (h : i < (k + 1) * 3) : i < k * 3 ∨ i = k * 3 ∨ i = k * 3 + 1 ∨ i = k * 3 + 2 := by omega
theorem KP.add {B k M : Nat} {w : World} {l : List Ck} {sl : Nat → Value} {v1 v2 v3 : Value} (h : KP B w l sl k) (hM : ∀ j, j < k * 3 → ∀ b, (sl j).ownBlock = some b → b < M) (hB : B < M)
    (o1 : w.ownsRow B 9 1 v1 (lns l (k * 3)).length ((lns l (k * 3)).map Value.string)) (o2 : w.ownsRow B 9 1 v2 (lns l (k * 3 + 1)).length ((lns l (k * 3 + 1)).map Value.string)) (o3 : w.ownsRow B 9 1 v3 (lns l (k * 3 + 2)).length ((lns l (k * 3 + 2)).map Value.string))
    (a1 : ∀ b, v1.ownBlock = some b → M ≤ b) (a2 : ∀ b, v2.ownBlock = some b → M ≤ b) (a3 : ∀ b, v3.ownBlock = some b → M ≤ b)
    (d12 : ∀ b, v1.ownBlock = some b → v2.ownBlock = some b → False) (d13 : ∀ b, v1.ownBlock = some b → v3.ownBlock = some b → False) (d23 : ∀ b, v2.ownBlock = some b → v3.ownBlock = some b → False) : KP B w l (sl3 sl k v1 v2 v3) (k + 1) := by
  refine ⟨fun j hj => ?_, fun i j hij hj b hb hb' => ?_, fun j hj b hb => ?_⟩
  · rcases three hj with h' | rfl | rfl | rfl
    · rw [sl3_old _ _ _ _ _ _ h']; exact h.each j h'
    · rw [sl3_0]; exact o1
    · rw [sl3_1]; exact o2
    · rw [sl3_2]; exact o3
  · rcases three (show i < (k + 1) * 3 by omega) with hi | rfl | rfl | rfl
    · rw [sl3_old _ _ _ _ _ _ hi] at hb
      rcases three hj with h' | rfl | rfl | rfl
      · rw [sl3_old _ _ _ _ _ _ h'] at hb'; exact h.apart i j hij h' b hb hb'
      · rw [sl3_0] at hb'; have := hM i hi b hb; have := a1 b hb'; omega
      · rw [sl3_1] at hb'; have := hM i hi b hb; have := a2 b hb'; omega
      · rw [sl3_2] at hb'; have := hM i hi b hb; have := a3 b hb'; omega
    · rw [sl3_0] at hb
      rcases three hj with h' | h' | rfl | rfl
      · omega
      · omega
      · rw [sl3_1] at hb'; exact d12 b hb hb'
      · rw [sl3_2] at hb'; exact d13 b hb hb'
    · rw [sl3_1] at hb
      rcases three hj with h' | h' | h' | rfl
      · omega
      · omega
      · omega
      · rw [sl3_2] at hb'; exact d23 b hb hb'
    · omega
  · rcases three hj with h' | rfl | rfl | rfl
    · rw [sl3_old _ _ _ _ _ _ h'] at hb; exact h.bd j h' b hb
    · rw [sl3_0] at hb; have := a1 b hb; have := (o1.lt b hb).2; omega
    · rw [sl3_1] at hb; have := a2 b hb; have := (o2.lt b hb).2; omega
    · rw [sl3_2] at hb; have := a3 b hb; have := (o3.lt b hb).2; omega
theorem fourSets (w : World) (b o : Nat) (v0 v1 v2 v3 : Value) : Fr b (b + 1) w ((((w.setCell ⟨b, o, none⟩ v0).setCell ⟨b, o + 1, none⟩ v1).setCell ⟨b, o + 2, none⟩ v2).setCell ⟨b, o + 3, none⟩ v3) := by
  have G : ∀ (u : World) (o : Nat) (v : Value), Fr b (b + 1) u (u.setCell ⟨b, o, none⟩ v) := fun u o v => Fr.ofGrown (grownSet u b o v) (fun j hj => by cases hj; omega)
  exact (((G _ _ _).trans (G _ _ _)).trans (G _ _ _)).trans (G _ _ _)

set_option maxRecDepth 20000 in
set_option maxHeartbeats 2000000 in
theorem eqChunkS (a1 a2 : Option Addr) (c1 c2 : Nat) (l : List Ck) (w : World) (h1 : KB w.heap.size w a1 l) (h2 : KB w.heap.size w a2 l) (hs : ShortK l) (hn : l.length ≤ 1048576) :
    Calls Try.prog 44 #[.slice a1 l.length c1, .slice a2 l.length c2] w fun e w' => e = .returned (.bool true) ∧ Below w.heap.size w w' := by
  have hl : ((l.length : Int) != (l.length : Int)) = false := by simp
  go_enter Try.func44, Try.ntmps44
  go_wp2
  go_loopw [5] (fun i wr => ∃ k : Nat, k ≤ l.length ∧ i = .int .i64 k ∧ Below w.heap.size w wr) (fun i _ => l.length - (intOf i).toNat)
  case atStart => exact ⟨0, Nat.zero_le _, rfl, Below.refl _ _⟩
  case round =>
    obtain ⟨k, hk, rfl, hbel⟩ := hrel
    have hsz := hbel.size
    by_cases hlt : k < l.length
    · have q : (k : Int) < (l.length : Int) := by omega
      obtain ⟨g, off, a1, c1, a2, c2, a3, c3, e, hg, d0, d1, d2, d3, s1, s2, s3⟩ := h1.below hbel k hlt
      obtain ⟨g', off', b1, k1, b2, k2, b3, k3, e', hg', f0, f1, f2, f3, t1, t2, t3⟩ := h2.below hbel k hlt
      subst e e'
      obtain ⟨m1, m2, m3⟩ := mem_lns (ck_mem l k hlt)
      have n1 := hs _ m1
      have n2 := hs _ m2
      have n3 := hs _ m3
      obtain ⟨C, hCe⟩ : ∃ C, l.getD k cnil = C := ⟨_, rfl⟩
      obtain ⟨x0, x1, x2, x3⟩ := C
      rw [hCe] at d0 d1 d2 d3 s1 s2 s3 f0 f1 f2 f3 t1 t2 t3 n1 n2 n3
      simp only [] at d0 d1 d2 d3 s1 s2 s3 f0 f1 f2 f3 t1 t2 t3 n1 n2 n3
      have S1 : SS wr.drew a1 x1 := s1.1.toSS hsz
      have S2 : SS wr.drew a2 x2 := s2.1.toSS hsz
      have S3 : SS wr.drew a3 x3 := s3.1.toSS hsz
      have T1 : SS wr.drew b1 x1 := t1.1.toSS hsz
      have T2 : SS wr.drew b2 x2 := t2.1.toSS hsz
      have T3 : SS wr.drew b3 x3 := t3.1.toSS hsz
      clear hCe h1 h2 s1 s2 s3 t1 t2 t3 m1 m2 m3
      go_wp2
      go_region_with (go_at_call 80; refine (eqChunk x0 _ _ _ _ _ _ _ _ _ _ _ _ x1 x2 x3 _ S1 S2 S3 T1 T2 T3 n1 n2 n3).mono ?_; rintro e w' ⟨rfl, b⟩)
      all_goals
        have b' : Below wr.heap.size wr w' := (below_drew (Below.refl wr.heap.size wr)).trans b
        have HB : Hid (Below w.heap.size w w') := below_step hbel hsz b'
        clear d0 d1 d2 d3 f0 f1 f2 f3 b b' hbel
        go_wp2
        go_roundw
        case rel => exact ⟨k + 1, by omega, by go_num, by first | exact HB.out | exact below_drew HB.out | exact below_drewN' HB.out _⟩
        case measure => first | (simp [intOf]; omega) | simp [intOf]
    · have q : ¬ (k : Int) < (l.length : Int) := by omega
      go_wp2
      go_ret
      exact ⟨rfl, hbel⟩
end Go.Proofs.Ytlgeoaepjghdhaa
/- An argument that is a chunk, or a list of chunks, opened. No statement is proved here. -/
namespace Go.Proofs.Ytlgeoaepjghdhaa
open Go.ChangeShapes Go.WideShapes Go.ChangeAt Go.RowKit

theorem oneAt {cs : List Value} {k : Nat} {v : Value} (h : (cs.drop k).take 1 = [v]) : cs[k]? = some v := by
  have := congrArg (fun l => l[0]?) h
  simpa [List.getElem?_take, List.getElem?_drop] using this
theorem openSlN {H : Type} {enc : TypeId × Value → H} {W : World} {m : Nat} {cs : List Value} {y : DataW H × List MemPlace}
    (t : DataW.trod enc Try.prog W 0 (fun _ => true) true m 22 cs = some y) (hlt : ∀ x ∈ y.2, x.block < W.heap.size) :
    ∃ a cap ss, cs = [.slice a ss.length cap] ∧ SSN W.heap.size W a cap ss ∧ ss.length ≤ 9223372036854775807 := by
  obtain ⟨a, len, cap, e2, hnil⟩ : ∃ a len cap, cs = [.slice a len cap] ∧ (a = none → cap = 0) := by
    rcases open_strings Try.underlying22 Try.underlying9 (by kernel_rfl) t with ⟨hcs, _⟩ | ⟨x, l, c, ss, hcs, _⟩
    · exact ⟨_, _, _, hcs, fun _ => rfl⟩
    · exact ⟨_, _, _, hcs, fun h => by cases h⟩
  obtain ⟨ss, rfl, hS, hn⟩ := openSS (enc := enc) (W := W) (a := a) (len := len) (cap := cap) (d := y.1) (p := y.2) ⟨m, by
    show DataW.trod enc Try.prog W 0 (fun _ => true) true m 22 [.slice a len cap] = some y
    rw [← e2]; exact t⟩ hlt
  exact ⟨a, cap, ss, e2, ⟨hS.toB, hnil⟩, hn⟩
theorem mem_of_lns {l : List Ck} {ss : List ByteArray} (h : ss ∈ lnsAll l) : ∃ c ∈ l, ss = c.2.1 ∨ ss = c.2.2.1 ∨ ss = c.2.2.2 := by
  unfold lnsAll at h
  obtain ⟨c, hc, hs⟩ := List.mem_flatMap.1 h
  exact ⟨c, hc, by simpa using hs⟩
end Go.Proofs.Ytlgeoaepjghdhaa
