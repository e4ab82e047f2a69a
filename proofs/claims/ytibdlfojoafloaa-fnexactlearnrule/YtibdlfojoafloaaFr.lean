/- Frames: a step that turns old blocks between lo and hi alone, and what stays behind it. No statement is proved here. -/
import Derived.Test.YtibdlfojoafloaaRows
import Derived.Test.YtibdlfojoafloaaStrs
import Derived.Test.YtibdlfojoafloaaDTab
import Derived.WalkKit
import Derived.ProofKit
import Derived.Below
namespace Go.Proofs.Ytibdlfojoafloaa
open Go.ChangeShapes Go.WideShapes Go.ChangeAt Go.RowKit

/-- Of the old blocks none but those from lo on and below hi has turned. -/
structure Fr (lo hi : Nat) (w w' : World) : Prop where
  os : w'.os = w.os
  tape : w'.tape = w.tape
  output : w'.output = w.output
  size : w.heap.size ≤ w'.heap.size
  block : ∀ k, k < w.heap.size → k < lo ∨ hi ≤ k → w'.heap[k]? = w.heap[k]?
theorem Fr.refl (lo hi : Nat) (w : World) : Fr lo hi w w := ⟨rfl, rfl, rfl, Nat.le_refl _, fun _ _ _ => rfl⟩
theorem Fr.trans {lo hi : Nat} {a b c : World} (h : Fr lo hi a b) (k : Fr lo hi b c) : Fr lo hi a c :=
  ⟨k.os.trans h.os, k.tape.trans h.tape, k.output.trans h.output, Nat.le_trans h.size k.size, fun i hi' ho => (k.block i (Nat.lt_of_lt_of_le hi' h.size) ho).trans (h.block i hi' ho)⟩
theorem Fr.ofBelow {lo hi : Nat} {w w' : World} (h : Below w.heap.size w w') : Fr lo hi w w' := ⟨h.os, h.tape, h.output, h.size, fun k hk _ => h.block k hk⟩
theorem Fr.ofGrown {lo hi : Nat} {w w' : World} {row : Option Nat} (h : w.grownBy w' row) (hr : ∀ j, row = some j → lo ≤ j ∧ j < hi) : Fr lo hi w w' :=
  ⟨h.os, h.tape, h.output, h.size, fun k hk ho => h.block k hk (fun e => by have := hr k e.symm; omega)⟩
theorem Fr.drewN {lo hi : Nat} {a w : World} (h : Fr lo hi a w) (n : Nat) : Fr lo hi a (w.drewN n) := ⟨h.os, h.tape, h.output, h.size, h.block⟩
theorem Fr.ofAlloc {lo hi : Nat} (w : World) (o : Obj) : Fr lo hi w (w.alloc o) := Fr.ofBelow ((Below.refl _ _).alloc (Nat.le_refl _) _)
theorem cellLt {w : World} {b o : Nat} {v : Value} (h : w.cell? ⟨b, o, none⟩ = some v) : b < w.heap.size := by
  rcases Nat.lt_or_ge b w.heap.size with h' | h'
  · exact h'
  · simp [World.cell?, Array.getElem?_eq_none h'] at h
theorem Fr.cell {lo hi : Nat} {w w' : World} {b o : Nat} {v : Value} (h : Fr lo hi w w') (hc : w.cell? ⟨b, o, none⟩ = some v) (hb : b < lo ∨ hi ≤ b) : w'.cell? ⟨b, o, none⟩ = some v :=
  (World.cell?_of_block (a := ⟨b, o, none⟩) (h.block b (cellLt hc) hb)).trans hc
theorem Fr.own {lo hi base : Nat} {w w' : World} {e : TypeId} {size : Nat} {v : Value} {n : Nat} {xs : List Value} (h : Fr lo hi w w') (ho : w.ownsRow base e size v n xs) (hb : ∀ j, v.ownBlock = some j → j < lo ∨ hi ≤ j) : w'.ownsRow base e size v n xs := by
  refine ⟨ho.1, ?_⟩
  rcases ho.2 with h' | ⟨g, cap, cur, rfl, h2, h3, h4⟩
  · exact .inl h'
  · exact .inr ⟨g, cap, cur, rfl, h2, by rw [h.block g (Array.getElem?_eq_some_iff.1 h3).1 (hb g rfl)]; exact h3, h4⟩
theorem Fr.ssb {lo hi B : Nat} {w w' : World} {a : Option Addr} {ss : List ByteArray} (h : Fr lo hi w w') (hs : SSB B w a ss) (hB : B ≤ lo) : SSB B w' a ss :=
  ⟨hs.1, fun k hk => by
    obtain ⟨b, off, e, hb, hc⟩ := hs.2 k hk
    exact ⟨b, off, e, hb, h.cell hc (by omega)⟩⟩
theorem Fr.below {lo hi B : Nat} {a w w' : World} (h : Fr lo hi w w') (hb : Below B a w) (h1 : B ≤ lo) (h2 : B ≤ w.heap.size) : Below B a w' :=
  hb.trans ⟨h.os, h.tape, h.output, h.size, fun k hk => h.block k (by omega) (by omega)⟩
/-- The cells of a struct that a variable holds. -/
def Rs (w : World) (b : Nat) (vs : List Value) : Prop := ∀ k v, vs[k]? = some v → w.cell? ⟨b, k, none⟩ = some v
theorem Fr.rs {lo hi b : Nat} {w w' : World} {vs : List Value} (h : Fr lo hi w w') (hs : Rs w b vs) (hb : b < lo ∨ hi ≤ b) : Rs w' b vs := fun k v hk => h.cell (hs k v hk) hb
theorem Rs.new (w : World) (vs : Array Value) (t : TypeId) : Rs (w.alloc (.cells vs t)) w.heap.size vs.toList := fun k v hk => by
  rw [cell_of_row _ _ _ _ _ _ (heap_alloc_new w _)]
  simpa using hk
/-- A row of strings that is owned, as a slice that reads as them. -/
theorem ownSS {w : World} {base cap : Nat} {a : Option Addr} {ss : List ByteArray} (h : w.ownsRow base 9 1 (.slice a ss.length cap) ss.length (ss.map Value.string)) (hz : ∀ k, k < ss.length → (ss.getD k ByteArray.empty).size ≤ 9223372036854775807) : SS w a ss := by
  refine ⟨hz, fun k hk => ?_⟩
  rcases h.2 with ⟨h', h0⟩ | ⟨g, c, cur, h', hb, hg, _⟩
  · omega
  · simp only [Value.slice.injEq] at h'
    obtain ⟨rfl, _⟩ := h'
    exact ⟨g, 0, rfl, (Array.getElem?_eq_some_iff.1 hg).1, by rw [Nat.zero_add, h.cellAt k (by omega), getD_at ss k hk]; simp [hk]⟩
end Go.Proofs.Ytibdlfojoafloaa
