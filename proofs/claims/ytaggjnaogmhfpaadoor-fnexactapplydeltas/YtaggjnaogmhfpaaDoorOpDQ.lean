/- An argument that is a list of deltas, opened. No statement is proved here. -/
import Derived.Test.YtaggjnaogmhfpaaDoorRows
import Derived.Test.YtaggjnaogmhfpaaDoorLemQ
import Derived.Test.YtaggjnaogmhfpaaDoorDTabQ
import Derived.Test.YtaggjnaogmhfpaaDoorDlLQ
import Derived.WalkKit
import Derived.ProofKit
import Derived.Deep.Strs
import Derived.SliceStrings
import Derived.Lib.SmallJoins
namespace Go.Proofs.YtaggjnaogmhfpaaDoor.Dl
open Go.ChangeShapes Go.WideShapes Go.ChangeAt Go.RowKit

theorem oneOf {cs : List Value} {k : Nat} {v : Value} (h : (cs.drop k).take 1 = [v]) : cs[k]? = some v := by
  have := congrArg (fun l => l[0]?) h
  simpa [List.getElem?_take, List.getElem?_drop] using this
theorem inTake {cs : List Value} {a n j : Nat} {v : Value} (h : ((cs.drop a).take n)[j]? = some v) : cs[a + j]? = some v := by
  rw [List.getElem?_take] at h
  split at h
  · rw [List.getElem?_drop] at h; exact h
  · cases h
theorem openOB {H : Type} {enc : TypeId × Value → H} {W : World} {a : Option Addr} {len cap : Nat} {d : DataW H} {p : List MemPlace}
    (h : DataW.Trod enc Tryd.prog W 0 (fun _ => true) true 35 (.slice a len cap) d p) :
    ∃ l : List Ob, len = l.length ∧ OB W.heap.size W a l ∧ FitsO l ∧ l.length ≤ 9223372036854775807 := by
  obtain ⟨fuel, hf⟩ := h
  have hc7 : Tryd.prog.cellsOf 65 = 7 := by kernel_rfl
  have hc3 : Tryd.prog.cellsOf 48 = 3 := by kernel_rfl
  have hc1 : Tryd.prog.cellsOf 2 = 1 := by kernel_rfl
  have hc2 : Tryd.prog.cellsOf 9 = 1 := by kernel_rfl
  rcases DataW.trod_slice Tryd.underlying35 hf with ⟨hcs, _⟩ | ⟨x, l, c, elems, rest, n, _, hcs, _, hb, hl, hm, hlen, hel, _, _⟩
  · simp [Value.cells] at hcs
    obtain ⟨rfl, rfl, rfl⟩ := hcs
    exact ⟨[], rfl, fun k hk => absurd hk (Nat.not_lt_zero _), fun _ hx => by (cases hx), by simp⟩
  · simp [Value.cells] at hcs
    obtain ⟨rfl, rfl, rfl⟩ := hcs
    unfold maxLen at hm
    rw [hc7] at hel
    have each : ∀ i, i < len → ∃ C : Ob, (W.cell? ((x.add (i * 7)).add 0) = some (.string C.1) ∧ W.cell? ((x.add (i * 7)).add 1) = some (.string C.2.1.1) ∧ W.cell? ((x.add (i * 7)).add 2) = some (.int .i64 C.2.1.2.1) ∧ W.cell? ((x.add (i * 7)).add 3) = some (.string C.2.1.2.2) ∧ W.cell? ((x.add (i * 7)).add 4) = some (.string C.2.2.1) ∧ W.cell? ((x.add (i * 7)).add 5) = some (.int .i64 C.2.2.2.1) ∧ W.cell? ((x.add (i * 7)).add 6) = some (.string C.2.2.2.2)) ∧ C.1.size ≤ 9223372036854775807 ∧ C.2.1.1.size ≤ 9223372036854775807 ∧ C.2.1.2.2.size ≤ 9223372036854775807 ∧ C.2.2.1.size ≤ 9223372036854775807 ∧ C.2.2.2.2.size ≤ 9223372036854775807 := by
      intro i hi
      have hy := hel i hi
      rw [List.getElem?_eq_getElem (by omega), Option.bind_eq_some_iff] at hy
      obtain ⟨cs', hcs, hy'⟩ := hy
      obtain ⟨hcb, hcl, hce⟩ := World.cells?_some hcs
      obtain ⟨y0, y1, y2, m, _, hl3, t0, t1, t2⟩ := Go.Deep.trod_struct3 Tryd.underlying65 hy'
      simp only [hc2] at t0 t1 t2
      simp only [hc3] at t1 t2
      obtain ⟨x0, e0, _, w0⟩ := DataW.trod_string Tryd.underlying9 t0
      obtain ⟨_, _, _, m1, _, _, p0, p1, p2⟩ := Go.Deep.trod_struct3 Tryd.underlying48 t1
      obtain ⟨_, _, _, m2, _, _, q0, q1, q2⟩ := Go.Deep.trod_struct3 Tryd.underlying48 t2
      simp only [hc2] at p0 p2 q0 q2
      simp only [hc1] at p1 q1
      obtain ⟨x1, e1, _, w1⟩ := DataW.trod_string Tryd.underlying9 p0
      obtain ⟨x2, e2, _, _⟩ := DataW.trod_int Tryd.underlying2 p1
      obtain ⟨x3, e3, _, w3⟩ := DataW.trod_string Tryd.underlying9 p2
      obtain ⟨x4, e4, _, w4⟩ := DataW.trod_string Tryd.underlying9 q0
      obtain ⟨x5, e5, _, _⟩ := DataW.trod_int Tryd.underlying2 q1
      obtain ⟨x6, e6, _, w6⟩ := DataW.trod_string Tryd.underlying9 q2
      have g0 := oneOf e0
      have g1 := inTake (oneOf e1)
      have g2 := inTake (oneOf e2)
      have g3 := inTake (oneOf e3)
      have g4 := inTake (oneOf e4)
      have g5 := inTake (oneOf e5)
      have g6 := inTake (oneOf e6)
      unfold maxLen at w0 w1 w3 w4 w6
      refine ⟨(x0, (x1, x2, x3), (x4, x5, x6)), ⟨?_, ?_, ?_, ?_, ?_, ?_, ?_⟩, by simp only []; omega, by simp only []; omega, by simp only []; omega, by simp only []; omega, by simp only []; omega⟩
      · rw [hce 0 (by omega)]; exact g0
      · rw [hce 1 (by omega)]; exact g1
      · rw [hce 2 (by omega)]; exact g2
      · rw [hce 3 (by omega)]; exact g3
      · rw [hce 4 (by omega)]; exact g4
      · rw [hce 5 (by omega)]; exact g5
      · rw [hce 6 (by omega)]; exact g6
    obtain ⟨f, hf'⟩ : ∃ f : Nat → Ob, ∀ i, i < len → (W.cell? ((x.add (i * 7)).add 0) = some (.string ((f i)).1) ∧ W.cell? ((x.add (i * 7)).add 1) = some (.string ((f i)).2.1.1) ∧ W.cell? ((x.add (i * 7)).add 2) = some (.int .i64 ((f i)).2.1.2.1) ∧ W.cell? ((x.add (i * 7)).add 3) = some (.string ((f i)).2.1.2.2) ∧ W.cell? ((x.add (i * 7)).add 4) = some (.string ((f i)).2.2.1) ∧ W.cell? ((x.add (i * 7)).add 5) = some (.int .i64 ((f i)).2.2.2.1) ∧ W.cell? ((x.add (i * 7)).add 6) = some (.string ((f i)).2.2.2.2)) ∧ (f i).1.size ≤ 9223372036854775807 ∧ (f i).2.1.1.size ≤ 9223372036854775807 ∧ (f i).2.1.2.2.size ≤ 9223372036854775807 ∧ (f i).2.2.1.size ≤ 9223372036854775807 ∧ (f i).2.2.2.2.size ≤ 9223372036854775807 :=
      ⟨fun i => if h : i < len then Classical.choose (each i h) else onil, fun i hi => by simp only [dif_pos hi]; exact Classical.choose_spec (each i hi)⟩
    have hget : ∀ k, k < len → ((List.range len).map f).getD k onil = f k := fun k hk => by simp [List.getD, hk]
    obtain ⟨b, off, spot⟩ := x
    refine ⟨(List.range len).map f, by simp, fun k hk => ?_, fun y hy => ?_, by simp; omega⟩
    · have hk' : k < len := by simpa using hk
      obtain ⟨⟨c0, c1, c2, c3, c4, c5, c6⟩, _⟩ := hf' k hk'
      rw [hget k hk']
      have hspot : spot = none := by
        obtain ⟨⟨c00, _⟩, _⟩ := hf' 0 (by omega)
        have := World.cell?_spot c00
        simpa [Addr.add] using this
      subst hspot
      have hadd : ∀ j, ((⟨b, off, none⟩ : Addr).add (k * 7)).add j = ⟨b, off + k * 7 + j, none⟩ := by
        intro j
        rw [add_plain, add_plain]
      rw [hadd] at c0 c1 c2 c3 c4 c5 c6
      exact ⟨b, off, rfl, cellLt c0, c0, c1, c2, c3, c4, c5, c6⟩
    · obtain ⟨k, hk, rfl⟩ := List.mem_map.1 hy
      exact (hf' k (List.mem_range.1 hk)).2
end Go.Proofs.YtaggjnaogmhfpaaDoor.Dl
