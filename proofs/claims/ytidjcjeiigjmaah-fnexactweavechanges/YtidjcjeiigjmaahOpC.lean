/- An argument that is a list of changes, opened: its cells and their bounds. No statement is proved here. -/
import Derived.Test.YtidjcjeiigjmaahRows
import Derived.Test.YtidjcjeiigjmaahLem
import Derived.Test.YtidjcjeiigjmaahStrs
import Derived.Test.YtidjcjeiigjmaahCom
import Derived.Test.YtidjcjeiigjmaahDTab
import Derived.Test.YtidjcjeiigjmaahFr
import Derived.Test.YtidjcjeiigjmaahChg
import Derived.Test.YtidjcjeiigjmaahEdC
import Derived.Test.YtidjcjeiigjmaahCFI
import Derived.WalkKit
import Derived.ProofKit
import Derived.Lib.SmallJoins
import Derived.SliceStrings
namespace Go.Proofs.Ytidjcjeiigjmaah
open Go.ChangeShapes Go.WideShapes Go.ChangeAt Go.RowKit

theorem one_of_take {cs : List Value} {k : Nat} {v : Value} (h : (cs.drop k).take 1 = [v]) : cs[k]? = some v := by
  have := congrArg (fun l => l[0]?) h
  simpa [List.getElem?_take, List.getElem?_drop] using this
theorem wf_i64 {n : Int} (h : (Lit.int .i64 n).wf = true) : n ≤ 9223372036854775807 := by
  have : -9223372036854775808 ≤ n ∧ n ≤ 9223372036854775807 := by
    simpa [Lit.wf, IntKind.min, IntKind.max, IntKind.signed, IntKind.bits] using h
  exact this.2
theorem openCB {H : Type} {enc : TypeId × Value → H} {W : World} {a : Option Addr} {len cap : Nat} {d : DataW H} {p : List MemPlace}
    (h : DataW.Trod enc Try.prog W 0 (fun _ => true) true 36 (.slice a len cap) d p) :
    ∃ l : List Chg, len = l.length ∧ CB W.heap.size W a l ∧ Rng l ∧ l.length ≤ 9223372036854775807 := by
  obtain ⟨fuel, hf⟩ := h
  have hc1 : Try.prog.cellsOf 2 = 1 := by kernel_rfl
  have hc4 : Try.prog.cellsOf 71 = 4 := by kernel_rfl
  rcases DataW.trod_slice Try.underlying36 hf with ⟨hcs, _⟩ | ⟨x, l, c, elems, rest, n, _, hcs, _, hb, hl, hm, hlen, hel, _, _⟩
  · simp [Value.cells] at hcs
    obtain ⟨rfl, rfl, rfl⟩ := hcs
    exact ⟨[], rfl, fun k hk => absurd hk (Nat.not_lt_zero _), fun k hk => absurd hk (Nat.not_lt_zero _), by simp⟩
  · simp [Value.cells] at hcs
    obtain ⟨rfl, rfl, rfl⟩ := hcs
    unfold maxLen at hm
    rw [hc4] at hel
    have each : ∀ i, i < len → ∃ C : Chg, (∀ j, j < 4 → W.cell? ((x.add (i * 4)).add j) = (cells4 C)[j]?) ∧ C.2.1 ≤ 9223372036854775807 ∧ C.2.2.2 ≤ 9223372036854775807 := by
      intro i hi
      have hy := hel i hi
      rw [List.getElem?_eq_getElem (by omega), Option.bind_eq_some_iff] at hy
      obtain ⟨cs', hcs, hy'⟩ := hy
      obtain ⟨hcb, hcl, hce⟩ := World.cells?_some hcs
      obtain ⟨y0, y1, y2, y3, n', _, _, t0, t1, t2, t3⟩ := Go.Joins.trod_struct4 Try.underlying71 hy'
      simp only [hc1] at t0 t1 t2 t3
      obtain ⟨x0, e0, _, w0⟩ := DataW.trod_int Try.underlying2 t0
      obtain ⟨x1, e1, _, w1⟩ := DataW.trod_int Try.underlying2 t1
      obtain ⟨x2, e2, _, w2⟩ := DataW.trod_int Try.underlying2 t2
      obtain ⟨x3, e3, _, w3⟩ := DataW.trod_int Try.underlying2 t3
      have g0 := one_of_take e0
      have g1 := one_of_take e1
      have g2 := one_of_take e2
      have g3 := one_of_take e3
      refine ⟨(x0, x1, x2, x3), fun j hj => ?_, wf_i64 w1, wf_i64 w3⟩
      have hj4 : j = 0 ∨ j = 1 ∨ j = 2 ∨ j = 3 := by omega
      rw [hce j (by omega)]
      rcases hj4 with rfl | rfl | rfl | rfl
      · exact g0
      · exact g1
      · exact g2
      · exact g3
    obtain ⟨f, hf'⟩ : ∃ f : Nat → Chg, ∀ i, i < len → ((∀ j, j < 4 → W.cell? ((x.add (i * 4)).add j) = (cells4 (f i))[j]?) ∧ (f i).2.1 ≤ 9223372036854775807 ∧ (f i).2.2.2 ≤ 9223372036854775807) :=
      ⟨fun i => if h : i < len then Classical.choose (each i h) else (0, 0, 0, 0), fun i hi => by simp only [dif_pos hi]; exact Classical.choose_spec (each i hi)⟩
    have hget : ∀ k, k < len → ((List.range len).map f).getD k (0, 0, 0, 0) = f k := fun k hk => by simp [List.getD, hk]
    obtain ⟨b, off, spot⟩ := x
    refine ⟨(List.range len).map f, by simp, fun k hk => ?_, fun k hk => ?_, by simp; omega⟩
    · have hk' : k < len := by simpa using hk
      obtain ⟨hcell, _, _⟩ := hf' k hk'
      rw [hget k hk']
      have hs0 := (hf' 0 (by omega)).1 0 (by omega)
      have hspot : spot = none := by
        have := World.cell?_spot (v := .int .i64 (f 0).1) (by simpa [cells4] using hs0)
        simpa [Addr.add] using this
      subst hspot
      have hadd : ∀ j, ((⟨b, off, none⟩ : Addr).add (k * 4)).add j = ⟨b, off + k * 4 + j, none⟩ := by
        intro j
        rw [add_plain, add_plain]
      have c0 := hcell 0 (by omega)
      have c1 := hcell 1 (by omega)
      have c2 := hcell 2 (by omega)
      have c3 := hcell 3 (by omega)
      rw [hadd] at c0 c1 c2 c3
      exact ⟨b, off, rfl, cellLt c0, c0, c1, c2, c3⟩
    · have hk' : k < len := by simpa using hk
      rw [hget k hk']
      exact (hf' k hk').2
end Go.Proofs.Ytidjcjeiigjmaah
