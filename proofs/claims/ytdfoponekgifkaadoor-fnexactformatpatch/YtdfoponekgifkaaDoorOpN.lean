/- An argument that is a list of hunks, opened. No statement is proved here. -/
import Derived.Test.YtdfoponekgifkaaDoorRows
import Derived.Test.YtdfoponekgifkaaDoorLem
import Derived.Test.YtdfoponekgifkaaDoorStrs
import Derived.Test.YtdfoponekgifkaaDoorDTab
import Derived.Test.YtdfoponekgifkaaDoorFr
import Derived.Test.YtdfoponekgifkaaDoorIn
import Derived.Test.YtdfoponekgifkaaDoorHkL
import Derived.Test.YtdfoponekgifkaaDoorHfL
import Derived.Test.YtdfoponekgifkaaDoorHfC
import Derived.Test.YtdfoponekgifkaaDoorHnL
import Derived.Test.YtdfoponekgifkaaDoorHnT
import Derived.Test.YtdfoponekgifkaaDoorOpH
import Derived.WalkKit
import Derived.ProofKit
import Derived.Deep.Strs
import Derived.SliceStrings
import Derived.Lib.SmallJoins
namespace Go.Proofs.YtdfoponekgifkaaDoor
open Go.ChangeShapes Go.WideShapes Go.ChangeAt Go.RowKit

theorem openHB {H : Type} {enc : TypeId × Value → H} {W : World} {a : Option Addr} {len cap : Nat} {d : DataW H} {p : List MemPlace}
    (h : DataW.Trod enc Tryd.prog W 0 (fun _ => true) true 22 (.slice a len cap) d p) :
    ∃ l : List Hk, len = l.length ∧ HB W.heap.size W a l ∧ Long l ∧ Fits l ∧ l.length ≤ 9223372036854775807 := by
  obtain ⟨fuel, hf⟩ := h
  have hc3 : Tryd.prog.cellsOf 41 = 3 := by kernel_rfl
  rcases DataW.trod_slice Tryd.underlying22 hf with ⟨hcs, _⟩ | ⟨x, l, c, elems, rest, n, _, hcs, _, hb, hl, hm, hlen, hel, _, _⟩
  · simp [Value.cells] at hcs
    obtain ⟨rfl, rfl, rfl⟩ := hcs
    exact ⟨[], rfl, fun k hk => absurd hk (Nat.not_lt_zero _), fun _ hx => by (cases hx), fun _ hx => by (cases hx), by simp⟩
  · simp [Value.cells] at hcs
    obtain ⟨rfl, rfl, rfl⟩ := hcs
    unfold maxLen at hm
    rw [hc3] at hel
    have each : ∀ i, i < len → ∃ C : Hk, ∃ ak ck, (W.cell? ((x.add (i * 3)).add 0) = some (.int .i64 C.1) ∧ W.cell? ((x.add (i * 3)).add 1) = some (.int .i64 C.2.1) ∧ W.cell? ((x.add (i * 3)).add 2) = some (.slice ak C.2.2.length ck)) ∧ SS W ak C.2.2 ∧ C.2.2.length ≤ 9223372036854775807 := by
      intro i hi
      have hy := hel i hi
      rw [List.getElem?_eq_getElem (by omega), Option.bind_eq_some_iff] at hy
      obtain ⟨cs', hcs, hy'⟩ := hy
      obtain ⟨hcb, hcl, hce⟩ := World.cells?_some hcs
      obtain ⟨x0, x1, ak, ck, ss, rfl, hS, hn⟩ := openHk hy' (fun q hq => DataW.trod_lt _ _ _ _ hy' q hq)
      refine ⟨(x0, x1, ss), ak, ck, ⟨?_, ?_, ?_⟩, hS, hn⟩
      · rw [hce 0 (by omega)]; rfl
      · rw [hce 1 (by omega)]; rfl
      · rw [hce 2 (by omega)]; rfl
    obtain ⟨f, hf'⟩ : ∃ f : Nat → Hk, ∀ i, i < len → ∃ ak ck, (W.cell? ((x.add (i * 3)).add 0) = some (.int .i64 (f i).1) ∧ W.cell? ((x.add (i * 3)).add 1) = some (.int .i64 (f i).2.1) ∧ W.cell? ((x.add (i * 3)).add 2) = some (.slice ak (f i).2.2.length ck)) ∧ SS W ak (f i).2.2 ∧ (f i).2.2.length ≤ 9223372036854775807 :=
      ⟨fun i => if h : i < len then Classical.choose (each i h) else (0, 0, []), fun i hi => by simp only [dif_pos hi]; exact Classical.choose_spec (each i hi)⟩
    have hget : ∀ k, k < len → ((List.range len).map f).getD k (0, 0, []) = f k := fun k hk => by simp [List.getD, hk]
    have hmem : ∀ y ∈ (List.range len).map f, ∃ k, k < len ∧ y = f k := fun y hy => by
      obtain ⟨k, hk, rfl⟩ := List.mem_map.1 hy
      exact ⟨k, List.mem_range.1 hk, rfl⟩
    obtain ⟨b, off, spot⟩ := x
    refine ⟨(List.range len).map f, by simp, fun k hk => ?_, fun y hy => ?_, fun y hy => ?_, by simp; omega⟩
    · have hk' : k < len := by simpa using hk
      obtain ⟨ak, ck, ⟨c0, c1, c2⟩, hS, _⟩ := hf' k hk'
      rw [hget k hk']
      have hspot : spot = none := by
        obtain ⟨_, _, ⟨c00, _⟩, _⟩ := hf' 0 (by omega)
        have := World.cell?_spot c00
        simpa [Addr.add] using this
      subst hspot
      have hadd : ∀ j, ((⟨b, off, none⟩ : Addr).add (k * 3)).add j = ⟨b, off + k * 3 + j, none⟩ := by
        intro j
        rw [add_plain, add_plain]
      rw [hadd] at c0 c1 c2
      exact ⟨b, off, ak, ck, rfl, cellLt c0, c0, c1, c2, hS.toB⟩
    · obtain ⟨k, hk, rfl⟩ := hmem y hy
      obtain ⟨_, _, _, _, hn⟩ := hf' k hk
      exact hn
    · obtain ⟨k, hk, rfl⟩ := hmem y hy
      obtain ⟨_, _, _, hS, _⟩ := hf' k hk
      exact hS.1
end Go.Proofs.YtdfoponekgifkaaDoor
