/- An argument that is a chunk, or a list of chunks, opened. No statement is proved here. -/
import Derived.Test.YtbmokagmpdgidajRows
import Derived.Test.YtbmokagmpdgidajLem
import Derived.Test.YtbmokagmpdgidajStrs
import Derived.Test.YtbmokagmpdgidajDTab
import Derived.Test.YtbmokagmpdgidajFr
import Derived.Test.YtbmokagmpdgidajIn
import Derived.Test.YtbmokagmpdgidajCkL
import Derived.Test.YtbmokagmpdgidajCkN
import Derived.WalkKit
import Derived.ProofKit
import Derived.Deep.Strs
import Derived.SliceStrings
import Derived.Lib.SmallJoins
namespace Go.Proofs.Ytbmokagmpdgidaj
open Go.ChangeShapes Go.WideShapes Go.ChangeAt Go.RowKit

theorem oneAt {cs : List Value} {k : Nat} {v : Value} (h : (cs.drop k).take 1 = [v]) : cs[k]? = some v := by
  have := congrArg (fun l => l[0]?) h
  simpa [List.getElem?_take, List.getElem?_drop] using this
theorem openSlN {H : Type} {enc : TypeId × Value → H} {W : World} {m : Nat} {cs : List Value} {y : DataW H × List MemPlace}
    (t : DataW.trod enc Try.prog W 0 (fun _ => true) true m 35 cs = some y) (hlt : ∀ x ∈ y.2, x.block < W.heap.size) :
    ∃ a cap ss, cs = [.slice a ss.length cap] ∧ SSN W.heap.size W a cap ss ∧ ss.length ≤ 9223372036854775807 := by
  obtain ⟨a, len, cap, e2, hnil⟩ : ∃ a len cap, cs = [.slice a len cap] ∧ (a = none → cap = 0) := by
    rcases open_strings Try.underlying35 Try.underlying9 (by kernel_rfl) t with ⟨hcs, _⟩ | ⟨x, l, c, ss, hcs, _⟩
    · exact ⟨_, _, _, hcs, fun _ => rfl⟩
    · exact ⟨_, _, _, hcs, fun h => by cases h⟩
  obtain ⟨ss, rfl, hS, hn⟩ := openSS (enc := enc) (W := W) (a := a) (len := len) (cap := cap) (d := y.1) (p := y.2) ⟨m, by
    show DataW.trod enc Try.prog W 0 (fun _ => true) true m 35 [.slice a len cap] = some y
    rw [← e2]; exact t⟩ hlt
  exact ⟨a, cap, ss, e2, ⟨hS.toB, hnil⟩, hn⟩
theorem openCk {H : Type} {enc : TypeId × Value → H} {W : World} {n : Nat} {cs : List Value} {y : DataW H × List MemPlace}
    (h : DataW.trod enc Try.prog W 0 (fun _ => true) true n 48 cs = some y) (hlt : ∀ x ∈ y.2, x.block < W.heap.size) :
    ∃ (C : Ck) (a1 a2 a3 : Option Addr) (c1 c2 c3 : Nat), cs = [.int .i64 C.1, .slice a1 C.2.1.length c1, .slice a2 C.2.2.1.length c2, .slice a3 C.2.2.2.length c3] ∧ (SSN W.heap.size W a1 c1 C.2.1 ∧ SSN W.heap.size W a2 c2 C.2.2.1 ∧ SSN W.heap.size W a3 c3 C.2.2.2) ∧ C.2.1.length ≤ 9223372036854775807 ∧ C.2.2.1.length ≤ 9223372036854775807 ∧ C.2.2.2.length ≤ 9223372036854775807 := by
  have hc1 : Try.prog.cellsOf 2 = 1 := by kernel_rfl
  have hc2 : Try.prog.cellsOf 35 = 1 := by kernel_rfl
  have hc3 : Try.prog.cellsOf 48 = 4 := by kernel_rfl
  obtain ⟨y0, y1, y2, y3, m, rfl, hl, t0, t1, t2, t3⟩ := Go.Joins.trod_struct4 Try.underlying48 h
  rw [hc3] at hl
  simp only [hc1] at t0
  simp only [hc2] at t1 t2 t3
  obtain ⟨x0, e0, _, w0⟩ := DataW.trod_int Try.underlying2 t0
  obtain ⟨a1, c1, x1, e1, s1, n1⟩ := openSlN t1 (fun x hx => hlt x (by simp [hx]))
  obtain ⟨a2, c2, x2, e2, s2, n2⟩ := openSlN t2 (fun x hx => hlt x (by simp [hx]))
  obtain ⟨a3, c3, x3, e3, s3, n3⟩ := openSlN t3 (fun x hx => hlt x (by simp [hx]))
  have g0 := oneAt e0
  have g1 := oneAt e1
  have g2 := oneAt e2
  have g3 := oneAt e3
  refine ⟨(x0, x1, x2, x3), a1, a2, a3, c1, c2, c3, ?_, ⟨s1, s2, s3⟩, n1, n2, n3⟩
  match cs, hl with
  | [c0, c1, c2, c3], _ =>
    simp at g0 g1 g2 g3
    rw [g0, g1, g2, g3]
theorem mem_of_lns {l : List Ck} {ss : List ByteArray} (h : ss ∈ lnsAll l) : ∃ c ∈ l, ss = c.2.1 ∨ ss = c.2.2.1 ∨ ss = c.2.2.2 := by
  unfold lnsAll at h
  obtain ⟨c, hc, hs⟩ := List.mem_flatMap.1 h
  exact ⟨c, hc, by simpa using hs⟩
theorem openKB {H : Type} {enc : TypeId × Value → H} {W : World} {a : Option Addr} {len cap : Nat} {d : DataW H} {p : List MemPlace}
    (h : DataW.Trod enc Try.prog W 0 (fun _ => true) true 22 (.slice a len cap) d p) :
    ∃ l : List Ck, len = l.length ∧ KB W.heap.size W a l ∧ LongK l ∧ FitsK l ∧ l.length ≤ 9223372036854775807 := by
  obtain ⟨fuel, hf⟩ := h
  have hc3 : Try.prog.cellsOf 48 = 4 := by kernel_rfl
  rcases DataW.trod_slice Try.underlying22 hf with ⟨hcs, _⟩ | ⟨x, l, c, elems, rest, n, _, hcs, _, hb, hl, hm, hlen, hel, _, _⟩
  · simp [Value.cells] at hcs
    obtain ⟨rfl, rfl, rfl⟩ := hcs
    exact ⟨[], rfl, fun k hk => absurd hk (Nat.not_lt_zero _), fun _ hx => by (cases hx), fun _ hx => by (cases hx), by simp⟩
  · simp [Value.cells] at hcs
    obtain ⟨rfl, rfl, rfl⟩ := hcs
    unfold maxLen at hm
    rw [hc3] at hel
    have each : ∀ i, i < len → ∃ C : Ck, ∃ a1 a2 a3 c1 c2 c3, (W.cell? ((x.add (i * 4)).add 0) = some (.int .i64 C.1) ∧ W.cell? ((x.add (i * 4)).add 1) = some (.slice a1 C.2.1.length c1) ∧ W.cell? ((x.add (i * 4)).add 2) = some (.slice a2 C.2.2.1.length c2) ∧ W.cell? ((x.add (i * 4)).add 3) = some (.slice a3 C.2.2.2.length c3)) ∧ (SSN W.heap.size W a1 c1 C.2.1 ∧ SSN W.heap.size W a2 c2 C.2.2.1 ∧ SSN W.heap.size W a3 c3 C.2.2.2) ∧ C.2.1.length ≤ 9223372036854775807 ∧ C.2.2.1.length ≤ 9223372036854775807 ∧ C.2.2.2.length ≤ 9223372036854775807 := by
      intro i hi
      have hy := hel i hi
      rw [List.getElem?_eq_getElem (by omega), Option.bind_eq_some_iff] at hy
      obtain ⟨cs', hcs, hy'⟩ := hy
      obtain ⟨hcb, hcl, hce⟩ := World.cells?_some hcs
      obtain ⟨C, a1, a2, a3, c1, c2, c3, rfl, hS, hn⟩ := openCk hy' (fun q hq => DataW.trod_lt _ _ _ _ hy' q hq)
      refine ⟨C, a1, a2, a3, c1, c2, c3, ⟨?_, ?_, ?_, ?_⟩, hS, hn⟩
      · rw [hce 0 (by omega)]; rfl
      · rw [hce 1 (by omega)]; rfl
      · rw [hce 2 (by omega)]; rfl
      · rw [hce 3 (by omega)]; rfl
    obtain ⟨f, hf'⟩ : ∃ f : Nat → Ck, ∀ i, i < len → ∃ a1 a2 a3 c1 c2 c3, (W.cell? ((x.add (i * 4)).add 0) = some (.int .i64 (f i).1) ∧ W.cell? ((x.add (i * 4)).add 1) = some (.slice a1 (f i).2.1.length c1) ∧ W.cell? ((x.add (i * 4)).add 2) = some (.slice a2 (f i).2.2.1.length c2) ∧ W.cell? ((x.add (i * 4)).add 3) = some (.slice a3 (f i).2.2.2.length c3)) ∧ (SSN W.heap.size W a1 c1 (f i).2.1 ∧ SSN W.heap.size W a2 c2 (f i).2.2.1 ∧ SSN W.heap.size W a3 c3 (f i).2.2.2) ∧ (f i).2.1.length ≤ 9223372036854775807 ∧ (f i).2.2.1.length ≤ 9223372036854775807 ∧ (f i).2.2.2.length ≤ 9223372036854775807 :=
      ⟨fun i => if h : i < len then Classical.choose (each i h) else cnil, fun i hi => by simp only [dif_pos hi]; exact Classical.choose_spec (each i hi)⟩
    have hget : ∀ k, k < len → ((List.range len).map f).getD k cnil = f k := fun k hk => by simp [List.getD, hk]
    have hmem : ∀ y ∈ (List.range len).map f, ∃ k, k < len ∧ y = f k := fun y hy => by
      obtain ⟨k, hk, rfl⟩ := List.mem_map.1 hy
      exact ⟨k, List.mem_range.1 hk, rfl⟩
    obtain ⟨b, off, spot⟩ := x
    refine ⟨(List.range len).map f, by simp, fun k hk => ?_, fun ss hss => ?_, fun ss hss => ?_, by simp; omega⟩
    · have hk' : k < len := by simpa using hk
      obtain ⟨a1, a2, a3, c1, c2, c3, ⟨e0, e1, e2, e3⟩, ⟨s1, s2, s3⟩, _⟩ := hf' k hk'
      rw [hget k hk']
      have hspot : spot = none := by
        obtain ⟨_, _, _, _, _, _, ⟨c00, _⟩, _⟩ := hf' 0 (by omega)
        have := World.cell?_spot c00
        simpa [Addr.add] using this
      subst hspot
      have hadd : ∀ j, ((⟨b, off, none⟩ : Addr).add (k * 4)).add j = ⟨b, off + k * 4 + j, none⟩ := by
        intro j
        rw [add_plain, add_plain]
      rw [hadd] at e0 e1 e2 e3
      exact ⟨b, off, a1, c1, a2, c2, a3, c3, rfl, cellLt e0, e0, e1, e2, e3, s1, s2, s3⟩
    · obtain ⟨y, hy, hq⟩ := mem_of_lns hss
      obtain ⟨k, hk, rfl⟩ := hmem y hy
      obtain ⟨_, _, _, _, _, _, _, _, n1, n2, n3⟩ := hf' k hk
      rcases hq with rfl | rfl | rfl
      · exact n1
      · exact n2
      · exact n3
    · obtain ⟨y, hy, hq⟩ := mem_of_lns hss
      obtain ⟨k, hk, rfl⟩ := hmem y hy
      obtain ⟨_, _, _, _, _, _, _, ⟨s1, s2, s3⟩, _⟩ := hf' k hk
      rcases hq with rfl | rfl | rfl
      · exact s1.1.1
      · exact s2.1.1
      · exact s3.1.1
end Go.Proofs.Ytbmokagmpdgidaj
