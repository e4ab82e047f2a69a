/- A code of bytes with one byte ahead of it; a code that came in, opened. No statement is proved here. -/
import Derived.Test.YtbmokagmpdgidaaRows
import Derived.Test.YtbmokagmpdgidaaLem
import Derived.Test.YtbmokagmpdgidaaStrs
import Derived.Test.YtbmokagmpdgidaaMarks
import Derived.Test.YtbmokagmpdgidaaDraw
import Derived.Test.YtbmokagmpdgidaaDraw2
import Derived.Test.YtbmokagmpdgidaaDraw5
import Derived.Test.YtbmokagmpdgidaaDraw7
import Derived.WalkKit
import Derived.ProofKit
import Derived.Below
import Derived.WalkSpells
import Derived.Carry
import Derived.Maps.AppendAt
import Derived.Laws.AppendOwnNone
namespace Go.Proofs.Ytbmokagmpdgidaa
open Go.ChangeShapes Go.WideShapes Go.ChangeAt Go.RowKit

/-- An argument that is a code of bytes, opened: a nil one has no capacity. -/
theorem openBtsN {H : Type} {enc : TypeId × Value → H} {W : World} {a : Option Addr} {len cap : Nat} {d : DataW H} {p : List MemPlace}
    (h : DataW.Trod enc Try.prog W 0 (fun _ => true) true 22 (.slice a len cap) d p) (hlt : ∀ x ∈ p, x.block < W.heap.size) :
    Bts W a len ∧ (a = none → cap = 0) ∧ len ≤ 9223372036854775807 := by
  have h1 := openBts h hlt
  refine ⟨h1.1, fun e => ?_, h1.2⟩
  obtain ⟨fuel, hf⟩ := h
  rcases open_ints Try.underlying22 Try.underlying5 (by kernel_rfl) hf with ⟨hcs, _⟩ | ⟨x, l, c, zs, hcs, _⟩
  · simp [Value.cells] at hcs
    exact hcs.2.2
  · simp [Value.cells] at hcs
    rw [e] at hcs
    cases hcs.1
theorem infoByte : (Try.prog.info? 5).map (fun i => (i.zero, i.size, i.bytes)) = some (some (.int .u8 0), 1, 1) := by kernel_rfl
theorem wpList_appB {W : World} {ops : Array Oper} {rest : List Oper} {o : Oper} {a : Act} {Q : Exit → Act → World → Prop} (hgd : o.guard = none) (s x : Operand)
    (ho : o.op = .call { callee := .builtin .append, args := #[s, x], argTypes := #[22, 22] })
    (hs : a.eval s = .slice (some ⟨W.heap.size, 0, none⟩) 1 1) (ax : Option Addr) (n cap : Nat) (hx : a.eval x = .slice ax n cap) (hb : Bts W ax n) (hnil : ax = none → cap = 0) (hn : n ≤ 1048576)
    (h : ∀ a' c' w', Bts w' (some a') (n + 1) → Below W.heap.size W w' → wpList Try.prog ops Q rest (a.put o.dst (.slice (some a') (n + 1) c')) w') :
    wpList Try.prog ops Q (o :: rest) a (W.alloc (.cells #[.int .u8 7] 5)) := by
  obtain ⟨i0, hi, hz0, hz1, hz2⟩ := info_parts infoByte
  have hown : (W.alloc (.cells #[.int .u8 7] 5)).ownsRow W.heap.size 5 1 (.slice (some ⟨W.heap.size, 0, none⟩) 1 1) 1 [.int .u8 7] := World.ownsRow_lit W #[.int .u8 7] 1 (Nat.le_refl _) (by decide) rfl
  have bA : Below W.heap.size W (W.alloc (.cells #[.int .u8 7] 5)) := (Below.refl _ _).alloc (Nat.le_refl _) _
  cases ax with
  | none =>
    have e0 : n = 0 := by
      rcases Nat.eq_zero_or_pos n with h0 | h0
      · exact h0
      · obtain ⟨_, _, _, e, _⟩ := hb 0 h0; cases e
    have ec := hnil rfl
    subst e0 ec
    refine wpList_append_own_none hgd s x _ ho W.heap.size _ i0 1 Try.underlying22 hi _ 1 _ hs hown hx ?_
    refine h ⟨W.heap.size, 0, none⟩ 1 _ (fun i hi => ?_) bA
    have : i = 0 := by omega
    subst this
    exact ⟨W.heap.size, 0, 7, rfl, by simp, by simp, by omega, by omega⟩
  | some AD =>
    have each : ∀ i, i < n → ∃ z : Int, W.cell? (AD.add i) = some (.int .u8 z) ∧ AD.block < W.heap.size ∧ 0 ≤ z ∧ z ≤ 255 := by
      intro i hi
      obtain ⟨cb, co, z, e, hlt, hc, h0, h1⟩ := hb i hi
      simp only [Option.some.injEq] at e
      subst e
      exact ⟨z, by rw [add_plain]; exact hc, hlt, h0, h1⟩
    obtain ⟨f, hf⟩ : ∃ f : Nat → Int, ∀ i, i < n → W.cell? (AD.add i) = some (.int .u8 (f i)) ∧ AD.block < W.heap.size ∧ 0 ≤ f i ∧ f i ≤ 255 :=
      ⟨fun i => if hi : i < n then Classical.choose (each i hi) else 0, fun i hi => by simp only [dif_pos hi]; exact Classical.choose_spec (each i hi)⟩
    have hnews : ∀ j u, (((List.range n).map fun i => Value.int .u8 (f i))[j]?) = some u → (W.alloc (.cells #[.int .u8 7] 5)).cell? (AD.add j) = some u := by
      intro j u hj
      have hjn : j < n := by have := (List.getElem?_eq_some_iff.1 hj).1; simpa using this
      have e : u = .int .u8 (f j) := by
        rw [List.getElem?_map, List.getElem?_range hjn] at hj
        simpa using hj.symm
      rw [e]
      obtain ⟨hc, hl, _⟩ := hf j hjn
      have hblk : (AD.add j).block = AD.block := by unfold Addr.add; split <;> rfl
      rw [bA.cell (p := AD.add j) (by rw [hblk]; exact hl)]
      exact hc
    refine wpList_append_own_at _ hgd s x _ ho W.heap.size _ i0 (.int .u8 0) 1 1 Try.underlying22 hi hz0 hz1 hz2 rfl (by decide) _ 1 _ hs hown AD n cap ((List.range n).map fun i => Value.int .u8 (f i)) hx (by simp) hnews (by intro u hu; obtain ⟨i, _, rfl⟩ := List.mem_map.1 hu; rfl) (by unfold maxLen; omega) (by omega) (by simp) ?_
    intro v' w' o1 g1 _ k1
    obtain ⟨j, hj⟩ : ∃ j, v'.ownBlock = some j := by
      rcases k1 with k1 | k1
      · exact ⟨_, k1⟩
      · exact ⟨_, k1⟩
    obtain ⟨g, c, rfl⟩ := own_blk o1 hj
    have hB : Below W.heap.size W w' := bA.grown g1 (by simp) (fun k hk => by rw [ownBlock_slice] at hk; cases hk; exact Nat.le_refl _)
    have e1 : 1 + n = n + 1 := by omega
    rw [e1] at o1 ⊢
    refine h ⟨g, 0, none⟩ c w' (fun i hi => ?_) hB
    have hgl := (o1.lt g rfl).2
    by_cases h0 : i = 0
    · subst h0
      exact ⟨g, 0, 7, rfl, hgl, by rw [o1.cellAt 0 (by omega)]; rfl, by omega, by omega⟩
    · obtain ⟨_, _, b0, b1⟩ := hf (i - 1) (by omega)
      refine ⟨g, 0, f (i - 1), rfl, hgl, ?_, b0, b1⟩
      rw [Nat.zero_add, o1.cellAt i (by omega), List.getElem?_append_right (by simp; omega), List.getElem?_map, List.getElem?_range (by simp; omega)]
      simp
end Go.Proofs.Ytbmokagmpdgidaa
