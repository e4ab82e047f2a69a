/- Plain mathematics and small laws for this seat's proofs: lists of bytes, digests. No statement is proved here. -/
import Derived.WalkKit
import Derived.ProofKit
import Derived.Below
import Derived.Lib.Bytealg
import Derived.Test.YtkgcpndnlefkoaaGreatDoorRows
import Derived.Deep.QuietTactic
import Derived.BigQuiet
import Derived.WalkSpells
import Derived.SliceStrings
import Derived.Carry
namespace Go.Proofs.YtkgcpndnlefkoaaGreatDoor
open Go.ChangeShapes Go.WideShapes Go.ChangeAt Go.RowKit

theorem ret_int {k : IntKind} {a b : Int} (h : a = b) : Ending.returned (.int k a) = .returned (.int k b) := by rw [h]
theorem ret_bool {a b : Bool} (h : a = b) : Ending.returned (.bool a) = .returned (.bool b) := by rw [h]
theorem take_snoc (s : ByteArray) (k : Nat) (h : k < s.size) : s.data.toList.take (k + 1) = s.data.toList.take k ++ [s[k]] := by
  rw [List.take_succ_eq_append_getElem (by simpa using h)]; rfl
theorem byte_bd (c : UInt8) : 0 ≤ (c.toNat : Int) ∧ (c.toNat : Int) ≤ 255 := by have := c.toNat_lt; omega

theorem bytes_inj2 {a b : ByteArray} (h : a.toList = b.toList) : a = b := by
  rw [ByteArray.toList_eq, ByteArray.toList_eq] at h
  exact WideShapes.bytes_inj h
theorem beq_bytes_false {a b : ByteArray} (h : ¬ a = b) : (a.toList == b.toList) = false := by
  cases e : (a.toList == b.toList) with
  | false => rfl
  | true => exact absurd (bytes_inj2 (by simpa using e)) h
theorem beq_bytes_true {a b : ByteArray} (h : a = b) : (a.toList == b.toList) = true := by rw [h]; simp
/-- The digest of a list of bytes, as the document tells it. -/
def dig (l : List UInt8) : Int := l.foldl (fun h c => (h * 131 + (c.toNat : Int)) % 65521) 7
theorem dig_bd_from (l : List UInt8) : ∀ h : Int, 0 ≤ h → h < 65521 → 0 ≤ l.foldl (fun h c => (h * 131 + (c.toNat : Int)) % 65521) h ∧ l.foldl (fun h c => (h * 131 + (c.toNat : Int)) % 65521) h < 65521 := by
  induction l with
  | nil => intro h a b; exact ⟨a, b⟩
  | cons c l ih => intro h a b; rw [List.foldl_cons]; exact ih _ (by omega) (by omega)
theorem dig_bd (l : List UInt8) : 0 ≤ dig l ∧ dig l < 65521 := dig_bd_from l 7 (by omega) (by omega)
theorem dig_snoc (l : List UInt8) (c : UInt8) : dig (l ++ [c]) = (dig l * 131 + (c.toNat : Int)) % 65521 := by
  unfold dig; rw [List.foldl_append]; rfl
/-- Where a byte is first found: not below 0 just where the list has it. -/
theorem indexByte_mem (l : List UInt8) (c : UInt8) : 0 ≤ Lib.indexByte l c ↔ c ∈ l := by
  induction l with
  | nil => simp [Lib.indexByte]
  | cons b l ih =>
    have hg := Lib.indexByte_ge l c
    unfold Lib.indexByte
    by_cases hb : (b == c) = true
    · have : b = c := by simpa using hb
      simp [this]
    · have hne : ¬ c = b := by intro h; exact hb (by simp [h])
      have hb' : (b == c) = false := by simpa using hb
      simp only [hb', Bool.false_eq_true, if_false, List.mem_cons, hne, false_or, ← ih]
      by_cases h1 : (Lib.indexByte l c == -1) = true
      · have : Lib.indexByte l c = -1 := by simpa using h1
        simp [this]
      · have h2 : ¬ Lib.indexByte l c = -1 := by simpa using h1
        simp only [h1, if_false, Bool.false_eq_true]
        omega
end Go.Proofs.YtkgcpndnlefkoaaGreatDoor
/- Contracts of the laws' helpers over lists of strings (szStringS, toStringS, eqStringS) over this seat's program. No statement is proved here. -/
namespace Go.Proofs.YtkgcpndnlefkoaaGreatDoor
open Go.ChangeShapes Go.WideShapes Go.ChangeAt Go.RowKit

/-- A slice at address 'a' whose elements are the strings 'ss'. -/
def SS (w : World) (a : Option Addr) (ss : List ByteArray) : Prop :=
  (∀ k, k < ss.length → (ss.getD k ByteArray.empty).size ≤ 9223372036854775807) ∧
  ∀ k, k < ss.length → ∃ b off, a = some ⟨b, off, none⟩ ∧ b < w.heap.size ∧ w.cell? ⟨b, off + k, none⟩ = some (.string (ss.getD k ByteArray.empty))
theorem SS.below {w w' : World} {a : Option Addr} {ss : List ByteArray} (h : SS w a ss) (hb : Below w.heap.size w w') : SS w' a ss :=
  ⟨h.1, fun k hk => by
    obtain ⟨b, off, e, hlt, hc⟩ := h.2 k hk
    exact ⟨b, off, e, Nat.lt_of_lt_of_le hlt hb.size, (hb.cell (p := ⟨b, off + k, none⟩) hlt).trans hc⟩⟩
theorem SS.below' {w w' : World} {a : Option Addr} {ss : List ByteArray} {n : Nat} (h : SS w a ss) (hb : Below (w.drewN n).heap.size (w.drewN n) w') : SS w' a ss := SS.below (w := w.drewN n) h hb
theorem below_drewN' {B : Nat} {a w : World} (h : Below B a w) (n : Nat) : Below B a (w.drewN n) := h.trans ⟨rfl, rfl, rfl, Nat.le_refl _, fun _ _ => rfl⟩
theorem below_step {B : Nat} {a w w' : World} (h : Below B a w) (hB : B ≤ w.heap.size) (k : Below w.heap.size w w') : Below B a w' := h.trans (k.mono hB)
theorem SS.drewN {w : World} {a : Option Addr} {ss : List ByteArray} (h : SS w a ss) (n : Nat) : SS (w.drewN n) a ss := h

theorem getD_at (ss : List ByteArray) (k : Nat) (h : k < ss.length) : ss.getD k ByteArray.empty = ss[k] := by simp [List.getD, h]
/-- The bytes of all strings together. -/
def tot (ss : List ByteArray) : Int := (ss.map fun s => (s.size : Int)).sum
theorem tot_nonneg (ss : List ByteArray) : 0 ≤ tot ss := by
  unfold tot
  induction ss with
  | nil => simp
  | cons s ss ih => simp only [List.map_cons, List.sum_cons]; omega
theorem tot_take (ss : List ByteArray) (k : Nat) (h : k < ss.length) : tot (ss.take (k + 1)) = tot (ss.take k) + ((ss.getD k ByteArray.empty).size : Int) := by
  unfold tot
  rw [List.take_succ_eq_append_getElem h, List.map_append, List.sum_append, getD_at ss k h]
  simp
theorem tot_split (ss : List ByteArray) (k : Nat) : tot ss = tot (ss.take k) + tot (ss.drop k) := by
  unfold tot
  conv => lhs; rw [← List.take_append_drop k ss]
  rw [List.map_append, List.sum_append]
theorem tot_take_le (ss : List ByteArray) (k : Nat) : tot (ss.take k) ≤ tot ss := by
  have h1 := tot_split ss k
  have h2 := tot_nonneg (ss.drop k)
  omega
def left (l : Int) (ss : List ByteArray) : Int := if l - ss.length - tot ss < 0 then -1 else l - ss.length - tot ss

theorem infoString : (Tryz.prog.info? 9).map (fun i => (i.zero, i.size, i.bytes)) = some (some (.string ByteArray.empty), 1, 16) := by kernel_rfl

/-- What toStringS has copied behind k rounds. -/
def cop (ss : List ByteArray) (k : Nat) : List Value := (ss.take k).map Value.string ++ List.replicate (ss.length - k) (.string ByteArray.empty)
theorem cop_zero (ss : List ByteArray) : cop ss 0 = List.replicate ss.length (.string ByteArray.empty) := by simp [cop]
theorem cop_full (ss : List ByteArray) : cop ss ss.length = ss.map Value.string := by simp [cop]
theorem cop_set (ss : List ByteArray) (k : Nat) (h : k < ss.length) : (cop ss k).set k (.string (ss.getD k ByteArray.empty)) = cop ss (k + 1) := by
  unfold cop
  rw [List.take_succ_eq_append_getElem h, getD_at ss k h, List.map_append, List.append_assoc, List.set_append_right _ _ (by simp; omega)]
  congr 1
  have e : ss.length - k = (ss.length - (k + 1)) + 1 := by omega
  have hk : k - (List.map Value.string (List.take k ss)).length = 0 := by simp; omega
  rw [hk, e, List.replicate_succ]
  rfl

theorem SS_of_owns {w w' : World} {g : Nat} {cap : Nat} {ss : List ByteArray} (h : w'.ownsRow w.heap.size 9 1 (.slice (some ⟨g, 0, none⟩) ss.length cap) ss.length (ss.map Value.string)) (hg : g < w'.heap.size)
    (hz : ∀ k, k < ss.length → (ss.getD k ByteArray.empty).size ≤ 9223372036854775807) : SS w' (some ⟨g, 0, none⟩) ss :=
  ⟨hz, fun k hk => ⟨g, 0, rfl, hg, by
    rw [Nat.zero_add, h.cellAt k (by omega), getD_at ss k hk]; simp [hk]⟩⟩
theorem size_of_owns {w' : World} {base g n cap : Nat} {e : TypeId} {xs : List Value} (h : w'.ownsRow base e 1 (.slice (some ⟨g, 0, none⟩) n cap) n xs) : g < w'.heap.size := by
  rcases h.2 with ⟨h', _⟩ | ⟨g', cap', cur, h', _, hg, _⟩
  · simp at h'
  · simp only [Value.slice.injEq, Option.some.injEq, Addr.mk.injEq, and_true, true_and] at h'
    obtain ⟨rfl, rfl⟩ := h'
    exact (Array.getElem?_eq_some_iff.1 hg).1
/-- Two lists of strings, compared string by string up to k. -/
def sameTo (xs ys : List ByteArray) (k : Nat) : Prop := ∀ i, i < k → xs.getD i ByteArray.empty = ys.getD i ByteArray.empty
theorem sameTo_succ {xs ys : List ByteArray} {k : Nat} (h : sameTo xs ys k) (e : xs.getD k ByteArray.empty = ys.getD k ByteArray.empty) : sameTo xs ys (k + 1) := by
  intro i hi
  by_cases h' : i = k
  · rw [h']; exact e
  · exact h i (by omega)
theorem eq_of_sameTo {xs ys : List ByteArray} (hl : xs.length = ys.length) (h : sameTo xs ys xs.length) : xs = ys := by
  apply List.ext_getElem hl
  intro i h1 h2
  have := h i h1
  rwa [getD_at xs i h1, getD_at ys i h2] at this
def eqB (xs ys : List ByteArray) : Bool := decide (xs = ys)
theorem eqB_self (xs : List ByteArray) : eqB xs xs = true := decide_eq_true rfl
theorem left_ge {l : Int} {ss : List ByteArray} (h : ¬ left l ss < 0) : left l ss = l - ss.length - tot ss ∧ 0 ≤ l - ss.length - tot ss ∧ ss.length ≤ l := by
  have ht := tot_nonneg ss
  unfold left at h ⊢
  by_cases h' : l - ss.length - tot ss < 0
  · rw [if_pos h'] at h; omega
  · rw [if_neg h']; exact ⟨rfl, by omega, by omega⟩

/-- The contract of a function that compares two lists of strings, one by one. -/
def Eqs (f : FuncId) : Prop := ∀ (a1 a2 : Option Addr) (c1 c2 : Nat) (xs ys : List ByteArray) (w : World), SS w a1 xs → SS w a2 ys → xs.length ≤ 1048576 → ys.length ≤ 1048576 →
    Calls Tryz.prog f #[.slice a1 xs.length c1, .slice a2 ys.length c2] w fun e w' => e = .returned (.bool (eqB xs ys)) ∧ ∃ n, w' = w.drewN n

/-- An argument that is a list of strings, opened. -/
theorem openSS {H : Type} {enc : TypeId × Value → H} {W : World} {a : Option Addr} {len cap : Nat} {d : DataW H} {p : List MemPlace}
    (h : DataW.Trod enc Tryz.prog W 0 (fun _ => true) true 39 (.slice a len cap) d p) (hlt : ∀ x ∈ p, x.block < W.heap.size) :
    ∃ ss : List ByteArray, len = ss.length ∧ SS W a ss ∧ ss.length ≤ 9223372036854775807 := by
  obtain ⟨fuel, hf⟩ := h
  rcases open_strings Tryz.underlying39 Tryz.underlying9 (by kernel_rfl) hf with ⟨hcs, _⟩ | ⟨x, l, c, ss, hcs, _, hl, hm, hz, hx, hcell, hws⟩
  · simp [Value.cells] at hcs
    obtain ⟨rfl, rfl, rfl⟩ := hcs
    exact ⟨[], rfl, ⟨fun k hk => absurd hk (Nat.not_lt_zero _), fun k hk => absurd hk (Nat.not_lt_zero _)⟩, by simp⟩
  · simp [Value.cells] at hcs
    obtain ⟨rfl, rfl, rfl⟩ := hcs
    simp only [if_true] at hz
    simp only [Prod.mk.injEq] at hx
    obtain ⟨rfl, rfl⟩ := hx
    unfold maxLen at hm
    have hlen : (ss.take len).length = len := by simp; omega
    have hget : ∀ k, k < len → (ss.take len).getD k ByteArray.empty = ss.getD k ByteArray.empty := by
      intro k hk
      simp [List.getD, hk]
    refine ⟨ss.take len, hlen.symm, ⟨fun k hk => ?_, fun k hk => ?_⟩, by omega⟩
    · rw [hlen] at hk
      rw [hget k hk, getD_at ss k (by omega)]
      have := hws ss[k] (List.getElem_mem _)
      unfold maxLen at this
      exact this
    · rw [hlen] at hk
      have hc := hcell k (by omega)
      obtain ⟨b, off, spot⟩ := x
      have hspot : spot = none := by simpa [Addr.add] using World.cell?_spot (hcell 0 (by omega))
      subst hspot
      refine ⟨b, off, rfl, ?_, ?_⟩
      · exact hlt (.cell b (off + k)) (MemPlace.mem_row.2 ⟨k, by omega, by simp⟩)
      · rw [hget k hk, ← add_plain]
        exact hc
end Go.Proofs.YtkgcpndnlefkoaaGreatDoor
