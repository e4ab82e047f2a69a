/- Texts of this claim, laid together: Lem, Strs, Marks, Held, Com, DTab, Own, Fr, In, HkT, LFLem, IdxB. -/
import Derived.WalkKit
import Derived.ProofKit
import Derived.Below
import Derived.Lib.Bytealg
import Derived.Test.YtgidcncmicmggamGreatDoorRows
import Derived.Deep.QuietTactic
import Derived.BigQuiet
import Derived.WalkSpells
import Derived.SliceStrings
import Derived.Carry
import Derived.Laws.Concat
import Derived.Laws.IdiomStrings
import Derived.Deep.RegionWith
import Derived.Lib.SliceRun
/- Plain mathematics and small laws for this seat's proofs: lists of bytes, digests. No statement is proved here. -/
namespace Go.Proofs.YtgidcncmicmggamGreatDoor
open Go.ChangeShapes Go.WideShapes Go.ChangeAt Go.RowKit

theorem ret_int {k : IntKind} {a b : Int} (h : a = b) : Ending.returned (.int k a) = .returned (.int k b) := by rw [h]
theorem ret_bool {a b : Bool} (h : a = b) : Ending.returned (.bool a) = .returned (.bool b) := by rw [h]
theorem take_snoc (s : ByteArray) (k : Nat) (h : k < s.size) : s.data.toList.take (k + 1) = s.data.toList.take k ++ [s[k]] := by
  rw [List.take_succ_eq_append_getElem (by simpa using h)]; rfl
theorem byte_bd (c : UInt8) : 0 ≤ (c.toNat : Int) ∧ (c.toNat : Int) ≤ 255 := by have := c.toNat_lt; omega

theorem bytes_inj2 {a b : ByteArray} (h : a.toList = b.toList) : a = b := by
  rw [ByteArray.toList_eq, ByteArray.toList_eq] at h
  exact WideShapes.bytes_inj h
theorem beq_bytes_false {a b : ByteArray} (h : ¬ a = b) : (a.toList == b.toList) = false := by
  cases e : (a.toList == b.toList) with
  | false => rfl
  | true => exact absurd (bytes_inj2 (by simpa using e)) h
theorem beq_bytes_true {a b : ByteArray} (h : a = b) : (a.toList == b.toList) = true := by rw [h]; simp
/-- The digest of a list of bytes, as the document tells it. -/
def dig (l : List UInt8) : Int := l.foldl (fun h c => (h * 131 + (c.toNat : Int)) % 65521) 7
theorem dig_bd_from (l : List UInt8) : ∀ h : Int, 0 ≤ h → h < 65521 → 0 ≤ l.foldl (fun h c => (h * 131 + (c.toNat : Int)) % 65521) h ∧ l.foldl (fun h c => (h * 131 + (c.toNat : Int)) % 65521) h < 65521 := by
  induction l with
  | nil => intro h a b; exact ⟨a, b⟩
  | cons c l ih => intro h a b; rw [List.foldl_cons]; exact ih _ (by omega) (by omega)
theorem dig_bd (l : List UInt8) : 0 ≤ dig l ∧ dig l < 65521 := dig_bd_from l 7 (by omega) (by omega)
theorem dig_snoc (l : List UInt8) (c : UInt8) : dig (l ++ [c]) = (dig l * 131 + (c.toNat : Int)) % 65521 := by
  unfold dig; rw [List.foldl_append]; rfl
/-- Where a byte is first found: not below 0 just where the list has it. -/
theorem indexByte_mem (l : List UInt8) (c : UInt8) : 0 ≤ Lib.indexByte l c ↔ c ∈ l := by
  induction l with
  | nil => simp [Lib.indexByte]
  | cons b l ih =>
    have hg := Lib.indexByte_ge l c
    unfold Lib.indexByte
    by_cases hb : (b == c) = true
    · have : b = c := by simpa using hb
      simp [this]
    · have hne : ¬ c = b := by intro h; exact hb (by simp [h])
      have hb' : (b == c) = false := by simpa using hb
      simp only [hb', Bool.false_eq_true, if_false, List.mem_cons, hne, false_or, ← ih]
      by_cases h1 : (Lib.indexByte l c == -1) = true
      · have : Lib.indexByte l c = -1 := by simpa using h1
        simp [this]
      · have h2 : ¬ Lib.indexByte l c = -1 := by simpa using h1
        simp only [h1, if_false, Bool.false_eq_true]
        omega
end Go.Proofs.YtgidcncmicmggamGreatDoor
/- Contracts of the laws' helpers over lists of strings (szStringS, toStringS, eqStringS) over this seat's program. No statement is proved here. -/
namespace Go.Proofs.YtgidcncmicmggamGreatDoor
open Go.ChangeShapes Go.WideShapes Go.ChangeAt Go.RowKit

/-- A slice at address 'a' whose elements are the strings 'ss'. -/
def SS (w : World) (a : Option Addr) (ss : List ByteArray) : Prop :=
  (∀ k, k < ss.length → (ss.getD k ByteArray.empty).size ≤ 9223372036854775807) ∧
  ∀ k, k < ss.length → ∃ b off, a = some ⟨b, off, none⟩ ∧ b < w.heap.size ∧ w.cell? ⟨b, off + k, none⟩ = some (.string (ss.getD k ByteArray.empty))
theorem SS.below {w w' : World} {a : Option Addr} {ss : List ByteArray} (h : SS w a ss) (hb : Below w.heap.size w w') : SS w' a ss :=
  ⟨h.1, fun k hk => by
    obtain ⟨b, off, e, hlt, hc⟩ := h.2 k hk
    exact ⟨b, off, e, Nat.lt_of_lt_of_le hlt hb.size, (hb.cell (p := ⟨b, off + k, none⟩) hlt).trans hc⟩⟩
theorem SS.below' {w w' : World} {a : Option Addr} {ss : List ByteArray} {n : Nat} (h : SS w a ss) (hb : Below (w.drewN n).heap.size (w.drewN n) w') : SS w' a ss := SS.below (w := w.drewN n) h hb
theorem below_drewN' {B : Nat} {a w : World} (h : Below B a w) (n : Nat) : Below B a (w.drewN n) := h.trans ⟨rfl, rfl, rfl, Nat.le_refl _, fun _ _ => rfl⟩
theorem below_step {B : Nat} {a w w' : World} (h : Below B a w) (hB : B ≤ w.heap.size) (k : Below w.heap.size w w') : Below B a w' := h.trans (k.mono hB)
theorem SS.drewN {w : World} {a : Option Addr} {ss : List ByteArray} (h : SS w a ss) (n : Nat) : SS (w.drewN n) a ss := h

theorem getD_at (ss : List ByteArray) (k : Nat) (h : k < ss.length) : ss.getD k ByteArray.empty = ss[k] := by simp [List.getD, h]
/-- The bytes of all strings together. -/
def tot (ss : List ByteArray) : Int := (ss.map fun s => (s.size : Int)).sum
theorem tot_nonneg (ss : List ByteArray) : 0 ≤ tot ss := by
  unfold tot
  induction ss with
  | nil => simp
  | cons s ss ih => simp only [List.map_cons, List.sum_cons]; omega
theorem tot_take (ss : List ByteArray) (k : Nat) (h : k < ss.length) : tot (ss.take (k + 1)) = tot (ss.take k) + ((ss.getD k ByteArray.empty).size : Int) := by
  unfold tot
  rw [List.take_succ_eq_append_getElem h, List.map_append, List.sum_append, getD_at ss k h]
  simp
theorem tot_split (ss : List ByteArray) (k : Nat) : tot ss = tot (ss.take k) + tot (ss.drop k) := by
  unfold tot
  conv => lhs; rw [← List.take_append_drop k ss]
  rw [List.map_append, List.sum_append]
theorem tot_take_le (ss : List ByteArray) (k : Nat) : tot (ss.take k) ≤ tot ss := by
  have h1 := tot_split ss k
  have h2 := tot_nonneg (ss.drop k)
  omega
def left (l : Int) (ss : List ByteArray) : Int := if l - ss.length - tot ss < 0 then -1 else l - ss.length - tot ss

theorem infoString : (Tryz.prog.info? 9).map (fun i => (i.zero, i.size, i.bytes)) = some (some (.string ByteArray.empty), 1, 16) := by kernel_rfl

/-- What toStringS has copied behind k rounds. -/
def cop (ss : List ByteArray) (k : Nat) : List Value := (ss.take k).map Value.string ++ List.replicate (ss.length - k) (.string ByteArray.empty)
theorem cop_zero (ss : List ByteArray) : cop ss 0 = List.replicate ss.length (.string ByteArray.empty) := by simp [cop]
theorem cop_full (ss : List ByteArray) : cop ss ss.length = ss.map Value.string := by simp [cop]
theorem cop_set (ss : List ByteArray) (k : Nat) (h : k < ss.length) : (cop ss k).set k (.string (ss.getD k ByteArray.empty)) = cop ss (k + 1) := by
  unfold cop
  rw [List.take_succ_eq_append_getElem h, getD_at ss k h, List.map_append, List.append_assoc, List.set_append_right _ _ (by simp; omega)]
  congr 1
  have e : ss.length - k = (ss.length - (k + 1)) + 1 := by omega
  have hk : k - (List.map Value.string (List.take k ss)).length = 0 := by simp; omega
  rw [hk, e, List.replicate_succ]
  rfl

theorem SS_of_owns {w w' : World} {g : Nat} {cap : Nat} {ss : List ByteArray} (h : w'.ownsRow w.heap.size 9 1 (.slice (some ⟨g, 0, none⟩) ss.length cap) ss.length (ss.map Value.string)) (hg : g < w'.heap.size)
    (hz : ∀ k, k < ss.length → (ss.getD k ByteArray.empty).size ≤ 9223372036854775807) : SS w' (some ⟨g, 0, none⟩) ss :=
  ⟨hz, fun k hk => ⟨g, 0, rfl, hg, by
    rw [Nat.zero_add, h.cellAt k (by omega), getD_at ss k hk]; simp [hk]⟩⟩
theorem size_of_owns {w' : World} {base g n cap : Nat} {e : TypeId} {xs : List Value} (h : w'.ownsRow base e 1 (.slice (some ⟨g, 0, none⟩) n cap) n xs) : g < w'.heap.size := by
  rcases h.2 with ⟨h', _⟩ | ⟨g', cap', cur, h', _, hg, _⟩
  · simp at h'
  · simp only [Value.slice.injEq, Option.some.injEq, Addr.mk.injEq, and_true, true_and] at h'
    obtain ⟨rfl, rfl⟩ := h'
    exact (Array.getElem?_eq_some_iff.1 hg).1
/-- Two lists of strings, compared string by string up to k. -/
def sameTo (xs ys : List ByteArray) (k : Nat) : Prop := ∀ i, i < k → xs.getD i ByteArray.empty = ys.getD i ByteArray.empty
theorem sameTo_succ {xs ys : List ByteArray} {k : Nat} (h : sameTo xs ys k) (e : xs.getD k ByteArray.empty = ys.getD k ByteArray.empty) : sameTo xs ys (k + 1) := by
  intro i hi
  by_cases h' : i = k
  · rw [h']; exact e
  · exact h i (by omega)
theorem eq_of_sameTo {xs ys : List ByteArray} (hl : xs.length = ys.length) (h : sameTo xs ys xs.length) : xs = ys := by
  apply List.ext_getElem hl
  intro i h1 h2
  have := h i h1
  rwa [getD_at xs i h1, getD_at ys i h2] at this
def eqB (xs ys : List ByteArray) : Bool := decide (xs = ys)
theorem eqB_self (xs : List ByteArray) : eqB xs xs = true := decide_eq_true rfl
theorem left_ge {l : Int} {ss : List ByteArray} (h : ¬ left l ss < 0) : left l ss = l - ss.length - tot ss ∧ 0 ≤ l - ss.length - tot ss ∧ ss.length ≤ l := by
  have ht := tot_nonneg ss
  unfold left at h ⊢
  by_cases h' : l - ss.length - tot ss < 0
  · rw [if_pos h'] at h; omega
  · rw [if_neg h']; exact ⟨rfl, by omega, by omega⟩

/-- The contract of a function that compares two lists of strings, one by one. -/
def Eqs (f : FuncId) : Prop := ∀ (a1 a2 : Option Addr) (c1 c2 : Nat) (xs ys : List ByteArray) (w : World), SS w a1 xs → SS w a2 ys → xs.length ≤ 1048576 → ys.length ≤ 1048576 →
    Calls Tryz.prog f #[.slice a1 xs.length c1, .slice a2 ys.length c2] w fun e w' => e = .returned (.bool (eqB xs ys)) ∧ ∃ n, w' = w.drewN n

set_option maxHeartbeats 1600000 in
theorem eqStringS : Eqs 66 := by
  intro a1 a2 c1 c2 xs ys w h1 h2 hn hm
  by_cases hl : xs.length = ys.length
  · have hlI : ((xs.length : Int) != (ys.length : Int)) = false := by simp [hl]
    have HL : Hid (xs.length = ys.length) := hl
    clear hl
    go_enter Tryz.func66, Tryz.ntmps66
    go_wp2
    go_loopw [5] (fun i wr => ∃ k : Nat, k ≤ xs.length ∧ i = .int .i64 k ∧ sameTo xs ys k ∧ ∃ n, wr = w.drewN n) (fun i _ => xs.length - (intOf i).toNat)
    case atStart => exact ⟨0, Nat.zero_le _, rfl, fun i hi => absurd hi (Nat.not_lt_zero _), 0, rfl⟩
    case round =>
      obtain ⟨k, hk, rfl, hsm, n, rfl⟩ := hrel
      by_cases hlt : k < xs.length
      · have hlt2 : k < ys.length := by have := HL.out; omega
        obtain ⟨b, off, rfl, hb, hc⟩ := h1.2 k hlt
        obtain ⟨b', off', rfl, hb', hc'⟩ := h2.2 k hlt2
        obtain ⟨s, hse⟩ : ∃ s, s = xs.getD k ByteArray.empty := ⟨_, rfl⟩
        obtain ⟨t, hte⟩ : ∃ t, t = ys.getD k ByteArray.empty := ⟨_, rfl⟩
        rw [← hse] at hc
        rw [← hte] at hc'
        have HS : Hid (s = xs.getD k ByteArray.empty) := hse
        have HT : Hid (t = ys.getD k ByteArray.empty) := hte
        clear hse hte h1 h2
        have q1 : (k : Int) < (xs.length : Int) := by omega
        have q2 : (k : Int) < (ys.length : Int) := by omega
        by_cases hst : s = t
        · have HST : Hid (s = t) := hst
          have hbe := beq_bytes_true hst
          clear hst
          go_wp2
          go_quiet (fail)
          go_wp2
          go_roundw
          case rel => exact ⟨k + 1, by omega, by go_num, sameTo_succ hsm (by rw [← HS.out, ← HT.out]; exact HST.out), _, rfl⟩
          case measure => simp [intOf]; omega
        · have HST : Hid (¬ s = t) := hst
          have hbe := beq_bytes_false hst
          clear hst
          have hE : Hid (eqB xs ys = false) := by
            show decide (xs = ys) = false
            refine decide_eq_false fun e => HST.out ?_
            rw [HS.out, HT.out, e]
          go_wp2
          go_quiet (fail)
          go_wp2
          go_ret
          exact ⟨ret_bool hE.out.symm, n + nq, World.drewN_drewN _ _ _⟩
      · have hE : Hid (eqB xs ys = true) := by
          have e : k = xs.length := by omega
          rw [e] at hsm
          exact decide_eq_true (eq_of_sameTo HL.out hsm)
        go_wp2
        go_ret
        exact ⟨ret_bool hE.out.symm, _, rfl⟩
  · have hlI : ((xs.length : Int) != (ys.length : Int)) = true := by simp; omega
    have hE : Hid (eqB xs ys = false) := by
      show decide (xs = ys) = false
      exact decide_eq_false fun e => hl (by rw [e])
    clear hl
    go_enter Tryz.func66, Tryz.ntmps66
    go_wp2
    go_ret
    exact ⟨ret_bool hE.out.symm, 0, rfl⟩

/-- An argument that is a list of strings, opened. -/
theorem openSS {H : Type} {enc : TypeId × Value → H} {W : World} {a : Option Addr} {len cap : Nat} {d : DataW H} {p : List MemPlace}
    (h : DataW.Trod enc Tryz.prog W 0 (fun _ => true) true 22 (.slice a len cap) d p) (hlt : ∀ x ∈ p, x.block < W.heap.size) :
    ∃ ss : List ByteArray, len = ss.length ∧ SS W a ss ∧ ss.length ≤ 9223372036854775807 := by
  obtain ⟨fuel, hf⟩ := h
  rcases open_strings Tryz.underlying22 Tryz.underlying9 (by kernel_rfl) hf with ⟨hcs, _⟩ | ⟨x, l, c, ss, hcs, _, hl, hm, hz, hx, hcell, hws⟩
  · simp [Value.cells] at hcs
    obtain ⟨rfl, rfl, rfl⟩ := hcs
    exact ⟨[], rfl, ⟨fun k hk => absurd hk (Nat.not_lt_zero _), fun k hk => absurd hk (Nat.not_lt_zero _)⟩, by simp⟩
  · simp [Value.cells] at hcs
    obtain ⟨rfl, rfl, rfl⟩ := hcs
    simp only [if_true] at hz
    simp only [Prod.mk.injEq] at hx
    obtain ⟨rfl, rfl⟩ := hx
    unfold maxLen at hm
    have hlen : (ss.take len).length = len := by simp; omega
    have hget : ∀ k, k < len → (ss.take len).getD k ByteArray.empty = ss.getD k ByteArray.empty := by
      intro k hk
      simp [List.getD, hk]
    refine ⟨ss.take len, hlen.symm, ⟨fun k hk => ?_, fun k hk => ?_⟩, by omega⟩
    · rw [hlen] at hk
      rw [hget k hk, getD_at ss k (by omega)]
      have := hws ss[k] (List.getElem_mem _)
      unfold maxLen at this
      exact this
    · rw [hlen] at hk
      have hc := hcell k (by omega)
      obtain ⟨b, off, spot⟩ := x
      have hspot : spot = none := by simpa [Addr.add] using World.cell?_spot (hcell 0 (by omega))
      subst hspot
      refine ⟨b, off, rfl, ?_, ?_⟩
      · exact hlt (.cell b (off + k)) (MemPlace.mem_row.2 ⟨k, by omega, by simp⟩)
      · rw [hget k hk, ← add_plain]
        exact hc
end Go.Proofs.YtgidcncmicmggamGreatDoor
/- Contracts of the laws' marks (markText, markStringS, heldStringS) over this seat's program. No statement is proved here. -/
namespace Go.Proofs.YtgidcncmicmggamGreatDoor
open Go.ChangeShapes Go.WideShapes Go.ChangeAt Go.RowKit

theorem ret_string {a b : ByteArray} (h : a = b) : Ending.returned (.string a) = .returned (.string b) := by rw [h]
/-- The digits of n ahead of t, in at most f steps. -/
def dgsF : Nat → Nat → ByteArray → ByteArray
  | 0, _, t => t
  | f + 1, n, t => if n = 0 then t else dgsF f (n / 10) (⟨#[(48 + n % 10).toUInt8]⟩ ++ t)
theorem dgsF_zero (f : Nat) (t : ByteArray) : dgsF f 0 t = t := by
  cases f with
  | zero => rfl
  | succ f => rw [dgsF, if_pos rfl]
theorem dgsF_more : ∀ (f g n : Nat) (t : ByteArray), n ≤ f → n ≤ g → dgsF f n t = dgsF g n t := by
  intro f
  induction f with
  | zero =>
    intro g n t hf _
    have : n = 0 := by omega
    subst this
    rw [dgsF_zero, dgsF_zero]
  | succ f ih =>
    intro g n t hf hg
    by_cases h0 : n = 0
    · subst h0; rw [dgsF_zero, dgsF_zero]
    · cases g with
      | zero => omega
      | succ g =>
        rw [dgsF, dgsF, if_neg h0, if_neg h0]
        exact ih g (n / 10) _ (by omega) (by omega)
/-- The digits of n ahead of t. -/
def dgs (n : Nat) (t : ByteArray) : ByteArray := dgsF n n t
theorem dgs_zero (t : ByteArray) : dgs 0 t = t := rfl
theorem dgs_pos (n : Nat) (t : ByteArray) (h : ¬ n = 0) : dgs n t = dgs (n / 10) (⟨#[(48 + n % 10).toUInt8]⟩ ++ t) := by
  unfold dgs
  obtain ⟨m, rfl⟩ : ∃ m, n = m + 1 := ⟨n - 1, by omega⟩
  rw [dgsF, if_neg h]
  exact dgsF_more _ _ _ _ (by omega) (Nat.le_refl _)
/-- The mark of number n. -/
def mtxt (n : Nat) : ByteArray := ⟨#[109]⟩ ++ dgs n ⟨#[]⟩

theorem conv_one (wx : World) (c : Int) (m : Nat) (hcm : c = (m : Int)) (hm : m < 256) :
    (convert 145 9 (.slice (some ⟨wx.heap.size, 0, none⟩) 1 1)).run Tryz.prog (wx.alloc (.cells #[.int .u8 c] 5)) = .ok (.string ⟨#[m.toUInt8]⟩) (wx.alloc (.cells #[.int .u8 c] 5)) := by
  subst hcm
  have e : (m.toUInt8.toNat : Int) = (m : Int) := by
    have : m.toUInt8.toNat = m % 256 := by simp
    omega
  refine run_convert_bytes_back _ 145 9 5 ⟨wx.heap.size, 0, none⟩ 1 [m.toUInt8] Tryz.underlying145 Tryz.underlying5 Tryz.underlying9 ?_
  intro j hj
  have : j = 0 := by simp at hj; omega
  subst this
  show _ = some (Value.int .u8 (m.toUInt8.toNat : Int))
  rw [e]
  simp [Addr.add]

set_option maxHeartbeats 1000000 in
theorem markText (n : Nat) (h1 : 1 ≤ n) (h2 : n ≤ 4194304) (w : World) :
    Calls Tryz.prog 49 #[.int .i64 n] w fun e w' => e = .returned (.string (mtxt n)) ∧ Below w.heap.size w w' := by
  go_enter Tryz.func49, Tryz.ntmps49
  go_wp2
  go_loopw [0, 3] (fun i t wr => ∃ (k : Nat) (s : ByteArray), i = .int .i64 k ∧ t = .string s ∧ s.size + k ≤ n ∧ Hid (dgs n ⟨#[]⟩ = dgs k s) ∧ Below w.heap.size w wr) (fun i _ _ => (intOf i).toNat)
  case atStart => exact ⟨n, ⟨#[]⟩, rfl, rfl, by simp [ByteArray.size], rfl, Below.refl _ _⟩
  case round =>
    obtain ⟨k, s, rfl, rfl, hsz, hd, hb⟩ := hrel
    by_cases h0 : k = 0
    · have h0' : ¬ (0 : Int) < (k : Int) := by omega
      have hd2 : Hid (dgs n ⟨#[]⟩ = s) := by show _ = s; rw [hd.out, h0, dgs_zero]
      clear h0 hd
      go_wp2
      go_ret
      exact ⟨ret_string (by unfold mtxt; rw [hd2.out]), hb⟩
    · have h0' : (0 : Int) < (k : Int) := by omega
      have hd2 : Hid (dgs n ⟨#[]⟩ = dgs (k / 10) (⟨#[(48 + k % 10).toUInt8]⟩ ++ s)) := by show _ = _; rw [hd.out, dgs_pos k s h0]
      have hcv := fun wx => conv_one wx (48 + (k : Int) % 10) (48 + k % 10) (by omega) (by omega)
      have hsz2 : (⟨#[(48 + k % 10).toUInt8]⟩ ++ s : ByteArray).size = 1 + s.size := by rw [ByteArray.size_append]; rfl
      obtain ⟨d, hde⟩ : ∃ d, (⟨#[(48 + k % 10).toUInt8]⟩ : ByteArray) = d := ⟨_, rfl⟩
      have hd1 : d.size = 1 := by rw [← hde]; rfl
      rw [hde] at hcv hd2 hsz2
      have HSZ : Hid ((d ++ s).size = 1 + s.size) := hsz2
      clear hd hde hsz2
      go_wp2
      go_roundw
      case rel =>
        refine ⟨k / 10, d ++ s, ?_, rfl, ?_, hd2, hb.alloc hb.size _⟩
        · go_num
        · rw [HSZ.out]; omega
      case measure => simp [intOf]; omega

theorem grown_of_below {w w' : World} (h : Below w.heap.size w w') (row : Option Nat) : w.grownBy w' row := ⟨h.os, h.tape, h.output, h.size, fun k hk _ => h.block k hk⟩
theorem grown_trans {a b c : World} {row : Option Nat} (h : a.grownBy b row) (k : b.grownBy c row) : a.grownBy c row :=
  ⟨k.os.trans h.os, k.tape.trans h.tape, k.output.trans h.output, Nat.le_trans h.size k.size, fun i hi hne => (k.block i (Nat.lt_of_lt_of_le hi h.size) hne).trans (h.block i hi hne)⟩
theorem mtxt_size (n : Nat) (h : n ≤ 4194304) : (mtxt n).size ≤ 9223372036854775807 := by
  have key : ∀ m k (s : ByteArray), k ≤ m → (dgs k s).size ≤ s.size + k := by
    intro m
    induction m with
    | zero => intro k s hk; have : k = 0 := by omega
              subst this; rw [dgs_zero]; omega
    | succ m ih =>
      intro k s hk
      by_cases h0 : k = 0
      · subst h0; rw [dgs_zero]; omega
      · rw [dgs_pos k s h0]
        have := ih (k / 10) (⟨#[(48 + k % 10).toUInt8]⟩ ++ s) (by omega)
        have e : (⟨#[(48 + k % 10).toUInt8]⟩ ++ s : ByteArray).size = 1 + s.size := by rw [ByteArray.size_append]; rfl
        omega
  have := key n n ⟨#[]⟩ (Nat.le_refl _)
  have e : (⟨#[]⟩ : ByteArray).size = 0 := rfl
  have e2 : (⟨#[109]⟩ : ByteArray).size = 1 := rfl
  unfold mtxt
  rw [ByteArray.size_append]
  omega

/-- The marks from m on, n of them. -/
def marks (m n : Nat) : List ByteArray := (List.range n).map fun i => mtxt (m + i)
theorem marks_length (m n : Nat) : (marks m n).length = n := by simp [marks]
theorem marks_at (m n k : Nat) (h : k < n) : (marks m n).getD k ByteArray.empty = mtxt (m + k) := by
  rw [getD_at _ k (by rw [marks_length]; exact h)]; simp [marks]
theorem marks_snoc (m n : Nat) : marks m (n + 1) = marks m n ++ [mtxt (m + n)] := by simp [marks, List.range_succ]
theorem marks_small (m n : Nat) (h : m + n ≤ 4194304) : ∀ k, k < (marks m n).length → ((marks m n).getD k ByteArray.empty).size ≤ 9223372036854775807 := by
  intro k hk
  rw [marks_length] at hk
  rw [marks_at m n k hk]
  exact mtxt_size _ (by omega)
def mixed (xs : List Value) (m k : Nat) : List Value := (marks m k).map Value.string ++ xs.drop k
theorem mixed_set (xs : List Value) (m k : Nat) (h : k < xs.length) : (mixed xs m k).set k (.string (mtxt (m + k))) = mixed xs m (k + 1) := by
  unfold mixed
  rw [marks_snoc, List.map_append, List.append_assoc, List.set_append_right _ _ (by simp [marks_length])]
  congr 1
  simp only [List.length_map, marks_length, Nat.sub_self]
  rw [List.drop_eq_getElem_cons h]
  rfl

set_option maxHeartbeats 1000000 in
theorem markStringS (base : Nat) (a : Option Addr) (n cap m : Nat) (xs : List Value) (w : World) (h1 : 1 ≤ m) (h2 : m + n ≤ 4194304)
    (ho : w.ownsRow base 9 1 (.slice a n cap) n xs) :
    Calls Tryz.prog 67 #[.slice a n cap, .int .i64 m] w fun e w' => e = .returned (.int .i64 ((m + n : Nat) : Int)) ∧
      w'.ownsRow base 9 1 (.slice a n cap) n ((marks m n).map Value.string) ∧ w.grownBy w' (Value.slice a n cap).ownBlock := by
  have hxl : xs.length = n := by have := ho.1; omega
  go_enter Tryz.func67, Tryz.ntmps67
  go_wp2
  go_loopw [1, 5] (fun t i wr => ∃ k : Nat, k ≤ n ∧ i = .int .i64 k ∧ t = .int .i64 ((m + k : Nat) : Int) ∧ wr.ownsRow base 9 1 (.slice a n cap) n (mixed xs m k) ∧ w.grownBy wr (Value.slice a n cap).ownBlock) (fun _ i _ => n - (intOf i).toNat)
  case atStart => exact ⟨0, Nat.zero_le _, rfl, rfl, by simpa [mixed, marks] using ho, World.grownBy.refl _ _⟩
  case round =>
    obtain ⟨k, hk, rfl, rfl, hor, hgr⟩ := hrel
    by_cases hlt : k < n
    · obtain ⟨g, rfl⟩ : ∃ g, a = some ⟨g, 0, none⟩ := by
        rcases hor.2 with ⟨h', h0⟩ | ⟨g, c, cur, h', _⟩
        · omega
        · simp only [Value.slice.injEq] at h'; exact ⟨g, h'.1⟩
      have hM := fun w => markText (m + k) (by omega) (by omega) w
      have hst := mixed_set xs m k (by omega)
      obtain ⟨t, hte⟩ : ∃ t, mtxt (m + k) = t := ⟨_, rfl⟩
      rw [hte] at hM hst
      have hlen : (mixed xs m k).length = n := by have := hor.1; omega
      go_wp2_with fail
      refine (hM _).mono ?_; rintro e w1 ⟨rfl, hb1⟩
      have hor1 := hor.kept (grown_of_below hb1 none) (by
        rcases h : (Value.slice (some ⟨g, 0, none⟩) n cap).ownBlock with _ | j
        · exact .inl rfl
        · exact .inr (by simp))
      have hfz := hor1.frozenAt k
      have hold : w1.cell? ⟨g, k, none⟩ = some ((mixed xs m k).getD k (.string ByteArray.empty)) := by
        rw [hor1.cellAt k (by omega), List.getD, List.getElem?_eq_getElem (by omega)]; rfl
      obtain ⟨hs1, hs2⟩ := hor1.stored k (.string t)
      rw [hst] at hs1
      have hgr2 : w.grownBy (w1.setCell ⟨g, k, none⟩ (.string t)) (Value.slice (some ⟨g, 0, none⟩) n cap).ownBlock := grown_trans (grown_trans hgr (grown_of_below hb1 _)) hs2
      clear hor1 hor hgr hb1 hs2 hst
      go_wp2
      go_roundw
      case rel => exact ⟨k + 1, by omega, by go_num, by go_num, hs1, hgr2⟩
      case measure => simp [intOf]; omega
    · have e : k = n := by omega
      subst e
      have hfull : wr.ownsRow base 9 1 (.slice a k cap) k ((marks m k).map Value.string) := by
        have : mixed xs m k = (marks m k).map Value.string := by unfold mixed; rw [List.drop_of_length_le (by omega), List.append_nil]
        rwa [this] at hor
      clear hor
      go_wp2
      go_ret
      exact ⟨rfl, hfull, hgr⟩
end Go.Proofs.YtgidcncmicmggamGreatDoor
/- The contract of the laws' heldStringS over this seat's program. No statement is proved here. -/
namespace Go.Proofs.YtgidcncmicmggamGreatDoor
open Go.ChangeShapes Go.WideShapes Go.ChangeAt Go.RowKit

set_option maxHeartbeats 2000000 in
theorem heldStringS (a : Option Addr) (n cap m : Nat) (w : World) (h1 : 1 ≤ m) (h2 : m + n ≤ 4194304) (hs : SS w a (marks m n)) :
    Calls Tryz.prog 68 #[.slice a n cap, .int .i64 m] w fun e w' => e = .returned (.int .i64 ((m + n : Nat) : Int)) ∧ Below w.heap.size w w' := by
  go_enter Tryz.func68, Tryz.ntmps68
  go_wp2
  go_loopw [1, 5] (fun t i wr => ∃ k : Nat, k ≤ n ∧ i = .int .i64 k ∧ t = .int .i64 ((m + k : Nat) : Int) ∧ Below w.heap.size w wr) (fun _ i _ => n - (intOf i).toNat)
  case atStart => exact ⟨0, Nat.zero_le _, rfl, rfl, Below.refl _ _⟩
  case round =>
    obtain ⟨k, hk, rfl, rfl, hbr⟩ := hrel
    by_cases hlt : k < n
    · obtain ⟨b, off, rfl, hb, hc⟩ := hs.2 k (by rw [marks_length]; exact hlt)
      have hc' := (hbr.cell (p := ⟨b, off + k, none⟩) hb).trans hc
      rw [marks_at m n k hlt] at hc'
      have hM := fun w => markText (m + k) (by omega) (by omega) w
      have hbw : b < wr.heap.size := Nat.lt_of_lt_of_le hb hbr.size
      obtain ⟨t, hte⟩ : ∃ t, mtxt (m + k) = t := ⟨_, rfl⟩
      rw [hte] at hM hc'
      have hbe := beq_bytes_true (rfl : t = t)
      have q1 : (k : Int) < (n : Int) := by omega
      clear hc hs
      go_wp2
      go_region_with (go_at_call 49; refine (hM _).mono ?_; rintro e w1 ⟨rfl, hb1⟩; have hc1 := (hb1.cell (p := ⟨b, off + k, none⟩) hbw).trans hc')
      all_goals
        go_wp2
        go_roundw
        case rel => exact ⟨k + 1, by omega, by go_num, by go_num, hbr.drew.trans (hb1.mono hbr.size)⟩
        case measure => simp [intOf]; omega
    · have e : k = n := by omega
      subst e
      go_wp2
      go_ret
      exact ⟨rfl, hbr⟩
end Go.Proofs.YtgidcncmicmggamGreatDoor
/- The longest common choice of two lists of lines, the walk that chooses it, and the changes between: plain lemmas on lists. No statement is proved here. -/
namespace Go.Proofs.YtgidcncmicmggamGreatDoor

/-- How many lines may be chosen of both. -/
def com : List ByteArray → List ByteArray → Nat
  | [], _ => 0
  | _ :: _, [] => 0
  | x :: xs, y :: ys => if x = y then com xs ys + 1 else max (com xs (y :: ys)) (com (x :: xs) ys)
  termination_by xs ys => xs.length + ys.length
theorem com_nil_left (ys : List ByteArray) : com [] ys = 0 := by rw [com]
theorem com_nil_right (xs : List ByteArray) : com xs [] = 0 := by cases xs <;> rw [com]
theorem com_eq (x : ByteArray) (xs ys : List ByteArray) : com (x :: xs) (x :: ys) = com xs ys + 1 := by rw [com, if_pos rfl]
theorem com_ne {x y : ByteArray} (xs ys : List ByteArray) (h : ¬ x = y) : com (x :: xs) (y :: ys) = max (com xs (y :: ys)) (com (x :: xs) ys) := by rw [com, if_neg h]

/-- One line more, on either side, is worth nothing or one. -/
theorem com_bounds : ∀ (n : Nat) (xs ys : List ByteArray), xs.length + ys.length ≤ n →
    (∀ x, com xs ys ≤ com (x :: xs) ys ∧ com (x :: xs) ys ≤ com xs ys + 1) ∧ (∀ y, com xs ys ≤ com xs (y :: ys) ∧ com xs (y :: ys) ≤ com xs ys + 1) := by
  intro n
  induction n with
  | zero =>
    intro xs ys h
    have hx : xs = [] := List.length_eq_zero_iff.1 (by omega)
    have hy : ys = [] := List.length_eq_zero_iff.1 (by omega)
    subst hx hy
    simp [com_nil_left, com_nil_right]
  | succ n ih =>
    intro xs ys h
    refine ⟨fun x => ?_, fun y => ?_⟩
    · cases ys with
      | nil => simp [com_nil_right]
      | cons y ys =>
        have hl : xs.length + ys.length ≤ n := by simp only [List.length_cons] at h; omega
        have i1 := (ih xs ys hl).2 y
        have i2 := (ih xs ys hl).1 x
        by_cases e : x = y
        · subst e; rw [com_eq]; omega
        · rw [com_ne xs ys e]; omega
    · cases xs with
      | nil => simp [com_nil_left]
      | cons x xs =>
        have hl : xs.length + ys.length ≤ n := by simp only [List.length_cons] at h; omega
        have i1 := (ih xs ys hl).2 y
        have i2 := (ih xs ys hl).1 x
        by_cases e : x = y
        · subst e; rw [com_eq]; omega
        · rw [com_ne xs ys e]; omega
theorem com_le_left (x : ByteArray) (xs ys : List ByteArray) : com (x :: xs) ys ≤ com xs ys + 1 := ((com_bounds _ xs ys (Nat.le_refl _)).1 x).2
theorem com_le_right (y : ByteArray) (xs ys : List ByteArray) : com xs (y :: ys) ≤ com xs ys + 1 := ((com_bounds _ xs ys (Nat.le_refl _)).2 y).2
theorem com_le_length : ∀ (n : Nat) (xs ys : List ByteArray), xs.length + ys.length ≤ n → com xs ys ≤ xs.length ∧ com xs ys ≤ ys.length := by
  intro n
  induction n with
  | zero =>
    intro xs ys h
    have hx : xs = [] := List.length_eq_zero_iff.1 (by omega)
    subst hx
    simp [com_nil_left]
  | succ n ih =>
    intro xs ys h
    cases xs with
    | nil => simp [com_nil_left]
    | cons x xs =>
      cases ys with
      | nil => simp [com_nil_right]
      | cons y ys =>
        simp only [List.length_cons] at h ⊢
        by_cases e : x = y
        · subst e
          have := ih xs ys (by omega)
          rw [com_eq]; omega
        · have i1 := ih xs (y :: ys) (by simp only [List.length_cons]; omega)
          have i2 := ih (x :: xs) ys (by simp only [List.length_cons]; omega)
          simp only [List.length_cons] at i1 i2
          rw [com_ne xs ys e]; omega

/-- How many from the places i and j on. -/
def comAt (xs ys : List ByteArray) (i j : Nat) : Nat := com (xs.drop i) (ys.drop j)
theorem comAt_end_left (xs ys : List ByteArray) (i j : Nat) (h : xs.length ≤ i) : comAt xs ys i j = 0 := by
  unfold comAt; rw [List.drop_of_length_le h, com_nil_left]
theorem comAt_end_right (xs ys : List ByteArray) (i j : Nat) (h : ys.length ≤ j) : comAt xs ys i j = 0 := by
  unfold comAt; rw [List.drop_of_length_le h, com_nil_right]
theorem getD_drop (xs : List ByteArray) (i : Nat) (h : i < xs.length) : xs.drop i = xs.getD i ByteArray.empty :: xs.drop (i + 1) := by
  rw [List.drop_eq_getElem_cons h]; simp [List.getD, h]
theorem comAt_eq (xs ys : List ByteArray) (i j : Nat) (hi : i < xs.length) (hj : j < ys.length) (h : xs.getD i ByteArray.empty = ys.getD j ByteArray.empty) :
    comAt xs ys i j = comAt xs ys (i + 1) (j + 1) + 1 := by
  unfold comAt; rw [getD_drop xs i hi, getD_drop ys j hj, h, com_eq]
theorem comAt_ne (xs ys : List ByteArray) (i j : Nat) (hi : i < xs.length) (hj : j < ys.length) (h : ¬ xs.getD i ByteArray.empty = ys.getD j ByteArray.empty) :
    comAt xs ys i j = max (comAt xs ys (i + 1) j) (comAt xs ys i (j + 1)) := by
  unfold comAt; rw [getD_drop xs i hi, getD_drop ys j hj, com_ne _ _ h]
theorem comAt_down_left (xs ys : List ByteArray) (i j : Nat) (hj : j < ys.length) : comAt xs ys i j ≤ comAt xs ys i (j + 1) + 1 := by
  unfold comAt; rw [getD_drop ys j hj]; exact com_le_right _ _ _
theorem comAt_down_right (xs ys : List ByteArray) (i j : Nat) (hi : i < xs.length) : comAt xs ys i j ≤ comAt xs ys (i + 1) j + 1 := by
  unfold comAt; rw [getD_drop xs i hi]; exact com_le_left _ _ _
theorem comAt_le (xs ys : List ByteArray) (i j : Nat) : comAt xs ys i j ≤ xs.length ∧ comAt xs ys i j ≤ ys.length := by
  have := com_le_length _ (xs.drop i) (ys.drop j) (Nat.le_refl _)
  simp only [List.length_drop] at this
  unfold comAt
  omega
theorem comAt_zero (xs ys : List ByteArray) : comAt xs ys 0 0 = com xs ys := by simp [comAt]
/-- What the specification's table takes at i, j. -/
theorem comAt_best_eq (xs ys : List ByteArray) (i j : Nat) (hi : i < xs.length) (hj : j < ys.length) (h : xs.getD i ByteArray.empty = ys.getD j ByteArray.empty) :
    max (max (comAt xs ys (i + 1) j) (comAt xs ys i (j + 1))) (1 + comAt xs ys (i + 1) (j + 1)) = comAt xs ys i j := by
  have h1 := comAt_down_left xs ys (i + 1) j hj
  have h2 := comAt_down_right xs ys i (j + 1) hi
  rw [comAt_eq xs ys i j hi hj h]
  omega

/-- Whether a's line is passed over, at lines that are not the same. -/
def skipA (xs ys : List ByteArray) (i j : Nat) : Bool := decide (comAt xs ys i (j + 1) ≤ comAt xs ys (i + 1) j)
/-- The places that are chosen from i and j on, in at most f steps. -/
def matF (xs ys : List ByteArray) : Nat → Nat → Nat → List (Nat × Nat)
  | 0, _, _ => []
  | f + 1, i, j =>
    if i < xs.length ∧ j < ys.length then
      if xs.getD i ByteArray.empty = ys.getD j ByteArray.empty then (i, j) :: matF xs ys f (i + 1) (j + 1)
      else if skipA xs ys i j = true then matF xs ys f (i + 1) j
      else matF xs ys f i (j + 1)
    else []
/-- The places that are chosen from i and j on. -/
def mat (xs ys : List ByteArray) (i j : Nat) : List (Nat × Nat) := matF xs ys ((xs.length - i) + (ys.length - j)) i j
theorem matF_more (xs ys : List ByteArray) : ∀ (f g i j : Nat), (xs.length - i) + (ys.length - j) ≤ f → (xs.length - i) + (ys.length - j) ≤ g → matF xs ys f i j = matF xs ys g i j := by
  have base : ∀ g i j, (xs.length - i) + (ys.length - j) = 0 → matF xs ys g i j = [] := by
    intro g i j h
    cases g with
    | zero => rfl
    | succ g => rw [matF, if_neg (by omega)]
  intro f
  induction f with
  | zero => intro g i j hf hg; rw [base 0 i j (by omega), base g i j (by omega)]
  | succ f ih =>
    intro g i j hf hg
    cases g with
    | zero => rw [base (f + 1) i j (by omega), base 0 i j (by omega)]
    | succ g =>
      rw [matF, matF]
      split
      · rename_i hij
        split
        · rw [ih g (i + 1) (j + 1) (by omega) (by omega)]
        · split
          · rw [ih g (i + 1) j (by omega) (by omega)]
          · rw [ih g i (j + 1) (by omega) (by omega)]
      · rfl
theorem mat_end (xs ys : List ByteArray) (i j : Nat) (h : ¬ (i < xs.length ∧ j < ys.length)) : mat xs ys i j = [] := by
  unfold mat
  cases hf : (xs.length - i) + (ys.length - j) with
  | zero => rfl
  | succ f => rw [matF, if_neg h]
theorem mat_eq (xs ys : List ByteArray) (i j : Nat) (hi : i < xs.length) (hj : j < ys.length) (h : xs.getD i ByteArray.empty = ys.getD j ByteArray.empty) :
    mat xs ys i j = (i, j) :: mat xs ys (i + 1) (j + 1) := by
  unfold mat
  obtain ⟨f, hf⟩ : ∃ f, (xs.length - i) + (ys.length - j) = f + 1 := ⟨(xs.length - i) + (ys.length - j) - 1, by omega⟩
  rw [hf, matF, if_pos ⟨hi, hj⟩, if_pos h]
  congr 1
  exact matF_more xs ys _ _ _ _ (by omega) (Nat.le_refl _)
theorem mat_skipA (xs ys : List ByteArray) (i j : Nat) (hi : i < xs.length) (hj : j < ys.length) (h : ¬ xs.getD i ByteArray.empty = ys.getD j ByteArray.empty) (hs : skipA xs ys i j = true) :
    mat xs ys i j = mat xs ys (i + 1) j := by
  unfold mat
  obtain ⟨f, hf⟩ : ∃ f, (xs.length - i) + (ys.length - j) = f + 1 := ⟨(xs.length - i) + (ys.length - j) - 1, by omega⟩
  rw [hf, matF, if_pos ⟨hi, hj⟩, if_neg h, if_pos hs]
  exact matF_more xs ys _ _ _ _ (by omega) (Nat.le_refl _)
theorem mat_skipB (xs ys : List ByteArray) (i j : Nat) (hi : i < xs.length) (hj : j < ys.length) (h : ¬ xs.getD i ByteArray.empty = ys.getD j ByteArray.empty) (hs : skipA xs ys i j = false) :
    mat xs ys i j = mat xs ys i (j + 1) := by
  unfold mat
  obtain ⟨f, hf⟩ : ∃ f, (xs.length - i) + (ys.length - j) = f + 1 := ⟨(xs.length - i) + (ys.length - j) - 1, by omega⟩
  rw [hf, matF, if_pos ⟨hi, hj⟩, if_neg h, if_neg (by rw [hs]; simp)]
  exact matF_more xs ys _ _ _ _ (by omega) (Nat.le_refl _)
/-- As many are chosen as may be, each in its range. -/
theorem mat_length (xs ys : List ByteArray) : ∀ (f i j : Nat), (xs.length - i) + (ys.length - j) ≤ f → (mat xs ys i j).length = comAt xs ys i j := by
  intro f
  induction f with
  | zero =>
    intro i j h
    rw [mat_end xs ys i j (by omega), comAt_end_left xs ys i j (by omega)]; rfl
  | succ f ih =>
    intro i j h
    by_cases hij : i < xs.length ∧ j < ys.length
    · obtain ⟨hi, hj⟩ := hij
      by_cases he : xs.getD i ByteArray.empty = ys.getD j ByteArray.empty
      · rw [mat_eq xs ys i j hi hj he, comAt_eq xs ys i j hi hj he, List.length_cons, ih _ _ (by omega)]
      · rw [comAt_ne xs ys i j hi hj he]
        cases hs : skipA xs ys i j with
        | true =>
          rw [mat_skipA xs ys i j hi hj he hs, ih _ _ (by omega)]
          have := of_decide_eq_true hs
          omega
        | false =>
          rw [mat_skipB xs ys i j hi hj he hs, ih _ _ (by omega)]
          have := of_decide_eq_false hs
          omega
    · rw [mat_end xs ys i j hij]
      by_cases hi : xs.length ≤ i
      · rw [comAt_end_left xs ys i j hi]; rfl
      · rw [comAt_end_right xs ys i j (by omega)]; rfl
/-- A change: AtA, DelA, AtB, InsB. -/
abbrev Chg := Int × Int × Int × Int
/-- The changes between places that are chosen, from i and j on. -/
def chg : List (Nat × Nat) → Nat → Nat → List Chg
  | [], _, _ => []
  | (p, q) :: rest, i, j => if i < p ∨ j < q then ((i : Int), (p : Int) - i, (j : Int), (q : Int) - j) :: chg rest (p + 1) (q + 1) else chg rest (p + 1) (q + 1)
theorem chg_more {p q i j : Nat} (rest : List (Nat × Nat)) (h : i < p ∨ j < q) : chg ((p, q) :: rest) i j = ((i : Int), (p : Int) - i, (j : Int), (q : Int) - j) :: chg rest (p + 1) (q + 1) := by rw [chg, if_pos h]
theorem chg_less {p q i j : Nat} (rest : List (Nat × Nat)) (h : ¬ (i < p ∨ j < q)) : chg ((p, q) :: rest) i j = chg rest (p + 1) (q + 1) := by rw [chg, if_neg h]
theorem chg_length (l : List (Nat × Nat)) : ∀ i j, (chg l i j).length ≤ l.length := by
  induction l with
  | nil => intro i j; exact Nat.le_refl _
  | cons a l ih =>
    obtain ⟨p, q⟩ := a
    intro i j
    have := ih (p + 1) (q + 1)
    by_cases h : i < p ∨ j < q
    · rw [chg_more l h]; simp only [List.length_cons]; omega
    · rw [chg_less l h]; simp only [List.length_cons]; omega
/-- The places that are chosen, and the ends of both. -/
def ends (xs ys : List ByteArray) : List (Nat × Nat) := mat xs ys 0 0 ++ [(xs.length, ys.length)]
/-- The changes that make ys of xs. -/
def changes (xs ys : List ByteArray) : List Chg := chg (ends xs ys) 0 0
/-- The lines that go and come of all changes. -/
def edits (l : List Chg) : Int := (l.map fun c => c.2.1 + c.2.2.2).sum
theorem edits_cons (c : Chg) (l : List Chg) : edits (c :: l) = c.2.1 + c.2.2.2 + edits l := by simp [edits]
theorem edits_chg (xs ys : List ByteArray) : ∀ (f i j i0 j0 : Nat), (xs.length - i) + (ys.length - j) ≤ f → i0 ≤ i → i ≤ xs.length → j0 ≤ j → j ≤ ys.length →
    edits (chg (mat xs ys i j ++ [(xs.length, ys.length)]) i0 j0) = (xs.length : Int) - i0 + ((ys.length : Int) - j0) - 2 * (comAt xs ys i j : Int) := by
  have stop : ∀ i0 j0 : Nat, i0 ≤ xs.length → j0 ≤ ys.length → edits (chg [(xs.length, ys.length)] i0 j0) = (xs.length : Int) - i0 + ((ys.length : Int) - j0) := by
    intro i0 j0 h1 h2
    by_cases h : i0 < xs.length ∨ j0 < ys.length
    · rw [chg_more _ h, edits_cons]; simp [chg, edits]
    · rw [chg_less _ h]; simp [chg, edits]; omega
  intro f
  induction f with
  | zero =>
    intro i j i0 j0 hf h1 h2 h3 h4
    rw [mat_end xs ys i j (by omega), comAt_end_left xs ys i j (by omega), List.nil_append, stop i0 j0 (by omega) (by omega)]
    omega
  | succ f ih =>
    intro i j i0 j0 hf h1 h2 h3 h4
    by_cases hij : i < xs.length ∧ j < ys.length
    · obtain ⟨hi, hj⟩ := hij
      by_cases he : xs.getD i ByteArray.empty = ys.getD j ByteArray.empty
      · rw [mat_eq xs ys i j hi hj he, comAt_eq xs ys i j hi hj he, List.cons_append]
        have := ih (i + 1) (j + 1) (i + 1) (j + 1) (by omega) (Nat.le_refl _) (by omega) (Nat.le_refl _) (by omega)
        by_cases h : i0 < i ∨ j0 < j
        · rw [chg_more _ h, edits_cons, this]; simp only []; omega
        · rw [chg_less _ h, this]; omega
      · rw [comAt_ne xs ys i j hi hj he]
        cases hs : skipA xs ys i j with
        | true =>
          rw [mat_skipA xs ys i j hi hj he hs, ih _ _ _ _ (by omega) (by omega) (by omega) (by omega) (by omega)]
          have := of_decide_eq_true hs
          omega
        | false =>
          rw [mat_skipB xs ys i j hi hj he hs, ih _ _ _ _ (by omega) (by omega) (by omega) (by omega) (by omega)]
          have := of_decide_eq_false hs
          omega
    · rw [mat_end xs ys i j hij, List.nil_append, stop i0 j0 (by omega) (by omega)]
      by_cases hi : xs.length ≤ i
      · rw [comAt_end_left xs ys i j hi]; omega
      · rw [comAt_end_right xs ys i j (by omega)]; omega
theorem edits_changes (xs ys : List ByteArray) : edits (changes xs ys) = (xs.length : Int) + ys.length - 2 * (com xs ys : Int) := by
  have := edits_chg xs ys _ 0 0 0 0 (Nat.le_refl _) (Nat.le_refl _) (Nat.zero_le _) (Nat.le_refl _) (Nat.zero_le _)
  rw [comAt_zero] at this
  unfold changes ends
  omega
end Go.Proofs.YtgidcncmicmggamGreatDoor
/- The program's table of common lines in memory: how its cells read, and what a store and a clear make of them. No statement is proved here. -/
namespace Go.Proofs.YtgidcncmicmggamGreatDoor
open Go.ChangeShapes Go.WideShapes Go.ChangeAt Go.RowKit

theorem grownOfBelow {w w' : World} (h : Below w.heap.size w w') (row : Option Nat) : w.grownBy w' row := ⟨h.os, h.tape, h.output, h.size, fun k hk _ => h.block k hk⟩
theorem grownTrans {a b c : World} {row : Option Nat} (h : a.grownBy b row) (k : b.grownBy c row) : a.grownBy c row :=
  ⟨k.os.trans h.os, k.tape.trans h.tape, k.output.trans h.output, Nat.le_trans h.size k.size, fun i hi hne => (k.block i (Nat.lt_of_lt_of_le hi h.size) hne).trans (h.block i hi hne)⟩
theorem grownSet (w : World) (b o : Nat) (v : Value) : w.grownBy (w.setCell ⟨b, o, none⟩ v) (some b) :=
  ⟨rfl, rfl, rfl, by simp [World.setCell], fun k _ hne => Below.heap_setCell _ _ _ _ (fun e => hne (by rw [e]))⟩
theorem grownDrew {a w : World} {row : Option Nat} (h : a.grownBy w row) (n : Nat) : a.grownBy (w.drewN n) row := ⟨h.os, h.tape, h.output, h.size, h.block⟩
theorem grownSets (b : Nat) : ∀ (vs : List Value) (o : Nat) (w : World), w.grownBy (w.setCells b o vs) (some b)
  | [], _, w => World.grownBy.refl w _
  | v :: r, o, w => grownTrans (grownSet w b o v) (grownSets b r (o + 1) _)

/-- A slice of strings that lies below block B. -/
def SSB (B : Nat) (w : World) (a : Option Addr) (ss : List ByteArray) : Prop :=
  (∀ k, k < ss.length → (ss.getD k ByteArray.empty).size ≤ 9223372036854775807) ∧
  ∀ k, k < ss.length → ∃ b off, a = some ⟨b, off, none⟩ ∧ b < B ∧ w.cell? ⟨b, off + k, none⟩ = some (.string (ss.getD k ByteArray.empty))
theorem SSB.toSS {B : Nat} {w : World} {a : Option Addr} {ss : List ByteArray} (h : SSB B w a ss) (hB : B ≤ w.heap.size) : SS w a ss :=
  ⟨h.1, fun k hk => by obtain ⟨b, off, e, hb, hc⟩ := h.2 k hk; exact ⟨b, off, e, by omega, hc⟩⟩
theorem SS.toB {w : World} {a : Option Addr} {ss : List ByteArray} (h : SS w a ss) : SSB w.heap.size w a ss := h
theorem SSB.grown {B : Nat} {w w' : World} {row : Option Nat} {a : Option Addr} {ss : List ByteArray} (h : SSB B w a ss) (hg : w.grownBy w' row) (hr : ∀ k, row = some k → B ≤ k) : SSB B w' a ss :=
  ⟨h.1, fun k hk => by
    obtain ⟨b, off, e, hb, hc⟩ := h.2 k hk
    exact ⟨b, off, e, hb, hg.cell hc (fun e' => by have := hr b e'.symm; omega)⟩⟩
theorem SSB.below {B : Nat} {w w' : World} {a : Option Addr} {ss : List ByteArray} (h : SSB B w a ss) (hb : Below w.heap.size w w') : SSB B w' a ss := h.grown (grownOfBelow hb none) (fun _ e => by cases e)
theorem SSB.drewN {B : Nat} {w : World} {a : Option Addr} {ss : List ByteArray} (h : SSB B w a ss) (n : Nat) : SSB B (w.drewN n) a ss := h
theorem SSB.mono {B B' : Nat} {w : World} {a : Option Addr} {ss : List ByteArray} (h : SSB B w a ss) (hB : B ≤ B') : SSB B' w a ss :=
  ⟨h.1, fun k hk => by obtain ⟨b, off, e, hb, hc⟩ := h.2 k hk; exact ⟨b, off, e, by omega, hc⟩⟩

/-- The table at block p: two rows of lengths, and which lines of a are passed over. -/
def DT (w : World) (p : Nat) (cm : Nat → Nat → Int) (sk : Nat → Nat → Bool) : Prop :=
  (∀ r j, r < 2 → j < 101 → w.cell? ⟨p, r * 101 + j, none⟩ = some (.int .i64 (cm r j)) ∧ w.frozen? ⟨p, r * 101 + j, none⟩ = false) ∧
  (∀ i j, i < 100 → j < 100 → w.cell? ⟨p, 202 + i * 100 + j, none⟩ = some (.bool (sk i j)) ∧ w.frozen? ⟨p, 202 + i * 100 + j, none⟩ = false)
def putC (cm : Nat → Nat → Int) (r j : Nat) (v : Int) : Nat → Nat → Int := fun r' j' => if r' = r ∧ j' = j then v else cm r' j'
def putS (sk : Nat → Nat → Bool) (i j : Nat) (v : Bool) : Nat → Nat → Bool := fun i' j' => if i' = i ∧ j' = j then v else sk i' j'
def putR (cm : Nat → Nat → Int) (r : Nat) : Nat → Nat → Int := fun r' j' => if r' = r then 0 else cm r' j'
theorem putC_same (cm : Nat → Nat → Int) (r j : Nat) (v : Int) : putC cm r j v r j = v := if_pos ⟨rfl, rfl⟩
theorem putC_other (cm : Nat → Nat → Int) (r j : Nat) (v : Int) (r' j' : Nat) (h : ¬ (r' = r ∧ j' = j)) : putC cm r j v r' j' = cm r' j' := if_neg h
theorem putS_same (sk : Nat → Nat → Bool) (i j : Nat) (v : Bool) : putS sk i j v i j = v := if_pos ⟨rfl, rfl⟩
theorem putS_other (sk : Nat → Nat → Bool) (i j : Nat) (v : Bool) (i' j' : Nat) (h : ¬ (i' = i ∧ j' = j)) : putS sk i j v i' j' = sk i' j' := if_neg h
theorem DT.drewN {w : World} {p : Nat} {cm : Nat → Nat → Int} {sk : Nat → Nat → Bool} (h : DT w p cm sk) (n : Nat) : DT (w.drewN n) p cm sk := h
theorem DT.setC {w : World} {p : Nat} {cm : Nat → Nat → Int} {sk : Nat → Nat → Bool} (h : DT w p cm sk) (r j : Nat) (hr : r < 2) (hj : j < 101) (v : Int) :
    DT (w.setCell ⟨p, r * 101 + j, none⟩ (.int .i64 v)) p (putC cm r j v) sk := by
  refine ⟨fun r' j' hr' hj' => ⟨?_, by rw [World.frozen?_setCell]; exact (h.1 r' j' hr' hj').2⟩, fun i' j' hi' hj' => ⟨?_, by rw [World.frozen?_setCell]; exact (h.2 i' j' hi' hj').2⟩⟩
  · by_cases e : r' = r ∧ j' = j
    · obtain ⟨rfl, rfl⟩ := e
      rw [World.cell?_setCell_same _ _ _ (h.1 r' j' hr hj).1]
      simp [putC]
    · rw [World.cell?_setCell_other _ _ _ _ (by intro c; simp only [Addr.mk.injEq] at c; omega), (h.1 r' j' hr' hj').1]
      simp [putC, e]
  · rw [World.cell?_setCell_other _ _ _ _ (by intro c; simp only [Addr.mk.injEq] at c; omega), (h.2 i' j' hi' hj').1]
theorem DT.setS {w : World} {p : Nat} {cm : Nat → Nat → Int} {sk : Nat → Nat → Bool} (h : DT w p cm sk) (i j : Nat) (hi : i < 100) (hj : j < 100) (v : Bool) :
    DT (w.setCell ⟨p, 202 + i * 100 + j, none⟩ (.bool v)) p cm (putS sk i j v) := by
  refine ⟨fun r' j' hr' hj' => ⟨?_, by rw [World.frozen?_setCell]; exact (h.1 r' j' hr' hj').2⟩, fun i' j' hi' hj' => ⟨?_, by rw [World.frozen?_setCell]; exact (h.2 i' j' hi' hj').2⟩⟩
  · rw [World.cell?_setCell_other _ _ _ _ (by intro c; simp only [Addr.mk.injEq] at c; omega), (h.1 r' j' hr' hj').1]
  · by_cases e : i' = i ∧ j' = j
    · obtain ⟨rfl, rfl⟩ := e
      rw [World.cell?_setCell_same _ _ _ (h.2 i' j' hi hj).1]
      simp [putS]
    · rw [World.cell?_setCell_other _ _ _ _ (by intro c; simp only [Addr.mk.injEq] at c; omega), (h.2 i' j' hi' hj').1]
      simp [putS, e]
theorem DT.clr {w : World} {p : Nat} {cm : Nat → Nat → Int} {sk : Nat → Nat → Bool} (h : DT w p cm sk) (r : Nat) (hr : r < 2) :
    DT (w.setCells p (r * 101) (List.replicate 101 (.int .i64 0))) p (putR cm r) sk := by
  refine ⟨fun r' j' hr' hj' => ⟨?_, by rw [World.frozen?_setCells]; exact (h.1 r' j' hr' hj').2⟩, fun i' j' hi' hj' => ⟨?_, by rw [World.frozen?_setCells]; exact (h.2 i' j' hi' hj').2⟩⟩
  · by_cases e : r' = r
    · subst e
      rw [World.cell?_setCells_in p _ _ _ (fun j hj => by rw [(h.1 r' j hr (by simpa using hj)).1]; rfl) j' (by simpa using hj'), List.getElem_replicate]
      simp [putR]
    · rw [World.cell?_setCells_out p _ _ _ _ (fun _ _ => by simp only [List.length_replicate]; omega), (h.1 r' j' hr' hj').1]
      simp [putR, e]
  · rw [World.cell?_setCells_out p _ _ _ _ (fun _ _ => by simp only [List.length_replicate]; omega), (h.2 i' j' hi' hj').1]
end Go.Proofs.YtgidcncmicmggamGreatDoor
/- Rows that are owned, and structs of two cells: small laws. No statement is proved here. -/
namespace Go.Proofs.YtgidcncmicmggamGreatDoor
open Go.ChangeShapes Go.WideShapes Go.ChangeAt Go.RowKit

theorem ownMono {w : World} {base b : Nat} {e : TypeId} {v : Value} {n : Nat} {xs : List Value} (h : w.ownsRow base e 1 v n xs) (hb : b ≤ base) : w.ownsRow b e 1 v n xs := by
  refine ⟨h.1, ?_⟩
  rcases h.2 with h' | ⟨g, cap, cur, h1, h2, h3⟩
  · exact .inl h'
  · exact .inr ⟨g, cap, cur, h1, by omega, h3⟩
theorem blockCases (v : Value) (row : Option Nat) (h : ∀ j, v.ownBlock = some j → row = some j → False) : v.ownBlock = none ∨ v.ownBlock ≠ row := by
  rcases e : v.ownBlock with _ | j
  · exact .inl rfl
  · exact .inr (fun c => h j e c.symm)
theorem ret_agg2 {a b c d : Value} (h1 : a = c) (h2 : b = d) : Ending.returned (.agg #[a, b]) = .returned (.agg #[c, d]) := by rw [h1, h2]
/-- A struct of two cells that a variable holds. -/
structure Res2 (w : World) (p : Nat) (u v : Value) : Prop where
  c0 : w.cell? ⟨p, 0, none⟩ = some u
  c1 : w.cell? ⟨p, 1, none⟩ = some v
  f0 : w.frozen? ⟨p, 0, none⟩ = false
  f1 : w.frozen? ⟨p, 1, none⟩ = false
theorem Res2.new (w : World) (u v : Value) (t : TypeId) : Res2 (w.alloc (.cells #[u, v] t)) w.heap.size u v := ⟨by simp, by simp, by simp, by simp⟩
theorem Res2.below {w w' : World} {p : Nat} {u v : Value} (h : Res2 w p u v) (hp : p < w.heap.size) (hb : Below w.heap.size w w') : Res2 w' p u v :=
  ⟨(hb.cell (p := ⟨p, 0, none⟩) hp).trans h.c0, (hb.cell (p := ⟨p, 1, none⟩) hp).trans h.c1, (hb.frozen (p := ⟨p, 0, none⟩) hp).trans h.f0, (hb.frozen (p := ⟨p, 1, none⟩) hp).trans h.f1⟩
theorem below_sets {B p : Nat} {a w : World} (h : Below B a w) (hp : B ≤ p) (u v : Value) : Below B a ((w.setCell ⟨p, 0, none⟩ u).setCell ⟨p, 1, none⟩ v) := (h.setCell (p := ⟨p, 0, none⟩) hp u).setCell (p := ⟨p, 1, none⟩) hp v
theorem allocBelow (w : World) (o : Obj) : Below w.heap.size w (w.alloc o) := (Below.refl _ _).alloc (Nat.le_refl _) _
theorem ne_beq {v : Int} (h : ¬ v = 0) : (v != 0) = true := by simp [h]
theorem shapeS {w : World} {base : Nat} {e : TypeId} {v : Value} {n : Nat} {xs : List Value} (h : w.ownsRow base e 1 v n xs) : ∃ a c, v = .slice a n c := by
  rcases h.2 with ⟨rfl, rfl⟩ | ⟨g, cap, cur, rfl, _⟩
  · exact ⟨_, _, rfl⟩
  · exact ⟨_, _, rfl⟩
theorem newsOf {B : Nat} {w : World} {AD : Addr} {ss : List ByteArray} (h : SSB B w (some AD) ss) : ∀ j u, (ss.map Value.string)[j]? = some u → w.cell? (AD.add j) = some u := by
  intro j u hj
  have hl : j < ss.length := by have := (List.getElem?_eq_some_iff.1 hj).1; simpa using this
  obtain ⟨b, off, e, hb, hc⟩ := h.2 j hl
  simp only [Option.some.injEq] at e
  subst e
  rw [add_plain, hc, ← hj, getD_at ss j hl]
  simp [hl]
theorem oneStr (ss : List ByteArray) : ∀ u ∈ ss.map Value.string, u.oneCell' = true := by
  intro u hu
  obtain ⟨x, _, rfl⟩ := List.mem_map.1 hu
  rfl
theorem mapApp (xs ys : List ByteArray) : xs.map Value.string ++ ys.map Value.string = (xs ++ ys).map Value.string := by rw [List.map_append]
theorem ownLen {w : World} {base : Nat} {e : TypeId} {v : Value} {n : Nat} {xs : List Value} (h : w.ownsRow base e 1 v n xs) : w.ownsRow base e 1 v xs.length xs := by
  have h1 := h.1
  have e : n = xs.length := by omega
  rw [← e]; exact h
theorem vbOf {u v : Value} {B n m : Nat} (hu : ∀ j, u.ownBlock = some j → B ≤ j ∧ j < n) (hk : v.ownBlock = u.ownBlock ∨ v.ownBlock = some m) (hnm : n < m) (hl : ∀ j, v.ownBlock = some j → B ≤ j) : ∀ j, v.ownBlock = some j → B ≤ j ∧ j ≠ n := by
  intro j hj
  refine ⟨hl j hj, ?_⟩
  rcases hk with h | h
  · rw [h] at hj; have := (hu j hj).2; omega
  · rw [h] at hj; simp only [Option.some.injEq] at hj; omega
theorem below_drew {B : Nat} {a w : World} (h : Below B a w) : Below B a w.drew := h.trans ⟨rfl, rfl, rfl, Nat.le_refl _, fun _ _ => rfl⟩
/-- The answer with code r and lines L, in memory of its own. -/
def LP (r : Int) (L : List ByteArray) (w : World) (e : Ending) (w' : World) : Prop := ∃ v, e = .returned (.agg #[.int .i64 r, v]) ∧ w'.ownsRow w.heap.size 9 1 v L.length (L.map Value.string) ∧ Below w.heap.size w w'
end Go.Proofs.YtgidcncmicmggamGreatDoor
/- Frames: a step that turns old blocks between lo and hi alone, and what stays behind it. No statement is proved here. -/
namespace Go.Proofs.YtgidcncmicmggamGreatDoor
open Go.ChangeShapes Go.WideShapes Go.ChangeAt Go.RowKit

/-- Of the old blocks none but those from lo on and below hi has turned. -/
structure Fr (lo hi : Nat) (w w' : World) : Prop where
  os : w'.os = w.os
  tape : w'.tape = w.tape
  output : w'.output = w.output
  size : w.heap.size ≤ w'.heap.size
  block : ∀ k, k < w.heap.size → k < lo ∨ hi ≤ k → w'.heap[k]? = w.heap[k]?
theorem Fr.refl (lo hi : Nat) (w : World) : Fr lo hi w w := ⟨rfl, rfl, rfl, Nat.le_refl _, fun _ _ _ => rfl⟩
theorem Fr.trans {lo hi : Nat} {a b c : World} (h : Fr lo hi a b) (k : Fr lo hi b c) : Fr lo hi a c :=
  ⟨k.os.trans h.os, k.tape.trans h.tape, k.output.trans h.output, Nat.le_trans h.size k.size, fun i hi' ho => (k.block i (Nat.lt_of_lt_of_le hi' h.size) ho).trans (h.block i hi' ho)⟩
theorem Fr.ofBelow {lo hi : Nat} {w w' : World} (h : Below w.heap.size w w') : Fr lo hi w w' := ⟨h.os, h.tape, h.output, h.size, fun k hk _ => h.block k hk⟩
theorem Fr.ofGrown {lo hi : Nat} {w w' : World} {row : Option Nat} (h : w.grownBy w' row) (hr : ∀ j, row = some j → lo ≤ j ∧ j < hi) : Fr lo hi w w' :=
  ⟨h.os, h.tape, h.output, h.size, fun k hk ho => h.block k hk (fun e => by have := hr k e.symm; omega)⟩
theorem Fr.drewN {lo hi : Nat} {a w : World} (h : Fr lo hi a w) (n : Nat) : Fr lo hi a (w.drewN n) := ⟨h.os, h.tape, h.output, h.size, h.block⟩
theorem Fr.ofAlloc {lo hi : Nat} (w : World) (o : Obj) : Fr lo hi w (w.alloc o) := Fr.ofBelow ((Below.refl _ _).alloc (Nat.le_refl _) _)
theorem cellLt {w : World} {b o : Nat} {v : Value} (h : w.cell? ⟨b, o, none⟩ = some v) : b < w.heap.size := by
  rcases Nat.lt_or_ge b w.heap.size with h' | h'
  · exact h'
  · simp [World.cell?, Array.getElem?_eq_none h'] at h
theorem Fr.cell {lo hi : Nat} {w w' : World} {b o : Nat} {v : Value} (h : Fr lo hi w w') (hc : w.cell? ⟨b, o, none⟩ = some v) (hb : b < lo ∨ hi ≤ b) : w'.cell? ⟨b, o, none⟩ = some v :=
  (World.cell?_of_block (a := ⟨b, o, none⟩) (h.block b (cellLt hc) hb)).trans hc
theorem Fr.own {lo hi base : Nat} {w w' : World} {e : TypeId} {size : Nat} {v : Value} {n : Nat} {xs : List Value} (h : Fr lo hi w w') (ho : w.ownsRow base e size v n xs) (hb : ∀ j, v.ownBlock = some j → j < lo ∨ hi ≤ j) : w'.ownsRow base e size v n xs := by
  refine ⟨ho.1, ?_⟩
  rcases ho.2 with h' | ⟨g, cap, cur, rfl, h2, h3, h4⟩
  · exact .inl h'
  · exact .inr ⟨g, cap, cur, rfl, h2, by rw [h.block g (Array.getElem?_eq_some_iff.1 h3).1 (hb g rfl)]; exact h3, h4⟩
theorem Fr.ssb {lo hi B : Nat} {w w' : World} {a : Option Addr} {ss : List ByteArray} (h : Fr lo hi w w') (hs : SSB B w a ss) (hB : B ≤ lo) : SSB B w' a ss :=
  ⟨hs.1, fun k hk => by
    obtain ⟨b, off, e, hb, hc⟩ := hs.2 k hk
    exact ⟨b, off, e, hb, h.cell hc (by omega)⟩⟩
theorem Fr.below {lo hi B : Nat} {a w w' : World} (h : Fr lo hi w w') (hb : Below B a w) (h1 : B ≤ lo) (h2 : B ≤ w.heap.size) : Below B a w' :=
  hb.trans ⟨h.os, h.tape, h.output, h.size, fun k hk => h.block k (by omega) (by omega)⟩
/-- The cells of a struct that a variable holds. -/
def Rs (w : World) (b : Nat) (vs : List Value) : Prop := ∀ k v, vs[k]? = some v → w.cell? ⟨b, k, none⟩ = some v
theorem Fr.rs {lo hi b : Nat} {w w' : World} {vs : List Value} (h : Fr lo hi w w') (hs : Rs w b vs) (hb : b < lo ∨ hi ≤ b) : Rs w' b vs := fun k v hk => h.cell (hs k v hk) hb
theorem Rs.new (w : World) (vs : Array Value) (t : TypeId) : Rs (w.alloc (.cells vs t)) w.heap.size vs.toList := fun k v hk => by
  rw [cell_of_row _ _ _ _ _ _ (heap_alloc_new w _)]
  simpa using hk
/-- A row of strings that is owned, as a slice that reads as them. -/
theorem ownSS {w : World} {base cap : Nat} {a : Option Addr} {ss : List ByteArray} (h : w.ownsRow base 9 1 (.slice a ss.length cap) ss.length (ss.map Value.string)) (hz : ∀ k, k < ss.length → (ss.getD k ByteArray.empty).size ≤ 9223372036854775807) : SS w a ss := by
  refine ⟨hz, fun k hk => ?_⟩
  rcases h.2 with ⟨h', h0⟩ | ⟨g, c, cur, h', hb, hg, _⟩
  · omega
  · simp only [Value.slice.injEq] at h'
    obtain ⟨rfl, _⟩ := h'
    exact ⟨g, 0, rfl, (Array.getElem?_eq_some_iff.1 hg).1, by rw [Nat.zero_add, h.cellAt k (by omega), getD_at ss k hk]; simp [hk]⟩
end Go.Proofs.YtgidcncmicmggamGreatDoor
/- The contract of spec.l1In. No statement is proved here. -/
namespace Go.Proofs.YtgidcncmicmggamGreatDoor
open Go.ChangeShapes Go.WideShapes Go.ChangeAt Go.RowKit

def inB (v lo hi : Int) : Bool := decide (lo ≤ v ∧ v ≤ hi)
theorem l1In (v lo hi : Int) (w : World) :
    Calls Tryz.prog 96 #[.int .i64 v, .int .i64 lo, .int .i64 hi] w fun e w' => e = .returned (.bool (inB v lo hi)) ∧ w' = w := by
  by_cases h1 : lo ≤ v
  · have hE : Hid (inB v lo hi = decide (v ≤ hi)) := by show _ = _; simp [inB, h1]
    go_enter Tryz.func96, Tryz.ntmps96
    go_wp2
    go_ret
    exact ⟨ret_bool hE.out.symm, rfl⟩
  · have hE : Hid (inB v lo hi = false) := by show _ = _; simp [inB, h1]
    go_enter Tryz.func96, Tryz.ntmps96
    go_wp2
    go_ret
    exact ⟨ret_bool hE.out.symm, rfl⟩
end Go.Proofs.YtgidcncmicmggamGreatDoor
/- The contracts of the laws' helpers over one hunk. No statement is proved here. -/
namespace Go.Proofs.YtgidcncmicmggamGreatDoor
open Go.ChangeShapes Go.WideShapes Go.ChangeAt Go.RowKit

/-- The cells of a struct that a variable holds, and that they may be written. -/
structure Rf (w : World) (b : Nat) (vs : List Value) : Prop where
  at_ : ∀ k v, vs[k]? = some v → w.cell? ⟨b, k, none⟩ = some v
  fz : ∀ k, w.frozen? ⟨b, k, none⟩ = false
theorem Rf.new (w : World) (vs : Array Value) (t : TypeId) : Rf (w.alloc (.cells vs t)) w.heap.size vs.toList := ⟨Rs.new w vs t, fun k => by unfold World.frozen?; rw [heap_alloc_new]; simp⟩
theorem Rf.below {w w' : World} {b : Nat} {vs : List Value} (h : Rf w b vs) (hp : b < w.heap.size) (hb : Below w.heap.size w w') : Rf w' b vs :=
  ⟨fun k v hk => (hb.cell (p := ⟨b, k, none⟩) hp).trans (h.at_ k v hk), fun k => (hb.frozen (p := ⟨b, k, none⟩) hp).trans (h.fz k)⟩
theorem Rf.other {w : World} {b b' o : Nat} {vs : List Value} (h : Rf w b vs) (hne : b ≠ b') (v : Value) : Rf (w.setCell ⟨b', o, none⟩ v) b vs :=
  ⟨fun k u hk => by rw [World.cell?_setCell_other _ _ _ _ (by intro c; simp only [Addr.mk.injEq] at c; exact hne (by omega))]; exact h.at_ k u hk, fun k => by rw [World.frozen?_setCell]; exact h.fz k⟩
theorem Rf.set {w : World} {b o : Nat} {vs : List Value} (h : Rf w b vs) (ho : o < vs.length) (v : Value) : Rf (w.setCell ⟨b, o, none⟩ v) b (vs.set o v) :=
  ⟨fun k u hk => by
    by_cases e : k = o
    · subst e
      rw [World.cell?_setCell_same _ _ _ (h.at_ k vs[k] (List.getElem?_eq_getElem ho))]
      simpa [ho] using hk
    · rw [World.cell?_setCell_other _ _ _ _ (by intro c; simp only [Addr.mk.injEq] at c; omega)]
      rw [List.getElem?_set_ne (by omega)] at hk
      exact h.at_ k u hk, fun k => by rw [World.frozen?_setCell]; exact h.fz k⟩

end Go.Proofs.YtgidcncmicmggamGreatDoor
/- Plain mathematics of the faults of lines: which line is right, and the fault of a list of lines. No statement is proved here. -/
namespace Go.Proofs.YtgidcncmicmggamGreatDoor
open Go.RowKit

theorem indexByte_app (pre post : List UInt8) (c : UInt8) (h : ¬ c ∈ pre) : Lib.indexByte (pre ++ c :: post) c = pre.length := by
  induction pre with
  | nil => simp [Lib.indexByte]
  | cons b l ih =>
    have hb : (b == c) = false := by
      cases e : (b == c) with
      | false => rfl
      | true => exact absurd (by simp [show b = c by simpa using e]) h
    have hi := ih (fun hm => h (List.mem_cons_of_mem _ hm))
    rw [List.cons_append]
    unfold Lib.indexByte
    rw [hb, hi]
    have : ((l.length : Int) == -1) = false := by simp
    rw [this]
    simp
theorem indexByte_none (l : List UInt8) (c : UInt8) (h : ¬ c ∈ l) : Lib.indexByte l c = -1 := by
  have h1 := Lib.indexByte_ge l c
  have h2 : ¬ 0 ≤ Lib.indexByte l c := fun h' => h ((indexByte_mem l c).1 h')
  omega
theorem indexByte_lt (l : List UInt8) (c : UInt8) : Lib.indexByte l c < l.length ∨ (Lib.indexByte l c = -1) := by
  induction l with
  | nil => right; rfl
  | cons b l ih =>
    unfold Lib.indexByte
    by_cases hb : (b == c) = true
    · left; simp [hb]
    · have hb' : (b == c) = false := by simpa using hb
      rw [hb']
      by_cases h1 : (Lib.indexByte l c == -1) = true
      · right; simp [h1]
      · have h2 : ¬ Lib.indexByte l c = -1 := by simpa using h1
        left
        simp only [h1, Bool.false_eq_true, if_false, List.length_cons]
        omega

/-- Where the first line feed of a line is; its length, if there is none. -/
def ended (l : List UInt8) : Int := if Lib.indexByte l 10 < 0 then l.length else Lib.indexByte l 10
/-- A line is right: not empty; its line feed, where it has one, is its last byte; without one it is the last line. -/
def okLine (l : List UInt8) (last : Bool) : Bool := if l = [] then false else if Lib.indexByte l 10 < 0 then last else decide (Lib.indexByte l 10 = l.length - 1)
def okAt (ss : List ByteArray) (i : Nat) : Bool := okLine (ss.getD i ByteArray.empty).data.toList (decide ((i : Int) = (ss.length : Int) - 1))
def allOk (ss : List ByteArray) (k : Nat) : Bool := (List.range k).all (okAt ss)
theorem allOk_zero (ss : List ByteArray) : allOk ss 0 = true := rfl
theorem allOk_succ {ss : List ByteArray} {k : Nat} (h : allOk ss k = true) (e : okAt ss k = true) : allOk ss (k + 1) = true := by
  unfold allOk at *
  rw [List.range_succ, List.all_append, h]; simp [e]
theorem allOk_not {ss : List ByteArray} {k n : Nat} (e : okAt ss k = false) (hk : k < n) : allOk ss n = false := by
  unfold allOk
  cases h : (List.range n).all (okAt ss) with
  | false => rfl
  | true =>
    have := List.all_eq_true.1 h k (List.mem_range.2 hk)
    rw [e] at this; cases this
/-- The fault of a list of lines. -/
def lf (ss : List ByteArray) : Int := if 100 < (ss.length : Int) ∨ 2000 < tot ss then 2 else if allOk ss ss.length = true then 0 else 1
theorem lf_many {ss : List ByteArray} (h : 100 < (ss.length : Int) ∨ 2000 < tot ss) : lf ss = 2 := if_pos h
theorem lf_ok {ss : List ByteArray} (h : ¬ (100 < (ss.length : Int) ∨ 2000 < tot ss)) (e : allOk ss ss.length = true) : lf ss = 0 := by
  unfold lf; rw [if_neg h, if_pos e]
theorem lf_form {ss : List ByteArray} (h : ¬ (100 < (ss.length : Int) ∨ 2000 < tot ss)) {k : Nat} (hk : k < ss.length) (e : okAt ss k = false) : lf ss = 1 := by
  unfold lf; rw [if_neg h, if_neg (by rw [allOk_not e hk]; simp)]
theorem ended_bd (l : List UInt8) : 0 ≤ ended l ∧ ended l ≤ l.length := by
  unfold ended
  have := indexByte_lt l 10
  split <;> omega
/-- The specification's test of a line, in the words of 'okLine'. -/
theorem okLine_spec (l : List UInt8) (k n : Int) (hk : k ≤ n - 1) :
    okLine l (decide (k = n - 1)) = !(decide (l = []) || decide (ended l < l.length - 1) || (decide (ended l = l.length) && decide (k < n - 1))) := by
  have hlt := indexByte_lt l 10
  have hge := Lib.indexByte_ge l 10
  unfold okLine ended
  by_cases h0 : l = []
  · simp [h0]
  · have hpos : 0 < l.length := by
      cases l with
      | nil => exact absurd rfl h0
      | cons => simp
    rw [if_neg h0]
    by_cases h1 : Lib.indexByte l 10 < 0
    · rw [if_pos h1, if_pos h1]
      by_cases hk2 : k = n - 1
      · simp [h0, hk2]; omega
      · have : k < n - 1 := by omega
        simp [h0, hk2, this]
    · rw [if_neg h1, if_neg h1]
      by_cases h2 : Lib.indexByte l 10 = l.length - 1
      · simp [h0, h2]; omega
      · have h3 : Lib.indexByte l 10 < l.length - 1 := by omega
        simp [h2, h3]
end Go.Proofs.YtgidcncmicmggamGreatDoor
/- The contract of strings.IndexByte over this seat's program. No statement is proved here. -/
namespace Go.Proofs.YtgidcncmicmggamGreatDoor
open Go.ChangeShapes Go.WideShapes Go.ChangeAt Go.RowKit

theorem idxEntry (s : ByteArray) (c : Int) (w : World) :
    (callFunc 215 #[.string s, .int .u8 c]).run Tryz.prog w = .ok (.value (.int .i64 (Lib.indexByte s.data.toList c.toNat.toUInt8))) w := by
  rw [run_callFunc_extern Tryz.func215 (by kernel_rfl) (by kernel_rfl) (by kernel_rfl) (e := Extern.BytealgIndexByte.indexByte) (by kernel_rfl), Lib.run_indexByteString]
  rfl

theorem indexByte (s : ByteArray) (c : Int) (w : World) :
    Calls Tryz.prog 139 #[.string s, .int .u8 c] w fun e w' => e = .returned (.int .i64 (Lib.indexByte s.data.toList c.toNat.toUInt8)) ∧ w' = w := by
  have h := idxEntry s c
  go_enter Tryz.func139, Tryz.ntmps139
  go_wp2
  go_ret
  exact ⟨rfl, rfl⟩
end Go.Proofs.YtgidcncmicmggamGreatDoor
