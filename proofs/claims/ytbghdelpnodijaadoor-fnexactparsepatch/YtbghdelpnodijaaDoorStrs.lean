/- Contracts of the laws' helpers over lists of strings (szStringS, toStringS, eqStringS) over this seat's program. No statement is proved here. -/
import Derived.Test.YtbghdelpnodijaaDoorRows
import Derived.Test.YtbghdelpnodijaaDoorLem
import Derived.WalkKit
import Derived.ProofKit
import Derived.Below
import Derived.Deep.QuietTactic
import Derived.BigQuiet
import Derived.WalkSpells
import Derived.SliceStrings
import Derived.Carry
namespace Go.Proofs.YtbghdelpnodijaaDoor
open Go.ChangeShapes Go.WideShapes Go.ChangeAt Go.RowKit

/-- A slice at address 'a' whose elements are the strings 'ss'. -/
def SS (w : World) (a : Option Addr) (ss : List ByteArray) : Prop :=
  (∀ k, k < ss.length → (ss.getD k ByteArray.empty).size ≤ 9223372036854775807) ∧
  ∀ k, k < ss.length → ∃ b off, a = some ⟨b, off, none⟩ ∧ b < w.heap.size ∧ w.cell? ⟨b, off + k, none⟩ = some (.string (ss.getD k ByteArray.empty))
theorem SS.below {w w' : World} {a : Option Addr} {ss : List ByteArray} (h : SS w a ss) (hb : Below w.heap.size w w') : SS w' a ss :=
  ⟨h.1, fun k hk => by
    obtain ⟨b, off, e, hlt, hc⟩ := h.2 k hk
    exact ⟨b, off, e, Nat.lt_of_lt_of_le hlt hb.size, (hb.cell (p := ⟨b, off + k, none⟩) hlt).trans hc⟩⟩
theorem SS.below' {w w' : World} {a : Option Addr} {ss : List ByteArray} {n : Nat} (h : SS w a ss) (hb : Below (w.drewN n).heap.size (w.drewN n) w') : SS w' a ss := SS.below (w := w.drewN n) h hb
theorem below_drewN' {B : Nat} {a w : World} (h : Below B a w) (n : Nat) : Below B a (w.drewN n) := h.trans ⟨rfl, rfl, rfl, Nat.le_refl _, fun _ _ => rfl⟩
theorem below_step {B : Nat} {a w w' : World} (h : Below B a w) (hB : B ≤ w.heap.size) (k : Below w.heap.size w w') : Below B a w' := h.trans (k.mono hB)
theorem SS.drewN {w : World} {a : Option Addr} {ss : List ByteArray} (h : SS w a ss) (n : Nat) : SS (w.drewN n) a ss := h

theorem getD_at (ss : List ByteArray) (k : Nat) (h : k < ss.length) : ss.getD k ByteArray.empty = ss[k] := by simp [List.getD, h]
/-- The bytes of all strings together. -/
def tot (ss : List ByteArray) : Int := (ss.map fun s => (s.size : Int)).sum
theorem tot_nonneg (ss : List ByteArray) : 0 ≤ tot ss := by
  unfold tot
  induction ss with
  | nil => simp
  | cons s ss ih => simp only [List.map_cons, List.sum_cons]; omega
theorem tot_take (ss : List ByteArray) (k : Nat) (h : k < ss.length) : tot (ss.take (k + 1)) = tot (ss.take k) + ((ss.getD k ByteArray.empty).size : Int) := by
  unfold tot
  rw [List.take_succ_eq_append_getElem h, List.map_append, List.sum_append, getD_at ss k h]
  simp
theorem tot_split (ss : List ByteArray) (k : Nat) : tot ss = tot (ss.take k) + tot (ss.drop k) := by
  unfold tot
  conv => lhs; rw [← List.take_append_drop k ss]
  rw [List.map_append, List.sum_append]
theorem tot_take_le (ss : List ByteArray) (k : Nat) : tot (ss.take k) ≤ tot ss := by
  have h1 := tot_split ss k
  have h2 := tot_nonneg (ss.drop k)
  omega
def left (l : Int) (ss : List ByteArray) : Int := if l - ss.length - tot ss < 0 then -1 else l - ss.length - tot ss

set_option maxHeartbeats 800000 in
theorem szStringS (a : Option Addr) (cap : Nat) (ss : List ByteArray) (l : Int) (w : World) (hs : SS w a ss) (hn : ss.length ≤ 9223372036854775807) (hl0 : 0 ≤ l) (hl1 : l ≤ 1048576) :
    Calls Tryd.prog 29 #[.slice a ss.length cap, .int .i64 l] w fun e w' => e = .returned (.int .i64 (left l ss)) ∧ w' = w := by
  by_cases hneg : l - ss.length < 0
  · have ht := tot_nonneg ss
    have hL : Hid (left l ss = -1) := by show left l ss = -1; unfold left; rw [if_pos (by omega)]
    go_enter Tryd.func29, Tryd.ntmps29
    go_wp2
    go_ret
    exact ⟨ret_int hL.out.symm, rfl⟩
  · go_enter Tryd.func29, Tryd.ntmps29
    go_wp2
    go_loop [1, 5] (fun t i => ∃ k : Nat, k ≤ ss.length ∧ i = .int .i64 k ∧ t = .int .i64 (l - ss.length - tot (ss.take k)) ∧ 0 ≤ l - ss.length - tot (ss.take k)) (fun _ i => ss.length - (intOf i).toNat)
    case atStart => exact ⟨0, Nat.zero_le _, rfl, by simp [tot], by simp [tot]; omega⟩
    case round =>
      obtain ⟨k, hk, rfl, rfl, hpos⟩ := hrel
      have ht0 := tot_nonneg (ss.take k)
      by_cases hlt : k < ss.length
      · obtain ⟨b, off, rfl, hb, hc⟩ := hs.2 k hlt
        have hsz := hs.1 k hlt
        have hts := tot_take ss k hlt
        obtain ⟨s, hse⟩ : ∃ s, s = ss.getD k ByteArray.empty := ⟨_, rfl⟩
        rw [← hse] at hc hsz hts
        have HT : Hid (tot (ss.take (k + 1)) = tot (ss.take k) + (s.size : Int)) := hts
        clear hts hse
        by_cases hneg2 : l - ss.length - tot (ss.take k) - s.size < 0
        · have hL : Hid (left l ss = -1) := by
            have h1 := tot_take_le ss (k + 1)
            have h2 := HT.out
            show left l ss = -1
            unfold left; rw [if_pos (by omega)]
          go_wp2
          go_ret
          exact ⟨ret_int hL.out.symm, rfl⟩
        · go_wp2
          go_round
          case rel => exact ⟨k + 1, by omega, by go_num, by rw [HT.out]; go_num, by rw [HT.out]; omega⟩
          case measure => simp [intOf]; omega
      · have hL : Hid (left l ss = l - ss.length - tot (ss.take k)) := by
          rw [List.take_of_length_le (by omega)] at hpos ⊢
          show left l ss = _
          unfold left; rw [if_neg (by omega)]
        go_wp2
        go_ret
        exact ⟨ret_int hL.out.symm, rfl⟩
theorem infoString : (Tryd.prog.info? 9).map (fun i => (i.zero, i.size, i.bytes)) = some (some (.string ByteArray.empty), 1, 16) := by kernel_rfl

/-- What toStringS has copied behind k rounds. -/
def cop (ss : List ByteArray) (k : Nat) : List Value := (ss.take k).map Value.string ++ List.replicate (ss.length - k) (.string ByteArray.empty)
theorem cop_zero (ss : List ByteArray) : cop ss 0 = List.replicate ss.length (.string ByteArray.empty) := by simp [cop]
theorem cop_full (ss : List ByteArray) : cop ss ss.length = ss.map Value.string := by simp [cop]
theorem cop_set (ss : List ByteArray) (k : Nat) (h : k < ss.length) : (cop ss k).set k (.string (ss.getD k ByteArray.empty)) = cop ss (k + 1) := by
  unfold cop
  rw [List.take_succ_eq_append_getElem h, getD_at ss k h, List.map_append, List.append_assoc, List.set_append_right _ _ (by simp; omega)]
  congr 1
  have e : ss.length - k = (ss.length - (k + 1)) + 1 := by omega
  have hk : k - (List.map Value.string (List.take k ss)).length = 0 := by simp; omega
  rw [hk, e, List.replicate_succ]
  rfl

set_option maxHeartbeats 800000 in
theorem toStringS (a : Option Addr) (cap : Nat) (ss : List ByteArray) (w : World) (hs : SS w a ss) (hn : ss.length ≤ 1048576) :
    Calls Tryd.prog 33 #[.slice a ss.length cap] w fun e w' => e = .returned (.slice (some ⟨w.heap.size, 0, none⟩) ss.length ss.length) ∧
      w'.ownsRow w.heap.size 9 1 (.slice (some ⟨w.heap.size, 0, none⟩) ss.length ss.length) ss.length (ss.map Value.string) ∧ Below w.heap.size w w' := by
  obtain ⟨i0, hi, hz0, hz1, hz2⟩ := info_parts infoString
  go_enter Tryd.func33, Tryd.ntmps33
  go_wp2_with (first | (at_make; refine wpList_make_full _ rfl (.tmp 6) (.tmp 6) 39 rfl w.heap.size 9 i0 (.string ByteArray.empty) 1 Tryd.underlying39 hi hz0 hz1 .i64 .i64 _ _ ss.length rfl rfl (by omega) (by omega) (by rw [hz2]; omega) (by unfold maxLen; omega) (Nat.le_refl _) ?_; intro w1 hown1 hg1))
  have hown : w1.ownsRow w.heap.size 9 1 (.slice (some ⟨w.heap.size, 0, none⟩) ss.length ss.length) ss.length (cop ss 0) := by
    rw [cop_zero]
    simpa [Value.cells, toList_madeCells_one] using hown1
  have hbel : Below w.heap.size w w1 := (Below.refl _ _).grown hg1 (Nat.le_refl _) (by intro k h; cases h)
  clear hown1 hg1
  go_loopw [4] (fun i wr => ∃ k : Nat, k ≤ ss.length ∧ i = .int .i64 k ∧ wr.ownsRow w.heap.size 9 1 (.slice (some ⟨w.heap.size, 0, none⟩) ss.length ss.length) ss.length (cop ss k) ∧ Below w.heap.size w wr) (fun i _ => ss.length - (intOf i).toNat)
  case atStart => exact ⟨0, Nat.zero_le _, rfl, hown, hbel⟩
  case round =>
    obtain ⟨k, hk, rfl, howr, hbr⟩ := hrel
    by_cases hlt : k < ss.length
    · obtain ⟨b, off, rfl, hb, hc⟩ := hs.2 k hlt
      have hc' := (hbr.cell (p := ⟨b, off + k, none⟩) hb).trans hc
      have hfz := howr.frozenAt k
      have hold : wr.cell? ⟨w.heap.size, k, none⟩ = some ((cop ss k).getD k (.string ByteArray.empty)) := by
        rw [howr.cellAt k (by omega), List.getD, List.getElem?_eq_getElem (by rw [howr.1]; omega)]; rfl
      have hst := (howr.stored k (.string (ss.getD k ByteArray.empty))).1
      rw [cop_set ss k hlt] at hst
      obtain ⟨s, hse⟩ : ∃ s, s = ss.getD k ByteArray.empty := ⟨_, rfl⟩
      rw [← hse] at hst hc'
      have hbs := hbr.setCell (p := ⟨w.heap.size, k, none⟩) (Nat.le_refl _) (.string s)
      have HST := hst
      clear hc howr hs hst hse
      go_wp2
      go_roundw
      case rel => exact ⟨k + 1, by omega, by go_num, HST, hbs⟩
      case measure => simp [intOf]; omega
    · have e : k = ss.length := by omega
      have hfull := howr
      rw [e, cop_full] at hfull
      clear howr e
      go_wp2
      go_ret
      exact ⟨rfl, hfull, hbr⟩

theorem SS_of_owns {w w' : World} {g : Nat} {cap : Nat} {ss : List ByteArray} (h : w'.ownsRow w.heap.size 9 1 (.slice (some ⟨g, 0, none⟩) ss.length cap) ss.length (ss.map Value.string)) (hg : g < w'.heap.size)
    (hz : ∀ k, k < ss.length → (ss.getD k ByteArray.empty).size ≤ 9223372036854775807) : SS w' (some ⟨g, 0, none⟩) ss :=
  ⟨hz, fun k hk => ⟨g, 0, rfl, hg, by
    rw [Nat.zero_add, h.cellAt k (by omega), getD_at ss k hk]; simp [hk]⟩⟩
theorem size_of_owns {w' : World} {base g n cap : Nat} {e : TypeId} {xs : List Value} (h : w'.ownsRow base e 1 (.slice (some ⟨g, 0, none⟩) n cap) n xs) : g < w'.heap.size := by
  rcases h.2 with ⟨h', _⟩ | ⟨g', cap', cur, h', _, hg, _⟩
  · simp at h'
  · simp only [Value.slice.injEq, Option.some.injEq, Addr.mk.injEq, and_true, true_and] at h'
    obtain ⟨rfl, rfl⟩ := h'
    exact (Array.getElem?_eq_some_iff.1 hg).1
/-- The copy: new memory that reads as what was copied; all that was there stands. -/
theorem toStringS' (a : Option Addr) (cap : Nat) (ss : List ByteArray) (w : World) (hs : SS w a ss) (hn : ss.length ≤ 1048576) :
    Calls Tryd.prog 33 #[.slice a ss.length cap] w fun e w' => e = .returned (.slice (some ⟨w.heap.size, 0, none⟩) ss.length ss.length) ∧
      SS w' (some ⟨w.heap.size, 0, none⟩) ss ∧ Below w.heap.size w w' ∧ w.heap.size < w'.heap.size :=
  (toStringS a cap ss w hs hn).mono fun _ _ ⟨he, ho, hb⟩ => ⟨he, SS_of_owns ho (size_of_owns ho) hs.1, hb, size_of_owns ho⟩

/-- Two lists of strings, compared string by string up to k. -/
def sameTo (xs ys : List ByteArray) (k : Nat) : Prop := ∀ i, i < k → xs.getD i ByteArray.empty = ys.getD i ByteArray.empty
theorem sameTo_succ {xs ys : List ByteArray} {k : Nat} (h : sameTo xs ys k) (e : xs.getD k ByteArray.empty = ys.getD k ByteArray.empty) : sameTo xs ys (k + 1) := by
  intro i hi
  by_cases h' : i = k
  · rw [h']; exact e
  · exact h i (by omega)
theorem eq_of_sameTo {xs ys : List ByteArray} (hl : xs.length = ys.length) (h : sameTo xs ys xs.length) : xs = ys := by
  apply List.ext_getElem hl
  intro i h1 h2
  have := h i h1
  rwa [getD_at xs i h1, getD_at ys i h2] at this
def eqB (xs ys : List ByteArray) : Bool := decide (xs = ys)
theorem eqB_self (xs : List ByteArray) : eqB xs xs = true := decide_eq_true rfl
theorem left_ge {l : Int} {ss : List ByteArray} (h : ¬ left l ss < 0) : left l ss = l - ss.length - tot ss ∧ 0 ≤ l - ss.length - tot ss ∧ ss.length ≤ l := by
  have ht := tot_nonneg ss
  unfold left at h ⊢
  by_cases h' : l - ss.length - tot ss < 0
  · rw [if_pos h'] at h; omega
  · rw [if_neg h']; exact ⟨rfl, by omega, by omega⟩

/-- The contract of a function that compares two lists of strings, one by one. -/
def Eqs (f : FuncId) : Prop := ∀ (a1 a2 : Option Addr) (c1 c2 : Nat) (xs ys : List ByteArray) (w : World), SS w a1 xs → SS w a2 ys → xs.length ≤ 1048576 → ys.length ≤ 1048576 →
    Calls Tryd.prog f #[.slice a1 xs.length c1, .slice a2 ys.length c2] w fun e w' => e = .returned (.bool (eqB xs ys)) ∧ ∃ n, w' = w.drewN n

set_option maxHeartbeats 1600000 in
theorem eqStringS : Eqs 41 := by
  intro a1 a2 c1 c2 xs ys w h1 h2 hn hm
  by_cases hl : xs.length = ys.length
  · have hlI : ((xs.length : Int) != (ys.length : Int)) = false := by simp [hl]
    have HL : Hid (xs.length = ys.length) := hl
    clear hl
    go_enter Tryd.func41, Tryd.ntmps41
    go_wp2
    go_loopw [5] (fun i wr => ∃ k : Nat, k ≤ xs.length ∧ i = .int .i64 k ∧ sameTo xs ys k ∧ ∃ n, wr = w.drewN n) (fun i _ => xs.length - (intOf i).toNat)
    case atStart => exact ⟨0, Nat.zero_le _, rfl, fun i hi => absurd hi (Nat.not_lt_zero _), 0, rfl⟩
    case round =>
      obtain ⟨k, hk, rfl, hsm, n, rfl⟩ := hrel
      by_cases hlt : k < xs.length
      · have hlt2 : k < ys.length := by have := HL.out; omega
        obtain ⟨b, off, rfl, hb, hc⟩ := h1.2 k hlt
        obtain ⟨b', off', rfl, hb', hc'⟩ := h2.2 k hlt2
        obtain ⟨s, hse⟩ : ∃ s, s = xs.getD k ByteArray.empty := ⟨_, rfl⟩
        obtain ⟨t, hte⟩ : ∃ t, t = ys.getD k ByteArray.empty := ⟨_, rfl⟩
        rw [← hse] at hc
        rw [← hte] at hc'
        have HS : Hid (s = xs.getD k ByteArray.empty) := hse
        have HT : Hid (t = ys.getD k ByteArray.empty) := hte
        clear hse hte h1 h2
        have q1 : (k : Int) < (xs.length : Int) := by omega
        have q2 : (k : Int) < (ys.length : Int) := by omega
        by_cases hst : s = t
        · have HST : Hid (s = t) := hst
          have hbe := beq_bytes_true hst
          clear hst
          go_wp2
          go_quiet (fail)
          go_wp2
          go_roundw
          case rel => exact ⟨k + 1, by omega, by go_num, sameTo_succ hsm (by rw [← HS.out, ← HT.out]; exact HST.out), _, rfl⟩
          case measure => simp [intOf]; omega
        · have HST : Hid (¬ s = t) := hst
          have hbe := beq_bytes_false hst
          clear hst
          have hE : Hid (eqB xs ys = false) := by
            show decide (xs = ys) = false
            refine decide_eq_false fun e => HST.out ?_
            rw [HS.out, HT.out, e]
          go_wp2
          go_quiet (fail)
          go_wp2
          go_ret
          exact ⟨ret_bool hE.out.symm, n + nq, World.drewN_drewN _ _ _⟩
      · have hE : Hid (eqB xs ys = true) := by
          have e : k = xs.length := by omega
          rw [e] at hsm
          exact decide_eq_true (eq_of_sameTo HL.out hsm)
        go_wp2
        go_ret
        exact ⟨ret_bool hE.out.symm, _, rfl⟩
  · have hlI : ((xs.length : Int) != (ys.length : Int)) = true := by simp; omega
    have hE : Hid (eqB xs ys = false) := by
      show decide (xs = ys) = false
      exact decide_eq_false fun e => hl (by rw [e])
    clear hl
    go_enter Tryd.func41, Tryd.ntmps41
    go_wp2
    go_ret
    exact ⟨ret_bool hE.out.symm, 0, rfl⟩

/-- An argument that is a list of strings, opened. -/
theorem openSS {H : Type} {enc : TypeId × Value → H} {W : World} {a : Option Addr} {len cap : Nat} {d : DataW H} {p : List MemPlace}
    (h : DataW.Trod enc Tryd.prog W 0 (fun _ => true) true 39 (.slice a len cap) d p) (hlt : ∀ x ∈ p, x.block < W.heap.size) :
    ∃ ss : List ByteArray, len = ss.length ∧ SS W a ss ∧ ss.length ≤ 9223372036854775807 := by
  obtain ⟨fuel, hf⟩ := h
  rcases open_strings Tryd.underlying39 Tryd.underlying9 (by kernel_rfl) hf with ⟨hcs, _⟩ | ⟨x, l, c, ss, hcs, _, hl, hm, hz, hx, hcell, hws⟩
  · simp [Value.cells] at hcs
    obtain ⟨rfl, rfl, rfl⟩ := hcs
    exact ⟨[], rfl, ⟨fun k hk => absurd hk (Nat.not_lt_zero _), fun k hk => absurd hk (Nat.not_lt_zero _)⟩, by simp⟩
  · simp [Value.cells] at hcs
    obtain ⟨rfl, rfl, rfl⟩ := hcs
    simp only [if_true] at hz
    simp only [Prod.mk.injEq] at hx
    obtain ⟨rfl, rfl⟩ := hx
    unfold maxLen at hm
    have hlen : (ss.take len).length = len := by simp; omega
    have hget : ∀ k, k < len → (ss.take len).getD k ByteArray.empty = ss.getD k ByteArray.empty := by
      intro k hk
      simp [List.getD, hk]
    refine ⟨ss.take len, hlen.symm, ⟨fun k hk => ?_, fun k hk => ?_⟩, by omega⟩
    · rw [hlen] at hk
      rw [hget k hk, getD_at ss k (by omega)]
      have := hws ss[k] (List.getElem_mem _)
      unfold maxLen at this
      exact this
    · rw [hlen] at hk
      have hc := hcell k (by omega)
      obtain ⟨b, off, spot⟩ := x
      have hspot : spot = none := by simpa [Addr.add] using World.cell?_spot (hcell 0 (by omega))
      subst hspot
      refine ⟨b, off, rfl, ?_, ?_⟩
      · exact hlt (.cell b (off + k)) (MemPlace.mem_row.2 ⟨k, by omega, by simp⟩)
      · rw [hget k hk, ← add_plain]
        exact hc
end Go.Proofs.YtbghdelpnodijaaDoor
