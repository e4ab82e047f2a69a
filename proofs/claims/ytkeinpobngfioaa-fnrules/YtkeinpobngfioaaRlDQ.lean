/- rulesOf: a list of the rules of its own. No statement is proved here. -/
import Derived.Test.YtkeinpobngfioaaRows
import Derived.Test.YtkeinpobngfioaaLemQ
import Derived.Test.YtkeinpobngfioaaLFLemQ
import Derived.Test.YtkeinpobngfioaaDTabQ
import Derived.Test.YtkeinpobngfioaaHkTQ
import Derived.Test.YtkeinpobngfioaaRuLQ
import Derived.Test.YtkeinpobngfioaaRuFQ
import Derived.Test.YtkeinpobngfioaaFpSQ
import Derived.Test.YtkeinpobngfioaaFrCQ
import Derived.Test.YtkeinpobngfioaaRlBQ
import Derived.WalkKit
import Derived.ProofKit
import Derived.Below
import Derived.WalkSpells
import Derived.Deep.RegionWith
import Derived.Deep.RegionHeld
set_option linter.unusedVariables false
namespace Go.Proofs.Ytkeinpobngfioaa.Ru
open Go.ChangeShapes Go.WideShapes Go.ChangeAt Go.RowKit
theorem new0 (w : World) (x : ByteArray) (t : TypeId) : (w.alloc (.cells #[.string x] t)).cell? ⟨w.heap.size, 0, none⟩ = some (.string x) := Rs.new w #[.string x] t 0 _ rfl
theorem zcR {w w' : World} {g o : Nat} {v : Value} (b : Below w.heap.size w w') (h : w.cell? ⟨g, o, none⟩ = some v) : w'.cell? ⟨g, o, none⟩ = some v := (Fr.ofBelow (lo := 0) (hi := 0) b).cell h (.inr (Nat.zero_le _))
theorem cA0 {w : World} {g o : Nat} {v : Value} (h : w.cell? ⟨g, o, none⟩ = some v) (q : Obj) : (w.alloc q).cell? ⟨g, o, none⟩ = some v := zcR (allocBelow w q) h
theorem cA1 {w : World} {g o : Nat} {v : Value} (h : w.cell? ⟨g, o, none⟩ = some v) (q : Obj) : (w.alloc q).drew.cell? ⟨g, o, none⟩ = some v := cA0 h q
theorem cA2 {w : World} {g o : Nat} {v : Value} (h : w.cell? ⟨g, o, none⟩ = some v) (q q' : Obj) : ((w.alloc q).alloc q').drew.cell? ⟨g, o, none⟩ = some v := cA0 (cA0 h q) q'
theorem n1 (w : World) (x : ByteArray) (t : TypeId) : (w.alloc (.cells #[.string x] t)).drew.cell? ⟨w.heap.size, 0, none⟩ = some (.string x) := new0 w x t
theorem n2 (w : World) (x : ByteArray) (t : TypeId) (q : Obj) : ((w.alloc (.cells #[.string x] t)).alloc q).drew.cell? ⟨w.heap.size, 0, none⟩ = some (.string x) := cA0 (new0 w x t) q
theorem n3 (w : World) (x : ByteArray) (t : TypeId) (q : Obj) : ((w.alloc q).alloc (.cells #[.string x] t)).drew.cell? ⟨w.heap.size + 1, 0, none⟩ = some (.string x) := by
  have h : ((w.alloc q).alloc (.cells #[.string x] t)).cell? ⟨(w.alloc q).heap.size, 0, none⟩ = some (.string x) := new0 (w.alloc q) x t
  have e : (w.alloc q).heap.size = w.heap.size + 1 := by simp
  rw [e] at h
  exact h
theorem bN1 {w w' : World} {q : Obj} (b : Below ((w.alloc q).drew).heap.size (w.alloc q).drew w') : Below w.heap.size w w' := (below_drew (allocBelow w q)).trans (b.mono (by show w.heap.size ≤ (w.alloc q).heap.size; simp))
theorem bN2 {w w' : World} {q q' : Obj} (b : Below (((w.alloc q).alloc q').drew).heap.size ((w.alloc q).alloc q').drew w') : Below w.heap.size w w' := (below_drew ((allocBelow w q).trans ((allocBelow (w.alloc q) q').mono (by simp)))).trans (b.mono (by show w.heap.size ≤ ((w.alloc q).alloc q').heap.size; simp; omega))
theorem bN3 {wr w w' : World} {q : Obj} (B : Below wr.heap.size wr w) (b : Below (w.alloc q).heap.size (w.alloc q) w') : Below wr.heap.size wr w' := B.trans (((allocBelow w q).trans (b.mono (by simp))).mono B.size)
theorem bN4 {wr w w' : World} (B : Below wr.heap.size wr w) (b : Below w.heap.size w w') : Below wr.heap.size wr w' := B.trans (b.mono B.size)
/-- joined of one text that lies at the head of a block. -/
theorem joined1 (W : World) (X : Nat) (x : ByteArray) (h : W.cell? ⟨X, 0, none⟩ = some (.string x)) (hx : x.size ≤ 1048576) :
    Calls Try.prog 21 #[.slice (some ⟨X, 0, none⟩) 1 1] W fun e w' => e = .returned (.string x) ∧ Below W.heap.size W w' := by
  have hS : SS W (some ⟨X, 0, none⟩) [x] := by
    refine ⟨fun k hk => ?_, fun k hk => ?_⟩
    · obtain rfl : k = 0 := by simpa using hk
      show x.size ≤ _
      omega
    · obtain rfl : k = 0 := by simpa using hk
      exact ⟨X, 0, rfl, cellLt h, h⟩
  have hJ := Jd.joinedC (some ⟨X, 0, none⟩) 1 [x] W hS (by simp) (by simp [tot]; omega)
  rw [catB_one] at hJ
  exact hJ
theorem bl_irr : ∀ a : List UInt8, Op.bytesLess a a = false
  | [] => rfl
  | x :: a => by
    have := bl_irr a
    simp [Op.bytesLess, this]
theorem bl_trans : ∀ a b c : List UInt8, Op.bytesLess a b = true → Op.bytesLess b c = true → Op.bytesLess a c = true
  | _, [], _, h, _ => by simp [Op.bytesLess] at h
  | _, _ :: _, [], _, h => by simp [Op.bytesLess] at h
  | [], _ :: _, _ :: _, _, _ => rfl
  | x :: a, y :: b, z :: c, h, k => by
    simp only [Op.bytesLess, Bool.or_eq_true, Bool.and_eq_true, decide_eq_true_eq, beq_iff_eq] at h k ⊢
    rcases h with h | ⟨rfl, h⟩
    · rcases k with k | ⟨rfl, k⟩
      · exact .inl (UInt8.lt_trans h k)
      · exact .inl h
    · rcases k with k | ⟨rfl, k⟩
      · exact .inl k
      · exact .inr ⟨rfl, bl_trans a b c h k⟩
theorem bl_total : ∀ a b : List UInt8, Op.bytesLess a b = true ∨ a = b ∨ Op.bytesLess b a = true
  | [], [] => .inr (.inl rfl)
  | [], _ :: _ => .inl rfl
  | _ :: _, [] => .inr (.inr rfl)
  | x :: a, y :: b => by
    simp only [Op.bytesLess, Bool.or_eq_true, Bool.and_eq_true, decide_eq_true_eq, beq_iff_eq]
    by_cases h1 : x < y
    · exact .inl (.inl h1)
    · by_cases h2 : y < x
      · exact .inr (.inr (.inl h2))
      · have e : x = y := by
          apply UInt8.toNat_inj.1
          have a1 : ¬ x.toNat < y.toNat := h1
          have a2 : ¬ y.toNat < x.toNat := h2
          omega
        subst e
        rcases bl_total a b with h | h | h
        · exact .inl (.inr ⟨rfl, h⟩)
        · exact .inr (.inl (by rw [h]))
        · exact .inr (.inr (.inr ⟨rfl, h⟩))
theorem cmp_lt : ∀ a b : List UInt8, decide (Lib.compareBytes a b < 0) = Op.bytesLess a b
  | [], [] => rfl
  | [], _ :: _ => rfl
  | _ :: _, [] => rfl
  | x :: a, y :: b => by
    have ih := cmp_lt a b
    unfold Lib.compareBytes Op.bytesLess
    by_cases h1 : x < y
    · simp [h1]
    · by_cases h2 : y < x
      · have h3 : ¬ x = y := fun e => by rw [e] at h1 h2; exact h1 h2
        simp [h1, h2, h3]
      · have e : x = y := by
          apply UInt8.toNat_inj.1
          have a1 : ¬ x.toNat < y.toNat := h1
          have a2 : ¬ y.toNat < x.toNat := h2
          omega
        subst e
        simp [h1, ih]
theorem rises_step {l : List Ob} (h : rf l = 0) {k : Nat} (hk : k + 1 < l.length) : Op.bytesLess (l.getD k onil).1.toList (l.getD (k + 1) onil).1.toList = true := by
  have e := (rf_zero h).2 (k + 1) hk
  unfold ruF at e
  split at e
  · cases e
  · split at e
    · cases e
    · rename_i h2
      have hle : leS (l.getD (k + 1) onil).1 (l.getD k onil).1 = false := by
        cases q : leS (l.getD (k + 1) onil).1 (l.getD k onil).1 with
        | false => rfl
        | true => exact absurd ⟨Nat.succ_pos k, q⟩ h2
      unfold leS at hle
      obtain ⟨q1, q2⟩ := Bool.or_eq_false_iff.1 hle
      rcases bl_total (l.getD k onil).1.toList (l.getD (k + 1) onil).1.toList with q | q | q
      · exact q
      · rw [q] at q2; simp at q2
      · rw [q1] at q; cases q
theorem rises {l : List Ob} (h : rf l = 0) (j : Nat) : ∀ k, j < k → k < l.length → Op.bytesLess (l.getD j onil).1.toList (l.getD k onil).1.toList = true := by
  intro k
  induction k with
  | zero => intro h1; omega
  | succ k ih =>
    intro h1 h2
    by_cases e : j = k
    · subst e; exact rises_step h h2
    · exact bl_trans _ _ _ (ih (by omega) (by omega)) (rises_step h h2)
theorem rises_last {l : List Ob} (h : rf l = 0) {k : Nat} (hk : k < l.length) : Last (l.take k) (l.getD k onil) := by
  intro j hj
  rw [List.length_take] at hj
  have e : (l.take k).getD j onil = l.getD j onil := by
    simp only [List.getD, List.getElem?_take]
    rw [if_pos (by omega)]
  rw [e]
  have hb := rises h j k (by omega) hk
  unfold cmR
  rw [ByteArray.toList_eq, ByteArray.toList_eq, ← cmp_lt] at hb
  exact of_decide_eq_true hb
set_option maxRecDepth 20000 in
set_option maxHeartbeats 4000000 in
theorem rulesOfC (a : Option Addr) (c : Nat) (l : List Ob) (w : World) (h : OB w.heap.size w a l) (hs : SmallO l) (hn : l.length ≤ 40) (h0 : rf l = 0) :
    Calls Try.prog 19 #[.slice a l.length c] w fun e w' => e = .returned (.pointer (some ⟨w.heap.size, 0, none⟩)) ∧ (∃ v, SL w' w.heap.size l v) ∧ Below w.heap.size w w' := by
  obtain ⟨b, hb⟩ : ∃ b, w.heap.size = b := ⟨_, rfl⟩
  obtain ⟨W1, hW1⟩ : ∃ W, w.alloc (.cells #[.func (.func 35) #[] #[], .slice none 0 0] 51) = W := ⟨_, rfl⟩
  have b1 : Below b w W1 := by rw [← hW1, ← hb]; exact allocBelow _ _
  have r1 : Rf W1 b [.func (.func 35) #[] #[], .slice none 0 0] := by rw [← hW1, ← hb]; exact Rf.new _ _ _
  have z1 : W1.heap.size = b + 1 := by rw [← hW1, ← hb]; simp
  have L1 : SL W1 b (l.take 0) (.slice none 0 0) := ⟨r1, ⟨rfl, .inl ⟨rfl, rfl⟩⟩, by omega⟩
  rw [hb]
  go_enter Try.func19, Try.ntmps19
  go_wp2
  clear hW1 r1
  go_loopw [4, 9] (fun _ i wr => ∃ (k : Nat) (v : Value), k ≤ l.length ∧ i = .int .i64 k ∧ SL wr b (l.take k) v ∧ Below b w wr) (fun _ i _ => l.length - (intOf i).toNat)
  case atStart => exact ⟨0, _, Nat.zero_le _, rfl, L1, b1⟩
  case round =>
    obtain ⟨k, v, hk, rfl, hL, bel⟩ := hrel
    have zr := hL.lt
    by_cases hlt : k < l.length
    · have qk : (k : Int) < (l.length : Int) := by omega
      obtain ⟨g, off, e, hg, d0, d1⟩ := (h.below (by rw [hb]; exact bel)) k hlt
      subst e
      have hA := fun W (p : SL W b (l.take k) v) => addEndC b (l.take k) v (l.getD k onil) W p (by rw [List.length_take]; omega) (rises_last h0 hlt)
      have hT : Hid (l.take (k + 1) = l.take k ++ [l.getD k onil]) := by
        show _ = _
        rw [List.take_succ_eq_append_getElem hlt]
        simp [List.getD, hlt]
      have hz := hs _ (ob_mem l k hlt)
      obtain ⟨C, hC⟩ : ∃ C, l.getD k onil = C := ⟨_, rfl⟩
      rw [hC] at d0 d1 hA hT hz
      obtain ⟨x0, x1⟩ := C
      simp only [] at d0 d1 hA hz
      have D0 := d0
      have D1 := d1
      have BD : Below wr.heap.size wr wr.drew := (Below.refl _ _).drew
      have hSL := hL
      clear hC hL h
      go_wp2_with fail
      go_region_held (fun W' => W'.cell? ⟨g, off + k * 2, none⟩ = some (.string x0) ∧ W'.cell? ⟨g, off + k * 2 + 1, none⟩ = some (.string x1)) (first | with_reducible exact ⟨d0, d1⟩ | exact ⟨d0, d1⟩ | exact ⟨cA1 d0 _, cA1 d1 _⟩ | exact ⟨cA2 d0 _ _, cA2 d1 _ _⟩ | exact ⟨cA0 d0 _, cA0 d1 _⟩)
        ((first
          | (go_at_call 21; (first | with_reducible refine (joined1 _ _ x0 (n1 _ _ _) hz.1).mono ?_ | with_reducible refine (joined1 _ _ x1 (n1 _ _ _) hz.2).mono ?_ | with_reducible refine (joined1 _ _ x0 (n2 _ _ _ _) hz.1).mono ?_ | with_reducible refine (joined1 _ _ x1 (n2 _ _ _ _) hz.2).mono ?_ | with_reducible refine (joined1 _ _ x0 (n3 _ _ _ _) hz.1).mono ?_ | with_reducible refine (joined1 _ _ x1 (n3 _ _ _ _) hz.2).mono ?_ | with_reducible refine (joined1 _ _ x0 (new0 _ _ _) hz.1).mono ?_ | with_reducible refine (joined1 _ _ x1 (new0 _ _ _) hz.2).mono ?_ | with_reducible refine (joined1 _ _ x0 (eL2) hz.1).mono ?_ | with_reducible refine (joined1 _ _ x1 (eL2) hz.2).mono ?_ | with_reducible refine (joined1 _ _ x0 (eL3) hz.1).mono ?_ | with_reducible refine (joined1 _ _ x1 (eL3) hz.2).mono ?_); rintro e w' ⟨rfl, b'⟩; (try have eL2 := zcR b' (n2 _ _ _ _)); (try have eL3 := zcR b' (n3 _ _ _ _)); have d0 : w'.cell? ⟨g, off + k * 2, none⟩ = some (.string x0) := zcR b' (by first | exact d0 | exact cA1 d0 _ | exact cA2 d0 _ _ | exact cA0 d0 _); have d1 : w'.cell? ⟨g, off + k * 2 + 1, none⟩ = some (.string x1) := zcR b' (by first | exact d1 | exact cA1 d1 _ | exact cA2 d1 _ _ | exact cA0 d1 _); have BE : Below wr.heap.size wr w' := (by first | exact bN1 b' | exact bN2 b' | exact bN3 BE b' | exact bN4 BE b'); clear b')
          | (go_at_call 20; refine (hA _ (hSL.below BE)).mono ?_; rintro e w4 ⟨rfl, ⟨v4, S4⟩, B4⟩; have d0 : w4.cell? ⟨g, off + k * 2, none⟩ = some (.string x0) := (B4.cell (p := ⟨g, off + k * 2, none⟩) (show g < b by omega)).trans d0; have d1 : w4.cell? ⟨g, off + k * 2 + 1, none⟩ = some (.string x1) := (B4.cell (p := ⟨g, off + k * 2 + 1, none⟩) (show g < b by omega)).trans d1)))
      all_goals
        have BF : Below b w w4 := (bel.trans (BE.mono (by omega))).trans B4
        rw [← hT.out] at S4
        clear BE B4 hA hSL bel d0 d1
        try go_wp2
        go_roundw
        case rel => exact ⟨k + 1, v4, by omega, by go_num, S4, BF⟩
        case measure => first | (simp [intOf]; omega) | simp [intOf]
    · have ek : l.take k = l := List.take_of_length_le (by omega)
      have qk : ¬ (k : Int) < (l.length : Int) := by omega
      rw [ek] at hL
      go_wp2
      go_ret
      exact ⟨rfl, ⟨v, hL⟩, bel⟩
end Go.Proofs.Ytkeinpobngfioaa.Ru
