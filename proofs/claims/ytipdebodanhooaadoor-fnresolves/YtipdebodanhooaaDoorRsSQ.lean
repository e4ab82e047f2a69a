/- ResolvePath of the specification. No statement is proved here. -/
import Derived.Test.YtipdebodanhooaaDoorRows
import Derived.Test.YtipdebodanhooaaDoorLemQ
import Derived.Test.YtipdebodanhooaaDoorDTabQ
import Derived.Test.YtipdebodanhooaaDoorHkTQ
import Derived.Test.YtipdebodanhooaaDoorFmCQ
import Derived.Test.YtipdebodanhooaaDoorIdLQ
import Derived.Test.YtipdebodanhooaaDoorEnLQ
import Derived.Test.YtipdebodanhooaaDoorIxMQ
import Derived.Test.YtipdebodanhooaaDoorIxNQ
import Derived.Test.YtipdebodanhooaaDoorIxSQ
import Derived.Test.YtipdebodanhooaaDoorSgCQ
import Derived.Test.YtipdebodanhooaaDoorSlBQ
import Derived.Test.YtipdebodanhooaaDoorSlDQ
import Derived.Test.YtipdebodanhooaaDoorSsBQ
import Derived.Test.YtipdebodanhooaaDoorClQQ
import Derived.Test.YtipdebodanhooaaDoorCpKQ
import Derived.Test.YtipdebodanhooaaDoorInEQ
import Derived.Test.YtipdebodanhooaaDoorSwMQ
import Derived.Test.YtipdebodanhooaaDoorSwCQ
import Derived.Test.YtipdebodanhooaaDoorSwSQ
import Derived.WalkKit
import Derived.ProofKit
import Derived.Below
import Derived.WalkSpells
import Derived.Deep.QuietTactic
import Derived.BigQuiet
import Derived.Maps.AppendAt
import Derived.Laws.Cover1
set_option linter.unusedVariables false
namespace Go.Proofs.YtipdebodanhooaaDoor.En
open Go.ChangeShapes Go.WideShapes Go.ChangeAt Go.RowKit
theorem ep_ofS {r z : Int} {L : List Ob} {w w' : World} {v : Value} {b : Nat} (hb : w.heap.size = b) (ho : w'.ownsRow b 62 4 v L.length (ocells L)) (hB : Below b w w') : EP r z L w (.returned (.agg #[.int .i64 r, .int .i64 z, v])) w' := by
  subst hb
  exact ⟨v, rfl, ho, hB⟩
theorem litS (w : World) : (w.alloc (.cells #[] 62)).ownsRow w.heap.size 62 4 (.slice (some ⟨w.heap.size, 0, none⟩) 0 0) ([] : List Ob).length (ocells []) := World.ownsRow_lit w #[] 0 (Nat.le_refl _) (Nat.zero_le _) rfl
theorem has_no {l : List ByteArray} {p : ByteArray} (h : ∀ j, j < l.length → ¬ l.getD j ByteArray.empty = p) : hasB l p = false := by
  cases e : hasB l p with
  | false => rfl
  | true =>
    obtain ⟨k, hk, q⟩ := hasB_yes.1 e
    exact absurd q (h k hk)
theorem l9HasC (base : Nat) (a : Option Addr) (c : Nat) (l : List ByteArray) (p : ByteArray) (w : World) (h : w.ownsRow base 9 1 (.slice a l.length c) l.length (l.map Value.string)) (hn : l.length ≤ 1048576) :
    Calls Tryd.prog 39 #[.slice a l.length c, .string p] w fun e w' => e = .returned (.bool (hasB l p)) ∧ w' = w := by
  go_enter Tryd.func39, Tryd.ntmps39
  go_wp2
  go_loopw [5] (fun vi wr => ∃ k : Nat, k ≤ l.length ∧ vi = .int .i64 (k : Int) ∧ wr = w ∧ Hid (∀ j, j < k → ¬ l.getD j ByteArray.empty = p)) (fun vi _ => l.length - (intOf vi).toNat)
  case atStart => exact ⟨0, Nat.zero_le _, rfl, rfl, fun j hj => absurd hj (by omega)⟩
  case round =>
    obtain ⟨k, hk, rfl, rfl, hA⟩ := hrel
    by_cases hlt : k < l.length
    · have q : (k : Int) < (l.length : Int) := by omega
      obtain ⟨g, e, d0, _⟩ := rowS h k hlt
      subst e
      by_cases hx : l.getD k ByteArray.empty = p
      · have HR : Hid (hasB l p = true) := hasB_yes.2 ⟨k, hlt, hx⟩
        have hb : ((l.getD k ByteArray.empty).toList == p.toList) = true := beq_bytes_true hx
        obtain ⟨X, hX⟩ : ∃ X, l.getD k ByteArray.empty = X := ⟨_, rfl⟩
        rw [hX] at d0 hb
        clear hA hx hX
        go_wp2
        go_ret
        exact ⟨by rw [HR.out]; rfl, rfl⟩
      · have HG : Hid (∀ j, j < k + 1 → ¬ l.getD j ByteArray.empty = p) := fun j hj => by
          by_cases e : j = k
          · rw [e]; exact hx
          · exact hA.out j (by omega)
        have hb : ((l.getD k ByteArray.empty).toList == p.toList) = false := beq_bytes_false hx
        obtain ⟨X, hX⟩ : ∃ X, l.getD k ByteArray.empty = X := ⟨_, rfl⟩
        rw [hX] at d0 hb
        clear hA hx hX
        go_wp2
        go_roundw
        case rel => exact ⟨k + 1, by omega, by go_num, by first | rfl | trivial, HG⟩
        case measure => first | (simp [intOf]; omega) | simp [intOf]
    · have HR : Hid (hasB l p = false) := has_no fun j hj => hA.out j (by omega)
      have q : ¬ (k : Int) < (l.length : Int) := by omega
      clear hA
      go_wp2
      go_ret
      exact ⟨by rw [HR.out]; rfl, rfl⟩
set_option maxRecDepth 20000 in
set_option maxHeartbeats 4000000 in
theorem l10ResolveC (a : Option Addr) (c : Nat) (l : List Ob) (p : ByteArray) (m : Int) (i : ByteArray) (w : World) (h : OB w.heap.size w a l) (h0 : ixf l = 0) :
    Calls Tryd.prog 40 #[.slice a l.length c, .string p, .int .i64 m, .string i] w fun e w' => PutP (rsU l p m i) w e w' := by
  obtain ⟨hn, hst⟩ := ixf_zero h0
  have hRi : Hid (Rise (rsF l p)) := rs_rise h0 p
  have hAp : Hid (Apart (rsF l p) (p, 0, m, i)) := rs_apart l p 0 m i
  obtain ⟨q, hq⟩ : ∃ q, w.heap.size = q := ⟨_, rfl⟩
  have HQ : Hid (w.heap.size = q) := hq
  obtain ⟨W0, hW0⟩ : ∃ W, w.alloc (.cells #[] 62) = W := ⟨_, rfl⟩
  have b0 : Below q w W0 := by rw [← hW0, ← hq]; exact allocBelow _ _
  have o0 : W0.ownsRow q 62 4 (.slice (some ⟨q, 0, none⟩) (rsF (l.take 0) p).length 0) (rsF (l.take 0) p).length (ocells (rsF (l.take 0) p)) := by rw [← hW0, ← hq]; exact litS w
  rw [hq] at h
  clear h0 hst
  go_enter Tryd.func40, Tryd.ntmps40
  go_wp2
  clear hW0 hq
  go_loopw [9, 10] (fun o i wr => ∃ (k tg tc : Nat), k ≤ l.length ∧ i = .int .i64 k ∧ o = .slice (some ⟨tg, 0, none⟩) (rsF (l.take k) p).length tc ∧ wr.ownsRow q 62 4 (.slice (some ⟨tg, 0, none⟩) (rsF (l.take k) p).length tc) (rsF (l.take k) p).length (ocells (rsF (l.take k) p)) ∧ Below q w wr) (fun _ i _ => l.length - (intOf i).toNat)
  case atStart => exact ⟨0, q, 0, Nat.zero_le _, rfl, rfl, o0, b0⟩
  case round =>
    obtain ⟨k, tg, tc, hk, rfl, rfl, ho, hbel⟩ := hrel
    clear o0 b0
    have hsz : q ≤ wr.heap.size := by have := hbel.size; have := HQ.out; omega
    by_cases hlt : k < l.length
    · have qk : (k : Int) < (l.length : Int) := by omega
      obtain ⟨g, off, e, hg, d0, d1, d2, d3⟩ := (obBelowAt h hbel (Nat.le_refl _)) k hlt
      subst e
      have hy := rsF_yes l p k hlt
      have hno := rsF_no l p k hlt
      have hln := rsF_len l p k
      obtain ⟨C, hCe⟩ : ∃ C, l.getD k onil = C := ⟨_, rfl⟩
      obtain ⟨x0, x1, x2, x3⟩ := C
      rw [hCe] at d0 d1 d2 d3 hy hno
      simp only [] at d0 d1 d2 d3 hy hno
      obtain ⟨T, hTe⟩ : ∃ T, rsF (l.take k) p = T := ⟨_, rfl⟩
      rw [hTe] at ho hy hno hln ⊢
      clear hCe hTe
      by_cases hx : x0 = p
      · have HN : Hid (rsF (l.take (k + 1)) p = T) := hno hx
        have hb : (x0.toList == p.toList) = true := beq_bytes_true hx
        have O1 : Hid (wr.ownsRow q 62 4 (.slice (some ⟨tg, 0, none⟩) T.length tc) T.length (ocells T)) := ho
        clear hy hno ho hx
        go_wp2
        go_roundw
        case rel => exact ⟨k + 1, tg, tc, by omega, by go_num, by rw [HN.out], by rw [HN.out]; exact O1.out, hbel⟩
        case measure => first | (simp [intOf]; omega) | simp [intOf]
      · have HY : Hid (rsF (l.take (k + 1)) p = T ++ [(x0, x1, x2, x3)]) := hy hx
        have hb : (x0.toList == p.toList) = false := beq_bytes_false hx
        have bN := allocBelow wr (.cells #[.string x0, .int .i64 x1, .int .i64 x2, .string x3] 62)
        have o4 := ho.kept (grownOfBelow bN none) (blockCases _ _ fun b c1 c2 => by cases c2)
        have nw := newE wr (x0, x1, x2, x3)
        have B4 : Below q w (wr.alloc (.cells #[.string x0, .int .i64 x1, .int .i64 x2, .string x3] 62)) := hbel.trans (bN.mono hsz)
        have z4 : q ≤ (wr.alloc (.cells #[.string x0, .int .i64 x1, .int .i64 x2, .string x3] 62)).heap.size := Nat.le_trans hsz bN.size
        clear hy hno ho hx bN hbel
        go_wp2_with (at_builtin; refine wpList_appE rfl (.tmp 25) (.tmp 30) rfl q (.slice (some ⟨tg, 0, none⟩) T.length tc) _ rfl o4 _ _ [(x0, x1, x2, x3)] rfl nw (by simp; omega) z4 ?_; intro v5 w5 o5 g5 n5 k5)
        have B5 : Below q w w5 := B4.grown g5 z4 (fun j hj => (o4.lt j hj).1)
        have hl2 : (T ++ [(x0, x1, x2, x3)]).length = T.length + 1 := by simp
        obtain ⟨tg2, tc2, rfl⟩ : ∃ tg tc, v5 = .slice (some ⟨tg, 0, none⟩) (T ++ [(x0, x1, x2, x3)]).length tc := by
          rcases o5.2 with ⟨_, hh⟩ | ⟨g, c, cur, e, _⟩
          · rw [hl2] at hh; omega
          · exact ⟨g, c, e⟩
        have O5 : Hid (w5.ownsRow q 62 4 (.slice (some ⟨tg2, 0, none⟩) (T ++ [(x0, x1, x2, x3)]).length tc2) (T ++ [(x0, x1, x2, x3)]).length (ocells (T ++ [(x0, x1, x2, x3)]))) := o5
        clear o4 nw g5 n5 B4 o5 hl2
        go_wp2
        go_roundw
        case rel => exact ⟨k + 1, tg2, tc2, by omega, by go_num, by rw [HY.out], by rw [HY.out]; exact O5.out, B5⟩
        case measure => first | (simp [intOf]; omega) | simp [intOf]
    · have qk : ¬ (k : Int) < (l.length : Int) := by omega
      have ek : l.take k = l := List.take_of_length_le (by omega)
      rw [ek] at ho ⊢
      have hRl := rsF_all l p
      by_cases hm : m = 0
      · subst hm
        have HF : Hid (PutP (rsU l p 0 i) w (.returned (.slice (some ⟨tg, 0, none⟩) (rsF l p).length tc)) wr) := by
          show PutP (rsU l p 0 i) _ _ _
          rw [show rsU l p 0 i = rsF l p from if_pos rfl]
          exact ⟨tg, tc, rfl, by rw [HQ.out]; exact ho, by rw [HQ.out]; exact hbel⟩
        clear ho hbel ek
        go_wp2
        go_ret
        exact HF.out
      · have qm : (m == 0) = false := beq_eq_false_iff_ne.2 hm
        have hgt := ho.lt tg rfl
        have hcap : (rsF l p).length ≤ tc := by
          rcases ho.2 with ⟨h', _⟩ | ⟨g', c', cur, h', hb, hh, h1, h2, h3, h4⟩
          · cases h'
          · simp only [Value.slice.injEq] at h'; omega
        have hP := l10PutC tg tc (rsF l p) (p, 0, m, i) wr (OB.of ho) (by omega) hcap (by omega) hRi.out hAp.out
        have HU : Hid (rsU l p m i = insL (rsF l p) (pe (rsF l p) (p, 0, m, i)) (p, 0, m, i)) := if_neg hm
        rw [← HU.out] at hP
        simp only [] at hP
        clear ho hRi hAp hm ek
        go_wp2_with fail
        refine hP.mono ?_; rintro e w6 ⟨ug, uc, rfl, o6, b6⟩
        have HF : Hid (PutP (rsU l p m i) w (.returned (.slice (some ⟨ug, 0, none⟩) (rsU l p m i).length uc)) w6) := ⟨ug, uc, rfl, ownMonoF o6 (by rw [HQ.out]; omega), by rw [HQ.out]; exact hbel.trans (b6.mono hsz)⟩
        generalize (rsU l p m i).length = M at *
        clear o6 b6 hbel hP
        go_wp2
        go_ret
        exact HF.out
set_option maxRecDepth 20000 in
set_option maxHeartbeats 4000000 in
theorem specResolvePath (a : Option Addr) (c : Nat) (l : List Ob) (p : ByteArray) (m : Int) (i : ByteArray) (w : World) (h : OB w.heap.size w a l) (hs : SmallO l) (hn : l.length ≤ 1048576) (hp : p.size ≤ 1048576) (hi : i.size ≤ 1048576) :
    Calls Tryd.prog 10 #[.slice a l.length c, .string p, .int .i64 m, .string i] w fun e w' => EP (rsC l p m i) 0 (rsL l p m i) w e w' := by
  obtain ⟨b, hb⟩ : ∃ b, w.heap.size = b := ⟨_, rfl⟩
  have HB : Hid (w.heap.size = b) := hb
  obtain ⟨W1, hW1⟩ : ∃ W, w.alloc (.cells #[.int .i64 0, .int .i64 0, .slice none 0 0] 28) = W := ⟨_, rfl⟩
  have b1 : Below b w W1 := by rw [← hW1, ← hb]; exact allocBelow _ _
  have r1 : Rf W1 b [.int .i64 0, .int .i64 0, .slice none 0 0] := by rw [← hW1, ← hb]; exact Rf.new _ #[.int .i64 0, .int .i64 0, .slice none 0 0] _
  have Z1 : b + 1 ≤ W1.heap.size := by rw [← hW1, ← hb]; simp
  have h1 : OB W1.heap.size W1 a l := (h.below (by rw [hb]; exact b1)).mono (by omega)
  have hA := specIndexFault a c l W1 h1 hs hn
  by_cases h0 : ixf l = 0
  · rw [h0] at hA
    have hln := (ixf_zero h0).1
    go_enter Tryd.func10, Tryd.ntmps10
    go_wp2_with fail
    refine hA.mono ?_
    clear hA hW1 hb h
    rintro e w2 ⟨rfl, b2⟩
    have B2 : Below b w w2 := b1.trans (b2.mono (by omega))
    have z2 := Nat.le_trans Z1 b2.size
    have r2 := r1.below (by omega) b2
    have h2 := (h1.below b2).mono (B' := w2.heap.size) (Nat.le_trans (Nat.le_refl _) b2.size)
    have hC := l10ClashesC a c l w2 h2 h0
    have hcl : (cl l).length ≤ 1048570 := by have := cl_len l l.length; rw [List.take_length] at this; omega
    clear h1 b1 r1 b2
    go_wp2_with fail
    refine hC.mono ?_; rintro e w3 ⟨g3, c3, rfl, o3, b3⟩
    have hH := l9HasC _ (some ⟨g3, 0, none⟩) c3 (cl l) p w3 o3 (by omega)
    have B3 : Below b w w3 := B2.trans (b3.mono (by omega))
    have z3 := Nat.le_trans z2 b3.size
    have r3 := r2.below (by omega) b3
    have h3 := (h2.below b3).mono (B' := w3.heap.size) b3.size
    clear hC r2 h2 B2 z2 b3 o3
    generalize (cl l).length = M at *
    cases hhb : hasB (cl l) p with
    | false =>
      have HC : Hid (rsC l p m i = 4 ∧ rsL l p m i = []) := rs_none h0 hhb
      rw [hhb] at hH
      clear hhb h0
      go_wp2_with fail
      refine hH.mono ?_; rintro e w3 ⟨rfl, rfl⟩
      have c0 := r3.at_ 0 _ rfl
      have c1 := r3.at_ 1 _ rfl
      have c2 := r3.at_ 2 _ rfl
      have f0 := r3.fz 0
      have f1 := r3.fz 1
      have f2 := r3.fz 2
      have RV := ((r3.set (o := 0) (by simp) (.int .i64 4)).set (o := 1) (by simp) (.int .i64 0)).set (o := 2) (by simp) (.slice none 0 0)
      have BV := ((B3.setCell (p := ⟨b, 0, none⟩) (by show b ≤ b; omega) (.int .i64 4)).setCell (p := ⟨b, 1, none⟩) (by show b ≤ b; omega) (.int .i64 0)).setCell (p := ⟨b, 2, none⟩) (by show b ≤ b; omega) (.slice none 0 0)
      obtain ⟨V, hV⟩ : ∃ V, ((w3.setCell ⟨b, 0, none⟩ (.int .i64 4)).setCell ⟨b, 1, none⟩ (.int .i64 0)).setCell ⟨b, 2, none⟩ (.slice none 0 0) = V := ⟨_, rfl⟩
      rw [hV] at RV BV
      have HV : Hid (_ = V) := hV
      have v0 := RV.at_ 0 _ rfl
      have v1 := RV.at_ 1 _ rfl
      have v2 := RV.at_ 2 _ rfl
      clear hV RV r3 B3
      go_wp2
      rw [HV.out]
      refine bodyPost_ret (v := .agg #[.int .i64 4, .int .i64 0, .slice none 0 0]) (by simp [results, Tryd.results10, go_sem, v0, v1, v2]) rfl ?_
      rw [HC.out.1, HC.out.2]
      exact ep_ofS HB.out (nilE _ _) BV
    | true =>
      rw [hhb] at hH
      have hRs := fun W y => l10ResolveC a c l p m i W y h0
      go_wp2_with fail
      refine hH.mono ?_; rintro e w3 ⟨rfl, rfl⟩
      clear hH
      by_cases hm : m = 0
      · subst hm
        cases hii : (i.toList == []) with
        | false =>
          have HC : Hid (rsC l p 0 i = 1 ∧ rsL l p 0 i = []) := rs_form h0 hhb (.inl rfl) hii
          clear hhb h0
          have c0 := r3.at_ 0 _ rfl
          have c1 := r3.at_ 1 _ rfl
          have c2 := r3.at_ 2 _ rfl
          have f0 := r3.fz 0
          have f1 := r3.fz 1
          have f2 := r3.fz 2
          have RV := ((r3.set (o := 0) (by simp) (.int .i64 1)).set (o := 1) (by simp) (.int .i64 0)).set (o := 2) (by simp) (.slice none 0 0)
          have BV := ((B3.setCell (p := ⟨b, 0, none⟩) (by show b ≤ b; omega) (.int .i64 1)).setCell (p := ⟨b, 1, none⟩) (by show b ≤ b; omega) (.int .i64 0)).setCell (p := ⟨b, 2, none⟩) (by show b ≤ b; omega) (.slice none 0 0)
          obtain ⟨V, hV⟩ : ∃ V, ((w3.setCell ⟨b, 0, none⟩ (.int .i64 1)).setCell ⟨b, 1, none⟩ (.int .i64 0)).setCell ⟨b, 2, none⟩ (.slice none 0 0) = V := ⟨_, rfl⟩
          rw [hV] at RV BV
          have HV : Hid (_ = V) := hV
          have v0 := RV.at_ 0 _ rfl
          have v1 := RV.at_ 1 _ rfl
          have v2 := RV.at_ 2 _ rfl
          clear hV RV r3 B3
          go_wp2
          rw [HV.out]
          refine bodyPost_ret (v := .agg #[.int .i64 1, .int .i64 0, .slice none 0 0]) (by simp [results, Tryd.results10, go_sem, v0, v1, v2]) rfl ?_
          rw [HC.out.1, HC.out.2]
          exact ep_ofS HB.out (nilE _ _) BV
        | true =>
          have HR : Hid (rsC l p 0 i = 0 ∧ rsL l p 0 i = rsU l p 0 i) := rs_ok h0 hhb (.inl rfl) hii
          clear hhb h0
          go_wp2_with fail
          refine (hRs _ h3).mono ?_; rintro e w9 ⟨tg, tc, rfl, sv, b9⟩
          have r9 := r3.below (by omega) b9
          have B9 : Below b w w9 := B3.trans (b9.mono (by omega))
          have o9 := ownMonoF sv (b := b + 1) (by omega)
          obtain ⟨n, hnn⟩ : ∃ n, (rsU l p 0 i).length = n := ⟨_, rfl⟩
          rw [hnn] at o9 ⊢
          have HN : Hid ((rsU l p 0 i).length = n) := hnn
          clear hnn hRs h3 r3 B3 b9 sv z3
          have c0 := r9.at_ 0 _ rfl
          have c1 := r9.at_ 1 _ rfl
          have c2 := r9.at_ 2 _ rfl
          have f0 := r9.fz 0
          have f1 := r9.fz 1
          have f2 := r9.fz 2
          have RV := ((r9.set (o := 0) (by simp) (.int .i64 0)).set (o := 1) (by simp) (.int .i64 0)).set (o := 2) (by simp) (.slice (some ⟨tg, 0, none⟩) n tc)
          have BV := ((B9.setCell (p := ⟨b, 0, none⟩) (by show b ≤ b; omega) (.int .i64 0)).setCell (p := ⟨b, 1, none⟩) (by show b ≤ b; omega) (.int .i64 0)).setCell (p := ⟨b, 2, none⟩) (by show b ≤ b; omega) (.slice (some ⟨tg, 0, none⟩) n tc)
          have oV := (ownMonoF o9 (b := b) (by omega)).kept (grownTrans (grownTrans (grownSet _ (b) 0 (.int .i64 0)) (grownSet _ (b) 1 (.int .i64 0))) (grownSet _ (b) 2 (.slice (some ⟨tg, 0, none⟩) n tc))) (blockCases _ _ fun j q1 q2 => by cases q2; have := (o9.lt _ q1).1; omega)
          obtain ⟨V, hV⟩ : ∃ V, ((w9.setCell ⟨b, 0, none⟩ (.int .i64 0)).setCell ⟨b, 1, none⟩ (.int .i64 0)).setCell ⟨b, 2, none⟩ (.slice (some ⟨tg, 0, none⟩) n tc) = V := ⟨_, rfl⟩
          rw [hV] at RV BV oV
          have HV : Hid (_ = V) := hV
          have v0 := RV.at_ 0 _ rfl
          have v1 := RV.at_ 1 _ rfl
          have v2 := RV.at_ 2 _ rfl
          clear hV RV r9 B9 o9
          go_wp2
          rw [HV.out]
          refine bodyPost_ret (v := .agg #[.int .i64 0, .int .i64 0, .slice (some ⟨tg, 0, none⟩) n tc]) (by simp [results, Tryd.results10, go_sem, v0, v1, v2]) rfl ?_
          have E9 : EP 0 0 (rsU l p 0 i) w (.returned (.agg #[.int .i64 0, .int .i64 0, .slice (some ⟨tg, 0, none⟩) n tc])) V := ep_ofS HB.out (by rw [HN.out]; exact oV) BV
          rw [HR.out.1, HR.out.2]
          exact E9
      · have qm : (m == 0) = false := beq_eq_false_iff_ne.2 hm
        have qn : (m != 0) = true := by simp [hm]
        have hFM := fun W => l10ModeC m W
        cases hmo : inB m 1 2 with
        | false =>
          have HC : Hid (rsC l p m i = 3 ∧ rsL l p m i = []) := rs_mode h0 hhb (by rintro (x | x); exact hm x; rw [hmo] at x; cases x)
          rw [hmo] at hFM
          clear hhb h0 hm hmo
          go_wp2_with fail
          refine (hFM _).mono ?_; rintro e w3 ⟨rfl, rfl⟩
          have c0 := r3.at_ 0 _ rfl
          have c1 := r3.at_ 1 _ rfl
          have c2 := r3.at_ 2 _ rfl
          have f0 := r3.fz 0
          have f1 := r3.fz 1
          have f2 := r3.fz 2
          have RV := ((r3.set (o := 0) (by simp) (.int .i64 3)).set (o := 1) (by simp) (.int .i64 0)).set (o := 2) (by simp) (.slice none 0 0)
          have BV := ((B3.setCell (p := ⟨b, 0, none⟩) (by show b ≤ b; omega) (.int .i64 3)).setCell (p := ⟨b, 1, none⟩) (by show b ≤ b; omega) (.int .i64 0)).setCell (p := ⟨b, 2, none⟩) (by show b ≤ b; omega) (.slice none 0 0)
          obtain ⟨V, hV⟩ : ∃ V, ((w3.setCell ⟨b, 0, none⟩ (.int .i64 3)).setCell ⟨b, 1, none⟩ (.int .i64 0)).setCell ⟨b, 2, none⟩ (.slice none 0 0) = V := ⟨_, rfl⟩
          rw [hV] at RV BV
          have HV : Hid (_ = V) := hV
          have v0 := RV.at_ 0 _ rfl
          have v1 := RV.at_ 1 _ rfl
          have v2 := RV.at_ 2 _ rfl
          clear hV RV r3 B3
          go_wp2
          rw [HV.out]
          refine bodyPost_ret (v := .agg #[.int .i64 3, .int .i64 0, .slice none 0 0]) (by simp [results, Tryd.results10, go_sem, v0, v1, v2]) rfl ?_
          rw [HC.out.1, HC.out.2]
          exact ep_ofS HB.out (nilE _ _) BV
        | true =>
          rw [hmo] at hFM
          have hII := fun W => l6Is 1 (.inl rfl) i W
          cases hof : isOf 1 i with
          | false =>
            have HC : Hid (rsC l p m i = 1 ∧ rsL l p m i = []) := rs_form h0 hhb (.inr hmo) (by unfold rsI; rw [if_neg hm]; exact hof)
            rw [hof] at hII
            clear hhb h0 hm hmo hof
            go_wp2_with fail
            refine (hFM _).mono ?_; rintro e w3 ⟨rfl, rfl⟩
            go_wp2_with fail
            refine (hII _).mono ?_; rintro e w6 ⟨rfl, n6, hw6⟩
            have r6 : Rf w6 b [.int .i64 0, .int .i64 0, .slice none 0 0] := by rw [hw6]; exact ⟨r3.at_, r3.fz⟩
            have B6 : Below b w w6 := by rw [hw6]; exact below_drewN' B3 _
            clear hw6 r3 B3
            have c0 := r6.at_ 0 _ rfl
            have c1 := r6.at_ 1 _ rfl
            have c2 := r6.at_ 2 _ rfl
            have f0 := r6.fz 0
            have f1 := r6.fz 1
            have f2 := r6.fz 2
            have RV := ((r6.set (o := 0) (by simp) (.int .i64 1)).set (o := 1) (by simp) (.int .i64 0)).set (o := 2) (by simp) (.slice none 0 0)
            have BV := ((B6.setCell (p := ⟨b, 0, none⟩) (by show b ≤ b; omega) (.int .i64 1)).setCell (p := ⟨b, 1, none⟩) (by show b ≤ b; omega) (.int .i64 0)).setCell (p := ⟨b, 2, none⟩) (by show b ≤ b; omega) (.slice none 0 0)
            obtain ⟨V, hV⟩ : ∃ V, ((w6.setCell ⟨b, 0, none⟩ (.int .i64 1)).setCell ⟨b, 1, none⟩ (.int .i64 0)).setCell ⟨b, 2, none⟩ (.slice none 0 0) = V := ⟨_, rfl⟩
            rw [hV] at RV BV
            have HV : Hid (_ = V) := hV
            have v0 := RV.at_ 0 _ rfl
            have v1 := RV.at_ 1 _ rfl
            have v2 := RV.at_ 2 _ rfl
            clear hV RV r6 B6
            go_wp2
            rw [HV.out]
            refine bodyPost_ret (v := .agg #[.int .i64 1, .int .i64 0, .slice none 0 0]) (by simp [results, Tryd.results10, go_sem, v0, v1, v2]) rfl ?_
            rw [HC.out.1, HC.out.2]
            exact ep_ofS HB.out (nilE _ _) BV
          | true =>
            have HR : Hid (rsC l p m i = 0 ∧ rsL l p m i = rsU l p m i) := rs_ok h0 hhb (.inr hmo) (by unfold rsI; rw [if_neg hm]; exact hof)
            rw [hof] at hII
            clear hhb h0 hm hmo hof
            go_wp2_with fail
            refine (hFM _).mono ?_; rintro e w3 ⟨rfl, rfl⟩
            go_wp2_with fail
            refine (hII _).mono ?_; rintro e w6 ⟨rfl, n6, hw6⟩
            have r6 : Rf w6 b [.int .i64 0, .int .i64 0, .slice none 0 0] := by rw [hw6]; exact ⟨r3.at_, r3.fz⟩
            have B6 : Below b w w6 := by rw [hw6]; exact below_drewN' B3 _
            have h6 : OB w6.heap.size w6 a l := by rw [hw6]; exact h3
            have z6 : b + 1 ≤ w6.heap.size := by rw [hw6]; exact z3
            clear hw6 r3 B3 h3 z3 hFM hII
            go_wp2_with fail
            refine (hRs _ h6).mono ?_; rintro e w9 ⟨tg, tc, rfl, sv, b9⟩
            have r9 := r6.below (by omega) b9
            have B9 : Below b w w9 := B6.trans (b9.mono (by omega))
            have o9 := ownMonoF sv (b := b + 1) (by omega)
            obtain ⟨n, hnn⟩ : ∃ n, (rsU l p m i).length = n := ⟨_, rfl⟩
            rw [hnn] at o9 ⊢
            have HN : Hid ((rsU l p m i).length = n) := hnn
            clear hnn hRs h6 r6 B6 b9 sv z6
            have c0 := r9.at_ 0 _ rfl
            have c1 := r9.at_ 1 _ rfl
            have c2 := r9.at_ 2 _ rfl
            have f0 := r9.fz 0
            have f1 := r9.fz 1
            have f2 := r9.fz 2
            have RV := ((r9.set (o := 0) (by simp) (.int .i64 0)).set (o := 1) (by simp) (.int .i64 0)).set (o := 2) (by simp) (.slice (some ⟨tg, 0, none⟩) n tc)
            have BV := ((B9.setCell (p := ⟨b, 0, none⟩) (by show b ≤ b; omega) (.int .i64 0)).setCell (p := ⟨b, 1, none⟩) (by show b ≤ b; omega) (.int .i64 0)).setCell (p := ⟨b, 2, none⟩) (by show b ≤ b; omega) (.slice (some ⟨tg, 0, none⟩) n tc)
            have oV := (ownMonoF o9 (b := b) (by omega)).kept (grownTrans (grownTrans (grownSet _ (b) 0 (.int .i64 0)) (grownSet _ (b) 1 (.int .i64 0))) (grownSet _ (b) 2 (.slice (some ⟨tg, 0, none⟩) n tc))) (blockCases _ _ fun j q1 q2 => by cases q2; have := (o9.lt _ q1).1; omega)
            obtain ⟨V, hV⟩ : ∃ V, ((w9.setCell ⟨b, 0, none⟩ (.int .i64 0)).setCell ⟨b, 1, none⟩ (.int .i64 0)).setCell ⟨b, 2, none⟩ (.slice (some ⟨tg, 0, none⟩) n tc) = V := ⟨_, rfl⟩
            rw [hV] at RV BV oV
            have HV : Hid (_ = V) := hV
            have v0 := RV.at_ 0 _ rfl
            have v1 := RV.at_ 1 _ rfl
            have v2 := RV.at_ 2 _ rfl
            clear hV RV r9 B9 o9
            go_wp2
            rw [HV.out]
            refine bodyPost_ret (v := .agg #[.int .i64 0, .int .i64 0, .slice (some ⟨tg, 0, none⟩) n tc]) (by simp [results, Tryd.results10, go_sem, v0, v1, v2]) rfl ?_
            have E9 : EP 0 0 (rsU l p m i) w (.returned (.agg #[.int .i64 0, .int .i64 0, .slice (some ⟨tg, 0, none⟩) n tc])) V := ep_ofS HB.out (by rw [HN.out]; exact oV) BV
            rw [HR.out.1, HR.out.2]
            exact E9
  · have HC : Hid (rsC l p m i = ixf l ∧ rsL l p m i = []) := rs_bad h0
    have q : (ixf l != 0) = true := by simpa using h0
    obtain ⟨R, hRe⟩ : ∃ R, ixf l = R := ⟨_, rfl⟩
    rw [hRe] at hA q HC
    clear h0 hRe
    go_enter Tryd.func10, Tryd.ntmps10
    go_wp2_with fail
    refine hA.mono ?_
    clear hA hW1 hb h
    rintro e w2 ⟨rfl, b2⟩
    have B2 : Below b w w2 := b1.trans (b2.mono (by omega))
    have r2 := r1.below (by omega) b2
    clear r1 b2 b1 h1
    have c0 := r2.at_ 0 _ rfl
    have c1 := r2.at_ 1 _ rfl
    have c2 := r2.at_ 2 _ rfl
    have f0 := r2.fz 0
    have f1 := r2.fz 1
    have f2 := r2.fz 2
    have RV := ((r2.set (o := 0) (by simp) (.int .i64 R)).set (o := 1) (by simp) (.int .i64 0)).set (o := 2) (by simp) (.slice none 0 0)
    have BV := ((B2.setCell (p := ⟨b, 0, none⟩) (by show b ≤ b; omega) (.int .i64 R)).setCell (p := ⟨b, 1, none⟩) (by show b ≤ b; omega) (.int .i64 0)).setCell (p := ⟨b, 2, none⟩) (by show b ≤ b; omega) (.slice none 0 0)
    obtain ⟨V, hV⟩ : ∃ V, ((w2.setCell ⟨b, 0, none⟩ (.int .i64 R)).setCell ⟨b, 1, none⟩ (.int .i64 0)).setCell ⟨b, 2, none⟩ (.slice none 0 0) = V := ⟨_, rfl⟩
    rw [hV] at RV BV
    have HV : Hid (_ = V) := hV
    have v0 := RV.at_ 0 _ rfl
    have v1 := RV.at_ 1 _ rfl
    have v2 := RV.at_ 2 _ rfl
    clear hV RV r2 B2
    go_wp2
    rw [HV.out]
    refine bodyPost_ret (v := .agg #[.int .i64 R, .int .i64 0, .slice none 0 0]) (by simp [results, Tryd.results10, go_sem, v0, v1, v2]) rfl ?_
    rw [HC.out.1, HC.out.2]
    exact ep_ofS HB.out (nilE _ _) BV
end Go.Proofs.YtipdebodanhooaaDoor.En
