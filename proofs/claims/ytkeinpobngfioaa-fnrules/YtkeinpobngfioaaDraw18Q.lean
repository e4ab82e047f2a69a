/- The draws of the specification that make rules. No statement is proved here. -/
import Derived.Test.YtkeinpobngfioaaRows
import Derived.Test.YtkeinpobngfioaaLemQ
import Derived.Test.YtkeinpobngfioaaMarksQ
import Derived.Test.YtkeinpobngfioaaDTabQ
import Derived.Test.YtkeinpobngfioaaHkTQ
import Derived.Test.YtkeinpobngfioaaTFQ
import Derived.Test.YtkeinpobngfioaaKpJQ
import Derived.Test.YtkeinpobngfioaaDrawQ
import Derived.Test.YtkeinpobngfioaaFpSQ
import Derived.Test.YtkeinpobngfioaaDraw3SQ
import Derived.Test.YtkeinpobngfioaaDraw5Q
import Derived.Test.YtkeinpobngfioaaDraw15Q
import Derived.Test.YtkeinpobngfioaaMxJQ
import Derived.Test.YtkeinpobngfioaaTvMQ
import Derived.Test.YtkeinpobngfioaaNoSQ
import Derived.Test.YtkeinpobngfioaaRuLQ
import Derived.Test.YtkeinpobngfioaaRuFQ
import Derived.Test.YtkeinpobngfioaaFrCQ
import Derived.Test.YtkeinpobngfioaaRlBQ
import Derived.Test.YtkeinpobngfioaaRlEQ
import Derived.Test.YtkeinpobngfioaaCpKQ
import Derived.Test.YtkeinpobngfioaaRlHQ
import Derived.Test.YtkeinpobngfioaaRlGQ
import Derived.WalkKit
import Derived.ProofKit
import Derived.Below
import Derived.WalkSpells
import Derived.Maps.AppendAt
import Derived.Deep.Onto
import Derived.Deep.CutRange
import Derived.Lib.SlBytesRow
import Derived.Test.YtkeinpobngfioaaLFLemQ
import Derived.Test.YtkeinpobngfioaaRlDQ
set_option linter.unusedVariables false
namespace Go.Proofs.Ytkeinpobngfioaa.Ru
open Go.ChangeShapes Go.WideShapes Go.ChangeAt Go.RowKit
open No (noT sml_of noT_size l13Normal)
theorem tf_short {s : ByteArray} (h : s.size ≤ 100) : tf s = 0 := tf_ok (by have := lines_le s; omega)
theorem tx_short {a b c : ByteArray} (h1 : a.size ≤ 100) (h2 : b.size ≤ 100) (h3 : c.size ≤ 100) : tx3 a b c = 0 := by
  unfold tx3
  rw [if_pos (tf_short h1), if_pos (tf_short h2), tf_short h3]
theorem no_short {a b c : ByteArray} (h1 : a.size ≤ 72) (h2 : b.size ≤ 100) (h3 : c.size ≤ 100) : (noT (ckT (linesOf a) (linesOf b) (linesOf c))).size ≤ 1000000 := by
  have hS := sml_of (tx_short (show a.size ≤ 100 by omega) h2 h3)
  have hL := ckT_len (linesOf a) (linesOf b) (linesOf c)
  have hl := lines_le a
  have hN := noT_size hS _ (Nat.le_refl _)
  rw [List.take_length] at hN
  have h9 : (ckT (linesOf a) (linesOf b) (linesOf c)).length ≤ 145 := by omega
  have h8 := Nat.mul_le_mul_right 6100 h9
  omega
def SomePost (N b : Nat) (a : Option Addr) (n cap : Nat) (k : Int) (w : World) (e : Ending) (w' : World) : Prop := ∃ (x : ByteArray) (k' : Int), e = .returned (.string x) ∧ x.size ≤ 1000000 ∧ Src N w' b a n cap k' ∧ k' ≤ k + 100 ∧ w.grownBy w' (some b)
set_option maxRecDepth 20000 in
set_option maxHeartbeats 4000000 in
theorem l13Some (N b : Nat) (a : Option Addr) (n cap : Nat) (k : Int) (w : World) (h : Src N w b a n cap k) (hk : k ≤ 10) :
    Calls Try.prog 12 #[.pointer (some ⟨b, 0, none⟩)] w fun e w' => SomePost N b a n cap k w e w' := by
  go_enter Try.func12, Try.ntmps12
  go_wp2_with fail
  refine (l4Three N b a n cap k _ h hk).mono ?_; rintro e w2 ⟨xs, ys, zs, gx, cx, gy, cy, gz, cz, k2, rfl, lx, ly, lz, mx, my, mz, ox, oy, oz, s2, hk2, g2⟩
  have SX := SS_ownN ox (mx.sizesN (by omega))
  have SY := SS_ownN oy (my.sizesN (by omega))
  have SZ := SS_ownN oz (mz.sizesN (by omega))
  have tx := mx.totN
  have ty := my.totN
  have tz := mz.totN
  have zx := catB_size xs
  have zy := catB_size ys
  have zz := catB_size zs
  clear ox oy oz h
  go_wp2_with fail
  refine (l1Join _ _ _ _ SX (by omega) (by omega)).mono ?_; rintro e w3 ⟨rfl, rfl⟩
  go_wp2_with fail
  refine (l1Join _ _ _ _ SY (by omega) (by omega)).mono ?_; rintro e w4 ⟨rfl, rfl⟩
  go_wp2_with fail
  refine (l1Join _ _ _ _ SZ (by omega) (by omega)).mono ?_; rintro e w5 ⟨rfl, rfl⟩
  obtain ⟨X, hX⟩ : ∃ x, catB xs = x := ⟨_, rfl⟩
  obtain ⟨Y, hY⟩ : ∃ x, catB ys = x := ⟨_, rfl⟩
  obtain ⟨Z, hZ⟩ : ∃ x, catB zs = x := ⟨_, rfl⟩
  rw [hX] at zx ⊢
  rw [hY] at zy ⊢
  rw [hZ] at zz ⊢
  have zX : X.size ≤ 72 := by omega
  have zY : Y.size ≤ 100 := by omega
  have zZ : Z.size ≤ 100 := by omega
  clear SX SY SZ tx ty tz zx zy zz hX hY hZ mx my mz lx ly lz
  have hN := l13Normal X Y Z w5 (by omega) (by omega) (by omega) (tx_short (by omega) zY zZ)
  have hB := no_short zX zY zZ
  obtain ⟨T, hT⟩ : ∃ T, noT (ckT (linesOf X) (linesOf Y) (linesOf Z)) = T := ⟨_, rfl⟩
  rw [hT] at hN hB
  clear hT
  go_wp2_with fail
  refine hN.mono ?_; rintro e w6 ⟨rfl, b6⟩
  have s6 := s2.below b6
  have G6 := grown_trans g2 (grownB b6 (some b))
  clear hN s2 g2 b6
  go_wp2
  go_ret
  exact ⟨T, k2, rfl, hB, s6, hk2, G6⟩
/-- What LearnRule makes where it tells no code. -/
theorem ln_zero {l : List Ob} {p q : ByteArray} (h : lnC l p q = 0) : rf l = 0 ∧ okPre p = true ∧ tf q = 0 ∧ ¬ (fd l p = -1 ∧ l.length = 40) ∧ lnL l p q = lnM l p q := by
  by_cases h0 : rf l = 0
  · cases h1 : okPre p with
    | false => rw [(ln_pre h0 h1).1] at h; cases h
    | true =>
      by_cases h2 : tf q = 0
      · by_cases h3 : fd l p = -1 ∧ l.length = 40
        · rw [(ln_many h0 h1 h2 h3).1] at h; cases h
        · exact ⟨h0, rfl, h2, h3, (ln_ok h0 h1 h2 h3).2⟩
      · rw [(ln_text h0 h1 h2).1] at h; exact absurd h h2
  · rw [(ln_bad h0).1] at h; exact absurd h h0
theorem lnM_len (l : List Ob) (p q : ByteArray) : 0 < (lnM l p q).length ∧ (lnM l p q).length ≤ l.length + 1 := by
  unfold lnM
  rcases fd_bd l p with e | ⟨j, e, hj⟩
  · rw [if_pos e, insL_length l _ _ (pl_le l p)]; omega
  · rw [if_neg (by rw [e]; omega), List.length_set]; omega
theorem lnM_mem {l : List Ob} {p q : ByteArray} {x : Ob} (h : x ∈ lnM l p q) : x ∈ l ∨ x = (p, q) := by
  unfold lnM at h
  rcases fd_bd l p with e | ⟨j, e, hj⟩
  · rw [if_pos e] at h
    unfold insL at h
    rcases List.mem_append.1 h with h | h
    · exact .inl (List.mem_of_mem_take h)
    · rcases List.mem_append.1 h with h | h
      · exact .inr (by simpa using h)
      · exact .inl (List.mem_of_mem_drop h)
  · rw [if_neg (by rw [e]; omega)] at h
    rcases List.mem_or_eq_of_mem_set h with h | h
    · exact .inl h
    · exact .inr h
theorem lnM_small {l : List Ob} {p q : ByteArray} (h : SmallO l) (hp : p.size ≤ 1048576) (hq : q.size ≤ 1048576) : SmallO (lnM l p q) := fun x hx => by
  rcases lnM_mem hx with h1 | h1
  · exact h x h1
  · rw [h1]; exact ⟨hp, hq⟩
theorem smallSet {l : List Ob} (h : SmallO l) (i : Nat) {x : Ob} (hx : x.1.size ≤ 1048576 ∧ x.2.size ≤ 1048576) : SmallO (l.set i x) := fun y hy => by
  rcases List.mem_or_eq_of_mem_set hy with q | q
  · exact h y q
  · rw [q]; exact hx
theorem ocells_set0 (l : List Ob) (k : Nat) (p : ByteArray) (h : k < l.length) : (ocells l).set (k * 2) (.string p) = ocells (l.set k (p, (l.getD k onil).2)) := by
  have e := ocells_set l k (p, (l.getD k onil).2) h
  rw [← e]
  have e2 : ((ocells l).set (k * 2) (.string p))[k * 2 + 1]? = some (.string (l.getD k onil).2) := by
    rw [List.getElem?_set_ne (by omega), ocells, rowG_at _ _ _ (by omega), ocell1]
  apply List.ext_getElem?
  intro j
  by_cases ej : j = k * 2 + 1
  · subst ej
    rw [e2, List.getElem?_set_self (by rw [List.length_set, ocells_length]; omega)]
  · exact (List.getElem?_set_ne (show k * 2 + 1 ≠ j by omega)).symm
theorem owned {w : World} {base : Nat} {v : Value} {L : List Ob} (h : w.ownsRow base 36 2 v L.length (ocells L)) (h0 : 0 < L.length) : ∃ g c, v = .slice (some ⟨g, 0, none⟩) L.length c := by
  rcases h.2 with ⟨_, hh⟩ | ⟨g, c, cur, e, _⟩
  · omega
  · exact ⟨g, c, e⟩
theorem ownCap {w : World} {base g c : Nat} {n : Nat} {xs : List Value} (h : w.ownsRow base 36 2 (.slice (some ⟨g, 0, none⟩) n c) n xs) : n ≤ c := by
  rcases h.2 with ⟨h', _⟩ | ⟨g', c', cur, h', hb, hh, h1, h2, h3, h4⟩
  · cases h'
  · simp only [Value.slice.injEq] at h'; omega
abbrev RuR (base : Nat) (w : World) (g c : Nat) (L : List Ob) : Prop := w.ownsRow base 36 2 (.slice (some ⟨g, 0, none⟩) L.length c) L.length (ocells L)
theorem RuR.grew {base g c b : Nat} {w w' : World} {L : List Ob} (h : RuR base w g c L) (hg : w.grownBy w' (some b)) (hb : b < base) : RuR base w' g c L :=
  h.kept hg (.inr (by rw [ownBlock_slice]; have := (h.lt g rfl).1; simp; omega))
theorem RuR.bel {base g c : Nat} {w w' : World} {L : List Ob} (h : RuR base w g c L) (hb : Below w.heap.size w w') : RuR base w' g c L :=
  h.kept (grownB hb none) (blockCases _ _ fun b c1 c2 => by cases c2)
def RulesPost (N b : Nat) (a : Option Addr) (n cap : Nat) (k : Int) (w : World) (e : Ending) (w' : World) : Prop := ∃ (L : List Ob) (g c : Nat) (k' : Int), e = .returned (.slice (some ⟨g, 0, none⟩) L.length c) ∧ L.length ≤ 41 ∧ SmallO L ∧ RuR w.heap.size w' g c L ∧ Src N w' b a n cap k' ∧ k' ≤ k + 5000 ∧ w.grownBy w' (some b)
end Go.Proofs.Ytkeinpobngfioaa.Ru
/- The rules that the specification draws. No statement is proved here. -/
set_option linter.unusedVariables false
namespace Go.Proofs.Ytkeinpobngfioaa.Ru
open Go.ChangeShapes Go.WideShapes Go.ChangeAt Go.RowKit
theorem new_below {w w' w2 : World} {row : Option Nat} (h : w.grownBy w' row) (hb : Below w'.heap.size w' w2) : w.grownBy w2 row := grown_trans h (grownB hb row)
theorem litR (w : World) : RuR w.heap.size (w.alloc (.cells #[] 36)) w.heap.size 0 [] := World.ownsRow_made w #[] 0 (Nat.le_refl _) (by unfold maxLen; omega) rfl
/-- What stands while rules are drawn. -/
structure RW (N b q : Nat) (a : Option Addr) (n cap : Nat) (k : Int) (w wr : World) (g c : Nat) (L : List Ob) (k' : Int) : Prop where
  small : SmallO L
  own : RuR q wr g c L
  src : Src N wr b a n cap k'
  hi : k' ≤ k
  gr : w.grownBy wr (some b)
theorem RW.draw {N b q : Nat} {a : Option Addr} {n cap : Nat} {k : Int} {w wr w2 : World} {g c : Nat} {L : List Ob} {k' k2 : Int} (h : RW N b q a n cap k w wr g c L k') (hs : Src N w2 b a n cap k2) (hg : wr.grownBy w2 (some b)) (hb : b < q) (K : Int) (hk : k2 ≤ K) : RW N b q a n cap K w w2 g c L k2 :=
  ⟨h.small, h.own.grew hg hb, hs, hk, grown_trans h.gr hg⟩
theorem RW.bel {N b q : Nat} {a : Option Addr} {n cap : Nat} {k : Int} {w wr w2 : World} {g c : Nat} {L : List Ob} {k' : Int} (h : RW N b q a n cap k w wr g c L k') (hB : Below wr.heap.size wr w2) : RW N b q a n cap k w w2 g c L k' :=
  ⟨h.small, h.own.bel hB, h.src.below hB, h.hi, new_below h.gr hB⟩
set_option maxRecDepth 20000 in
set_option maxHeartbeats 8000000 in
theorem l13Rules (N b : Nat) (a : Option Addr) (n cap : Nat) (k : Int) (pre : ByteArray) (w : World) (h : Src N w b a n cap k) (hk : k ≤ 1000) (hp : pre.size ≤ 1000000) :
    Calls Try.prog 13 #[.pointer (some ⟨b, 0, none⟩), .string pre] w fun e w' => RulesPost N b a n cap k w e w' := by
  obtain ⟨q, hq⟩ : ∃ q, w.heap.size = q := ⟨_, rfl⟩
  have HQ : Hid (w.heap.size = q) := hq
  have hbq : b < q := by rw [← hq]; exact h.lt
  obtain ⟨W0, hW0⟩ : ∃ W, w.alloc (.cells #[] 36) = W := ⟨_, rfl⟩
  have R0 : RW N b q a n cap k w W0 q 0 [] k := by
    rw [← hW0, ← hq]
    exact ⟨fun _ h => (by cases h), litR w, h.below (allocBelow _ _), Int.le_refl _, grownB (allocBelow _ _) _⟩
  have zq : q ≤ W0.heap.size := by rw [← hW0, ← hq]; simp
  clear h
  go_enter Try.func13, Try.ntmps13
  go_wp2_with fail
  clear hW0 hq
  refine (l1Next N b a n cap k 4 _ R0.src (by omega)).mono ?_; rintro e w1 ⟨r, rfl, hd, s1, g1⟩
  have R1 := R0.draw s1 g1 hbq (k + 1) (Int.le_refl _)
  have hd0 := hd.1
  have hd1 : r < 4 := hd.2.1 (by omega)
  obtain ⟨j0, rfl⟩ := Int.eq_ofNat_of_zero_le hd0
  have hj0 : j0 ≤ 3 := by omega
  clear hd hd0 hd1 R0 s1 g1
  go_wp2_with fail
  go_loopw [5, 6, 7, 8] (fun o kk _p _r wr => ∃ (g c j : Nat) (L : List Ob) (k' : Int), kk = .int .i64 j ∧ o = .slice (some ⟨g, 0, none⟩) L.length c ∧ L.length + j ≤ 3 ∧ RW N b q a n cap (k + 100 - 20 * j) w wr g c L k') (fun _ kk _ _ _ => (intOf kk).toNat)
  case atStart => exact ⟨q, 0, j0, [], k + 1, rfl, rfl, by simp; omega, ⟨R1.small, R1.own, R1.src, by omega, R1.gr⟩⟩
  case round =>
    obtain ⟨g, c, j, L, k1, rfl, rfl, hl, R2⟩ := hrel
    clear R1
    by_cases hlt : 0 < j
    · have qj : (0 : Int) < (j : Int) := by omega
      obtain ⟨j2, rfl⟩ : ∃ j2, j = j2 + 1 := ⟨j - 1, by omega⟩
      go_wp2_with fail
      refine (l1Word N b a n cap k1 _ R2.src (by have := R2.hi; omega)).mono ?_; rintro e w3 ⟨x, rfl, hx, s3, g3⟩
      have R3 := R2.draw s3 g3 hbq (k + 100 - 20 * ((j2 + 1 : Nat) : Int) + 1) (by have := R2.hi; omega)
      clear R2 s3 g3
      have hpx : (⟨#[61, 32, 48, 10]⟩ ++ x : ByteArray).size ≤ 1000000 := by rw [ByteArray.size_append]; show 4 + x.size ≤ _; omega
      obtain ⟨P, hP⟩ : ∃ P : ByteArray, (⟨#[61, 32, 48, 10]⟩ ++ x : ByteArray) = P := ⟨_, rfl⟩
      rw [hP] at hpx
      have HP : Hid ((⟨#[61, 32, 48, 10]⟩ ++ x : ByteArray) = P) := hP
      cases he : (pre.toList == []) with
      | true =>
        go_wp2_with fail
        refine (l1Next N b a n cap (k1 + 1) 4 _ R3.src (by have := R3.hi; omega)).mono ?_; rintro e w5 ⟨r5, rfl, hd, s5, g5⟩
        have R5 := R3.draw s5 g5 hbq (k + 100 - 20 * ((j2 + 1 : Nat) : Int) + 3) (by have := R3.hi; omega)
        have hd0 := hd.1
        have hd1 : r5 < 4 := hd.2.1 (by omega)
        obtain ⟨m5, rfl⟩ := Int.eq_ofNat_of_zero_le hd0
        clear hd hd0 s5 g5 R3
        go_wp2_with fail
        refine (l1Lines N b a n cap (k1 + 1 + 1) m5 _ R5.src (by have := R5.hi; omega) (by omega)).mono ?_; rintro e w6 ⟨ss, g6, c6, k6, rfl, l6, m6, o6, s6, hk6, gg6⟩
        have R6 := R5.draw s6 gg6 hbq (k + 100 - 20 * ((j2 + 1 : Nat) : Int) + 9) (by have := R5.hi; omega)
        have S6 := SS_ownN o6 (m6.sizesN (by omega))
        have t6 := m6.totN
        have z6 := catB_size ss
        clear R5 s6 gg6 o6
        go_wp2_with fail
        refine (l1Join _ _ _ _ S6 (by omega) (by omega)).mono ?_; rintro e w6 ⟨rfl, rfl⟩
        obtain ⟨Y, hY⟩ : ∃ x, catB ss = x := ⟨_, rfl⟩
        rw [hY] at z6 ⊢
        have zY : Y.size ≤ 1000 := by omega
        clear S6 t6 z6 hY m6 l6
        have hLn := specLearnRule g 0 c L P Y w6 (OB.of R6.own) (ownCap R6.own) R6.small (by omega) (by omega) (by omega)
        by_cases hc : lnC L P Y = 0
        · obtain ⟨_, _, _, _, hM⟩ := ln_zero hc
          have hml := lnM_len L P Y
          have hms := lnM_small (p := P) (q := Y) R6.small (by omega) (by omega)
          rw [hc, hM] at hLn
          obtain ⟨M, hMe⟩ : ∃ M, lnM L P Y = M := ⟨_, rfl⟩
          rw [hMe] at hLn hml hms
          clear hc hM hMe
          go_wp2_with fail
          refine hLn.mono ?_; rintro e w7 ⟨v7, rfl, o7, b7⟩
          obtain ⟨g7, c7, rfl⟩ := owned o7 hml.1
          have z6q : q ≤ w6.heap.size := by have := (R6.own.lt g rfl); omega
          have bN := allocBelow w7 (.cells #[.int .i64 0, .slice (some ⟨g7, 0, none⟩) M.length c7] 28)
          obtain ⟨W8, hW8⟩ : ∃ W, w7.alloc (.cells #[.int .i64 0, .slice (some ⟨g7, 0, none⟩) M.length c7] 28) = W := ⟨_, rfl⟩
          have r8 : Rf W8 w7.heap.size [.int .i64 0, .slice (some ⟨g7, 0, none⟩) M.length c7] := by rw [← hW8]; exact Rf.new _ #[.int .i64 0, .slice (some ⟨g7, 0, none⟩) M.length c7] _
          rw [hW8] at bN
          have R8 := (R6.bel b7).bel bN
          have O8 : RuR q W8 g7 c7 M := RuR.bel (o7.mono z6q) bN
          have d0 := r8.at_ 0 _ rfl
          have d1 := r8.at_ 1 _ rfl
          have HF : Hid (RW N b q a n cap (k + 100 - 20 * (j2 : Int)) w W8 g7 c7 M k6) := ⟨hms, O8, R8.src, by have := R8.hi; omega, R8.gr⟩
          clear R6 R8 O8 o7 b7 bN r8 hLn hms
          go_wp2
          go_roundw
          case rel => exact ⟨g7, c7, j2, M, k6, by go_num, by first | rfl | trivial, by omega, HF.out⟩
          case measure => first | (simp [intOf]; omega) | simp [intOf]
        · obtain ⟨C, hCe⟩ : ∃ C, lnC L P Y = C := ⟨_, rfl⟩
          obtain ⟨M, hMe⟩ : ∃ M, lnL L P Y = M := ⟨_, rfl⟩
          rw [hCe, hMe] at hLn
          rw [hCe] at hc
          have qc : (C == 0) = false := beq_eq_false_iff_ne.2 hc
          clear hCe hMe hc
          go_wp2_with fail
          refine hLn.mono ?_; rintro e w7 ⟨v7, rfl, o7, b7⟩
          obtain ⟨a7, c7, rfl⟩ := shapeK3 o7
          obtain ⟨W8, hW8⟩ : ∃ W, w7.alloc (.cells #[.int .i64 C, .slice a7 M.length c7] 28) = W := ⟨_, rfl⟩
          have bN := allocBelow w7 (.cells #[.int .i64 C, .slice a7 M.length c7] 28)
          have r8 : Rf W8 w7.heap.size [.int .i64 C, .slice a7 M.length c7] := by rw [← hW8]; exact Rf.new _ #[.int .i64 C, .slice a7 M.length c7] _
          rw [hW8] at bN
          have R8 := (R6.bel b7).bel bN
          have d0 := r8.at_ 0 _ rfl
          have HF : Hid (RW N b q a n cap (k + 100 - 20 * (j2 : Int)) w W8 g c L k6) := ⟨R8.small, R8.own, R8.src, by have := R8.hi; omega, R8.gr⟩
          clear R6 R8 o7 b7 bN r8 hLn
          go_wp2
          go_roundw
          case rel => exact ⟨g, c, j2, L, k6, by go_num, by first | rfl | trivial, by omega, HF.out⟩
          case measure => first | (simp [intOf]; omega) | simp [intOf]
      | false =>
        go_wp2_with fail
        refine (l1Chance N b a n cap (k1 + 1) 2 _ R3.src (by have := R3.hi; omega)).mono ?_; rintro e w4 ⟨rc, rfl, s4, g4⟩
        have R4 := R3.draw s4 g4 hbq (k + 100 - 20 * ((j2 + 1 : Nat) : Int) + 2) (by have := R3.hi; omega)
        clear R3 s4 g4
        cases rc with
        | true =>
          go_wp2_with fail
          refine (l1Next N b a n cap (k1 + 1 + 1) 4 _ R4.src (by have := R4.hi; omega)).mono ?_; rintro e w5 ⟨r5, rfl, hd, s5, g5⟩
          have R5 := R4.draw s5 g5 hbq (k + 100 - 20 * ((j2 + 1 : Nat) : Int) + 3) (by have := R4.hi; omega)
          have hd0 := hd.1
          have hd1 : r5 < 4 := hd.2.1 (by omega)
          obtain ⟨m5, rfl⟩ := Int.eq_ofNat_of_zero_le hd0
          clear hd hd0 s5 g5 R4
          go_wp2_with fail
          refine (l1Lines N b a n cap (k1 + 1 + 1 + 1) m5 _ R5.src (by have := R5.hi; omega) (by omega)).mono ?_; rintro e w6 ⟨ss, g6, c6, k6, rfl, l6, m6, o6, s6, hk6, gg6⟩
          have R6 := R5.draw s6 gg6 hbq (k + 100 - 20 * ((j2 + 1 : Nat) : Int) + 9) (by have := R5.hi; omega)
          have S6 := SS_ownN o6 (m6.sizesN (by omega))
          have t6 := m6.totN
          have z6 := catB_size ss
          clear R5 s6 gg6 o6
          go_wp2_with fail
          refine (l1Join _ _ _ _ S6 (by omega) (by omega)).mono ?_; rintro e w6 ⟨rfl, rfl⟩
          obtain ⟨Y, hY⟩ : ∃ x, catB ss = x := ⟨_, rfl⟩
          rw [hY] at z6 ⊢
          have zY : Y.size ≤ 1000 := by omega
          clear S6 t6 z6 hY m6 l6
          have hLn := specLearnRule g 0 c L pre Y w6 (OB.of R6.own) (ownCap R6.own) R6.small (by omega) (by omega) (by omega)
          by_cases hc : lnC L pre Y = 0
          · obtain ⟨_, _, _, _, hM⟩ := ln_zero hc
            have hml := lnM_len L pre Y
            have hms := lnM_small (p := pre) (q := Y) R6.small (by omega) (by omega)
            rw [hc, hM] at hLn
            obtain ⟨M, hMe⟩ : ∃ M, lnM L pre Y = M := ⟨_, rfl⟩
            rw [hMe] at hLn hml hms
            clear hc hM hMe
            go_wp2_with fail
            refine hLn.mono ?_; rintro e w7 ⟨v7, rfl, o7, b7⟩
            obtain ⟨g7, c7, rfl⟩ := owned o7 hml.1
            have z6q : q ≤ w6.heap.size := by have := (R6.own.lt g rfl); omega
            have bN := allocBelow w7 (.cells #[.int .i64 0, .slice (some ⟨g7, 0, none⟩) M.length c7] 28)
            obtain ⟨W8, hW8⟩ : ∃ W, w7.alloc (.cells #[.int .i64 0, .slice (some ⟨g7, 0, none⟩) M.length c7] 28) = W := ⟨_, rfl⟩
            have r8 : Rf W8 w7.heap.size [.int .i64 0, .slice (some ⟨g7, 0, none⟩) M.length c7] := by rw [← hW8]; exact Rf.new _ #[.int .i64 0, .slice (some ⟨g7, 0, none⟩) M.length c7] _
            rw [hW8] at bN
            have R8 := (R6.bel b7).bel bN
            have O8 : RuR q W8 g7 c7 M := RuR.bel (o7.mono z6q) bN
            have d0 := r8.at_ 0 _ rfl
            have d1 := r8.at_ 1 _ rfl
            have HF : Hid (RW N b q a n cap (k + 100 - 20 * (j2 : Int)) w W8 g7 c7 M k6) := ⟨hms, O8, R8.src, by have := R8.hi; omega, R8.gr⟩
            clear R6 R8 O8 o7 b7 bN r8 hLn hms
            go_wp2
            go_roundw
            case rel => exact ⟨g7, c7, j2, M, k6, by go_num, by first | rfl | trivial, by omega, HF.out⟩
            case measure => first | (simp [intOf]; omega) | simp [intOf]
          · obtain ⟨C, hCe⟩ : ∃ C, lnC L pre Y = C := ⟨_, rfl⟩
            obtain ⟨M, hMe⟩ : ∃ M, lnL L pre Y = M := ⟨_, rfl⟩
            rw [hCe, hMe] at hLn
            rw [hCe] at hc
            have qc : (C == 0) = false := beq_eq_false_iff_ne.2 hc
            clear hCe hMe hc
            go_wp2_with fail
            refine hLn.mono ?_; rintro e w7 ⟨v7, rfl, o7, b7⟩
            obtain ⟨a7, c7, rfl⟩ := shapeK3 o7
            obtain ⟨W8, hW8⟩ : ∃ W, w7.alloc (.cells #[.int .i64 C, .slice a7 M.length c7] 28) = W := ⟨_, rfl⟩
            have bN := allocBelow w7 (.cells #[.int .i64 C, .slice a7 M.length c7] 28)
            have r8 : Rf W8 w7.heap.size [.int .i64 C, .slice a7 M.length c7] := by rw [← hW8]; exact Rf.new _ #[.int .i64 C, .slice a7 M.length c7] _
            rw [hW8] at bN
            have R8 := (R6.bel b7).bel bN
            have d0 := r8.at_ 0 _ rfl
            have HF : Hid (RW N b q a n cap (k + 100 - 20 * (j2 : Int)) w W8 g c L k6) := ⟨R8.small, R8.own, R8.src, by have := R8.hi; omega, R8.gr⟩
            clear R6 R8 o7 b7 bN r8 hLn
            go_wp2
            go_roundw
            case rel => exact ⟨g, c, j2, L, k6, by go_num, by first | rfl | trivial, by omega, HF.out⟩
            case measure => first | (simp [intOf]; omega) | simp [intOf]
        | false =>
          go_wp2_with fail
          refine (l1Next N b a n cap (k1 + 1 + 1) 4 _ R4.src (by have := R4.hi; omega)).mono ?_; rintro e w5 ⟨r5, rfl, hd, s5, g5⟩
          have R5 := R4.draw s5 g5 hbq (k + 100 - 20 * ((j2 + 1 : Nat) : Int) + 3) (by have := R4.hi; omega)
          have hd0 := hd.1
          have hd1 : r5 < 4 := hd.2.1 (by omega)
          obtain ⟨m5, rfl⟩ := Int.eq_ofNat_of_zero_le hd0
          clear hd hd0 s5 g5 R4
          go_wp2_with fail
          refine (l1Lines N b a n cap (k1 + 1 + 1 + 1) m5 _ R5.src (by have := R5.hi; omega) (by omega)).mono ?_; rintro e w6 ⟨ss, g6, c6, k6, rfl, l6, m6, o6, s6, hk6, gg6⟩
          have R6 := R5.draw s6 gg6 hbq (k + 100 - 20 * ((j2 + 1 : Nat) : Int) + 9) (by have := R5.hi; omega)
          have S6 := SS_ownN o6 (m6.sizesN (by omega))
          have t6 := m6.totN
          have z6 := catB_size ss
          clear R5 s6 gg6 o6
          go_wp2_with fail
          refine (l1Join _ _ _ _ S6 (by omega) (by omega)).mono ?_; rintro e w6 ⟨rfl, rfl⟩
          obtain ⟨Y, hY⟩ : ∃ x, catB ss = x := ⟨_, rfl⟩
          rw [hY] at z6 ⊢
          have zY : Y.size ≤ 1000 := by omega
          clear S6 t6 z6 hY m6 l6
          have hLn := specLearnRule g 0 c L P Y w6 (OB.of R6.own) (ownCap R6.own) R6.small (by omega) (by omega) (by omega)
          by_cases hc : lnC L P Y = 0
          · obtain ⟨_, _, _, _, hM⟩ := ln_zero hc
            have hml := lnM_len L P Y
            have hms := lnM_small (p := P) (q := Y) R6.small (by omega) (by omega)
            rw [hc, hM] at hLn
            obtain ⟨M, hMe⟩ : ∃ M, lnM L P Y = M := ⟨_, rfl⟩
            rw [hMe] at hLn hml hms
            clear hc hM hMe
            go_wp2_with fail
            refine hLn.mono ?_; rintro e w7 ⟨v7, rfl, o7, b7⟩
            obtain ⟨g7, c7, rfl⟩ := owned o7 hml.1
            have z6q : q ≤ w6.heap.size := by have := (R6.own.lt g rfl); omega
            have bN := allocBelow w7 (.cells #[.int .i64 0, .slice (some ⟨g7, 0, none⟩) M.length c7] 28)
            obtain ⟨W8, hW8⟩ : ∃ W, w7.alloc (.cells #[.int .i64 0, .slice (some ⟨g7, 0, none⟩) M.length c7] 28) = W := ⟨_, rfl⟩
            have r8 : Rf W8 w7.heap.size [.int .i64 0, .slice (some ⟨g7, 0, none⟩) M.length c7] := by rw [← hW8]; exact Rf.new _ #[.int .i64 0, .slice (some ⟨g7, 0, none⟩) M.length c7] _
            rw [hW8] at bN
            have R8 := (R6.bel b7).bel bN
            have O8 : RuR q W8 g7 c7 M := RuR.bel (o7.mono z6q) bN
            have d0 := r8.at_ 0 _ rfl
            have d1 := r8.at_ 1 _ rfl
            have HF : Hid (RW N b q a n cap (k + 100 - 20 * (j2 : Int)) w W8 g7 c7 M k6) := ⟨hms, O8, R8.src, by have := R8.hi; omega, R8.gr⟩
            clear R6 R8 O8 o7 b7 bN r8 hLn hms
            go_wp2
            go_roundw
            case rel => exact ⟨g7, c7, j2, M, k6, by go_num, by first | rfl | trivial, by omega, HF.out⟩
            case measure => first | (simp [intOf]; omega) | simp [intOf]
          · obtain ⟨C, hCe⟩ : ∃ C, lnC L P Y = C := ⟨_, rfl⟩
            obtain ⟨M, hMe⟩ : ∃ M, lnL L P Y = M := ⟨_, rfl⟩
            rw [hCe, hMe] at hLn
            rw [hCe] at hc
            have qc : (C == 0) = false := beq_eq_false_iff_ne.2 hc
            clear hCe hMe hc
            go_wp2_with fail
            refine hLn.mono ?_; rintro e w7 ⟨v7, rfl, o7, b7⟩
            obtain ⟨a7, c7, rfl⟩ := shapeK3 o7
            obtain ⟨W8, hW8⟩ : ∃ W, w7.alloc (.cells #[.int .i64 C, .slice a7 M.length c7] 28) = W := ⟨_, rfl⟩
            have bN := allocBelow w7 (.cells #[.int .i64 C, .slice a7 M.length c7] 28)
            have r8 : Rf W8 w7.heap.size [.int .i64 C, .slice a7 M.length c7] := by rw [← hW8]; exact Rf.new _ #[.int .i64 C, .slice a7 M.length c7] _
            rw [hW8] at bN
            have R8 := (R6.bel b7).bel bN
            have d0 := r8.at_ 0 _ rfl
            have HF : Hid (RW N b q a n cap (k + 100 - 20 * (j2 : Int)) w W8 g c L k6) := ⟨R8.small, R8.own, R8.src, by have := R8.hi; omega, R8.gr⟩
            clear R6 R8 o7 b7 bN r8 hLn
            go_wp2
            go_roundw
            case rel => exact ⟨g, c, j2, L, k6, by go_num, by first | rfl | trivial, by omega, HF.out⟩
            case measure => first | (simp [intOf]; omega) | simp [intOf]
    · have qj : ¬ (0 : Int) < (j : Int) := by omega
      have ej : j = 0 := by omega
      subst ej
      clear qj hlt
      by_cases h0 : L.length = 0
      · have q0 : ((L.length : Int) == 0) = true := by rw [h0]; rfl
        have HF : Hid (RulesPost N b a n cap k w (.returned (.slice (some ⟨g, 0, none⟩) L.length c)) wr) := ⟨L, g, c, k1, rfl, by omega, R2.small, by rw [HQ.out]; exact R2.own, R2.src, by have := R2.hi; omega, R2.gr⟩
        clear R2 h0
        go_wp2
        go_ret
        exact HF.out
      · have q0 : ((L.length : Int) == 0) = false := beq_eq_false_iff_ne.2 (by omega)
        go_wp2_with fail
        refine (l1Next N b a n cap k1 (L.length : Int) _ R2.src (by have := R2.hi; omega)).mono ?_; rintro e w3 ⟨ri, rfl, hd, s3, g3⟩
        have R3 := R2.draw s3 g3 hbq (k + 101) (by have := R2.hi; omega)
        have hd0 := hd.1
        have hd1 : ri < (L.length : Int) := hd.2.1 (by omega)
        obtain ⟨i, rfl⟩ := Int.eq_ofNat_of_zero_le hd0
        have hi : i < L.length := by omega
        clear hd hd0 R2 s3 g3
        go_wp2_with fail
        refine (l1Next N b a n cap (k1 + 1) 24 _ R3.src (by have := R3.hi; omega)).mono ?_; rintro e w4 ⟨r, rfl, hd, s4, g4⟩
        have R4 := R3.draw s4 g4 hbq (k + 102) (by have := R3.hi; omega)
        have hd0 := hd.1
        clear hd R3 s4 g4
        have hgr := (R4.own.lt g rfl).1
        have hne : some b ≠ (Value.slice (some ⟨g, 0, none⟩) L.length c).ownBlock := by rw [ownBlock_slice]; simp; omega
        by_cases r0 : r = 0
        · subst r0
          have hi2 : i * 2 < L.length * 2 := by omega
          have k0 := R4.own.cellAt (i * 2) hi2
          rw [ocells, rowG_at _ _ _ hi2] at k0
          have f0 := R4.own.frozenAt (i * 2)
          have s1 := R4.own.stored (i * 2) (.string ⟨#[]⟩)
          have o1 := s1.1
          rw [ocells_set0 L i ⟨#[]⟩ hi] at o1
          have HF : Hid (RulesPost N b a n cap k w (.returned (.slice (some ⟨g, 0, none⟩) L.length c)) (w4.setCell ⟨g, i * 2, none⟩ (.string ⟨#[]⟩))) := ⟨L.set i (⟨#[]⟩, (L.getD i onil).2), g, c, k1 + 1 + 1, by rw [List.length_set], by rw [List.length_set]; omega, smallSet R4.small i ⟨by show 0 ≤ _; omega, (R4.small _ (ob_mem L i hi)).2⟩, by rw [HQ.out]; unfold RuR; rw [List.length_set]; exact o1, R4.src.kept s1.2 hne (fun j hj => by have : g = j := Option.some.inj hj; have := R4.src.ge; omega), by have := R4.hi; omega, grown_new R4.gr s1.2 (fun j hj => by have : g = j := Option.some.inj hj; rw [HQ.out]; omega)⟩
          clear R4 s1 o1
          go_wp2
          go_ret
          exact HF.out
        by_cases r1 : r = 1
        · subst r1
          go_wp2_with fail
          refine (l1TextS N b a n cap (k1 + 1 + 1) _ R4.src (by have := R4.hi; omega)).mono ?_; rintro e w5 ⟨y, k5, rfl, hy, s5, hk5, g5⟩
          have R5 := R4.draw s5 g5 hbq (k + 3102) (by have := R4.hi; omega)
          clear R4 s5 g5
          have hi2 : i * 2 + 1 < L.length * 2 := by omega
          have k0 := R5.own.cellAt (i * 2 + 1) hi2
          rw [ocells, rowG_at _ _ _ hi2] at k0
          have f0 := R5.own.frozenAt (i * 2 + 1)
          have s1 := R5.own.stored (i * 2 + 1) (.string y)
          have o1 := s1.1
          rw [ocells_set1 L i (L.getD i onil).1 y hi rfl] at o1
          have HF : Hid (RulesPost N b a n cap k w (.returned (.slice (some ⟨g, 0, none⟩) L.length c)) (w5.setCell ⟨g, i * 2 + 1, none⟩ (.string y))) := ⟨L.set i ((L.getD i onil).1, y), g, c, k5, by rw [List.length_set], by rw [List.length_set]; omega, smallSet R5.small i ⟨(R5.small _ (ob_mem L i hi)).1, by show y.size ≤ _; omega⟩, by rw [HQ.out]; unfold RuR; rw [List.length_set]; exact o1, R5.src.kept s1.2 hne (fun j hj => by have : g = j := Option.some.inj hj; have := R5.src.ge; omega), by have := R5.hi; omega, grown_new R5.gr s1.2 (fun j hj => by have : g = j := Option.some.inj hj; rw [HQ.out]; omega)⟩
          clear R5 s1 o1
          go_wp2
          go_ret
          exact HF.out
        by_cases r2 : r = 2
        · subst r2
          obtain ⟨g', off, e, hgl, c0, c1⟩ := (OB.of R4.own) i hi
          simp only [Option.some.injEq, Addr.mk.injEq, and_true] at e
          obtain ⟨rfl, rfl⟩ := e
          have hsm := R4.small _ (ob_mem L i hi)
          obtain ⟨C, hC⟩ : ∃ C, L.getD i onil = C := ⟨_, rfl⟩
          obtain ⟨x0, x1⟩ := C
          rw [hC] at c0 c1 hsm
          simp only [Nat.zero_add] at c0 c1 hsm
          have bN := allocBelow w4 (.cells #[.string x0, .string x1] 36)
          have R5 := R4.bel bN
          have nw := newR w4 (x0, x1)
          have z5 : q ≤ (w4.alloc (.cells #[.string x0, .string x1] 36)).heap.size := by have := (R5.own.lt g rfl); omega
          clear R4 hC bN
          go_wp2_with (at_builtin; refine wpList_appR rfl (.tmp 66) (.tmp 71) rfl q (.slice (some ⟨g, 0, none⟩) L.length c) _ rfl R5.own _ _ [(x0, x1)] rfl nw (by simp; omega) z5 ?_; intro v5 w5 o5 g5 n5 k5)
          have hl2 : (L ++ [(x0, x1)]).length = L.length + 1 := by simp
          obtain ⟨g2, c2, rfl⟩ := owned o5 (by omega)
          have HF : Hid (RulesPost N b a n cap k w (.returned (.slice (some ⟨g2, 0, none⟩) (L ++ [(x0, x1)]).length c2)) w5) := ⟨L ++ [(x0, x1)], g2, c2, k1 + 1 + 1, rfl, by omega, fun z hz => by
            rcases List.mem_append.1 hz with q | q
            · exact R5.small z q
            · rw [List.mem_singleton.1 q]; exact hsm, by rw [HQ.out]; exact o5, R5.src.kept g5 hne (fun j hj => by have : g = j := Option.some.inj hj; have := R5.src.ge; omega), by have := R5.hi; omega, grown_new R5.gr g5 (fun j hj => by have : g = j := Option.some.inj hj; rw [HQ.out]; omega)⟩
          generalize (L ++ [(x0, x1)]).length = M at *
          clear R5 o5 g5 n5 k5 nw c0 c1
          go_wp2
          go_ret
          exact HF.out
        by_cases r3 : r = 3
        · subst r3
          obtain ⟨i0, hi0, hz0, hz1, hz2⟩ := info_parts infoObj
          go_wp2_with (at_make; refine wpList_make_full _ rfl _ _ 24 rfl w4.heap.size 36 i0 (.agg #[.string ⟨#[]⟩, .string ⟨#[]⟩]) 2 Try.underlying24 hi0 hz0 hz1 .i64 .i64 41 41 41 rfl rfl rfl rfl (by rw [hz2]; omega) (by unfold maxLen; omega) (Nat.le_refl _) ?_; intro w5 o5 g5)
          have o6 : RuR w4.heap.size w5 w4.heap.size 41 (List.replicate 41 onil) := by
            have e9 : (madeCells (Value.agg #[.string ⟨#[]⟩, .string ⟨#[]⟩]).cells (41 * 2)).toList = ocells (List.replicate 41 onil) := by kernel_rfl
            unfold RuR
            rw [List.length_replicate, ← e9]
            exact o5
          have zz4 := R4.src.lt
          have HF : Hid (RulesPost N b a n cap k w (.returned (.slice (some ⟨w4.heap.size, 0, none⟩) 41 41)) w5) := ⟨List.replicate 41 onil, w4.heap.size, 41, k1 + 1 + 1, by rw [List.length_replicate], by simp, fun z hz => by
            rw [(List.mem_replicate.1 hz).2]; exact ⟨by show 0 ≤ _; omega, by show 0 ≤ _; omega⟩, by rw [HQ.out]; exact o6.mono (by have := (R4.own.lt g rfl); omega), R4.src.kept g5 (by simp) (fun j hj => by cases hj), by have := R4.hi; omega, grown_new R4.gr g5 (fun j hj => by cases hj)⟩
          clear R4 o5 o6 g5
          go_wp2
          go_ret
          exact HF.out
        have q0 : (r == 0) = false := by simp [r0]
        have q1 : (r == 1) = false := by simp [r1]
        have q2 : (r == 2) = false := by simp [r2]
        have q3 : (r == 3) = false := by simp [r3]
        have HF : Hid (RulesPost N b a n cap k w (.returned (.slice (some ⟨g, 0, none⟩) L.length c)) w4) := ⟨L, g, c, k1 + 1 + 1, rfl, by omega, R4.small, by rw [HQ.out]; exact R4.own, R4.src, by have := R4.hi; omega, R4.gr⟩
        clear R4 r0 r1 r2 r3
        go_wp2
        go_ret
        exact HF.out
end Go.Proofs.Ytkeinpobngfioaa.Ru
/- The draw of LearnRule. No statement is proved here. -/
set_option linter.unusedVariables false
namespace Go.Proofs.Ytkeinpobngfioaa.Ru
open Go.ChangeShapes Go.WideShapes Go.ChangeAt Go.RowKit
def DlPost (w : World) (e : Ending) (w' : World) : Prop := ∃ (L : List Ob) (g c : Nat) (p q : ByteArray), e = .returned (.tuple #[.slice (some ⟨g, 0, none⟩) L.length c, .string p, .string q]) ∧ L.length ≤ 41 ∧ SmallO L ∧ RuR w.heap.size w' g c L ∧ p.size ≤ 1000000 ∧ q.size ≤ 4096 ∧ Below w.heap.size w w'
theorem oneByte (w : World) (j : Nat) (h : j < 40) (t : TypeId) : Lib.Bytes (w.alloc (.cells #[.int .u8 (50 + (j : Int))] t)) w.heap.size 0 ⟨#[UInt8.ofNat (50 + j)]⟩ := by
  intro i hi
  have e : i = 0 := by
    have : i < 1 := hi
    omega
  subst e
  have h1 : (UInt8.ofNat (50 + j)).toNat = 50 + j := by
    rw [UInt8.toNat_ofNat']
    omega
  show _ = some (Value.int .u8 ((UInt8.ofNat (50 + j)).toNat : Int))
  rw [h1]
  exact (Rs.new w #[.int .u8 (50 + (j : Int))] t 0 _ rfl).trans (by simp)
set_option maxRecDepth 20000 in
set_option maxHeartbeats 8000000 in
theorem drawLearnRule (a : Option Addr) (n cap : Nat) (w : World) (h : Bts w a n) (hn : n ≤ 1048576) :
    Calls Try.prog 5 #[.slice a n cap] w fun e w' => DlPost w e w' := by
  go_enter Try.func5, Try.ntmps5
  go_wp2_with fail
  refine (l1Source a n cap _ h (by omega)).mono ?_; rintro e w1 ⟨rfl, h1, b1⟩
  obtain ⟨b, hb⟩ : ∃ b, w.heap.size = b := ⟨_, rfl⟩
  have HB : Hid (w.heap.size = b) := hb
  rw [hb] at h1 b1 ⊢
  clear hb h
  have hl1 := h1.lt
  go_wp2_with fail
  refine (l13Some b b a n cap 0 _ h1 (by omega)).mono ?_; rintro e w2 ⟨x, k2, rfl, hx, s2, hk2, g2⟩
  have z2 := g2.size
  have B2 : Below b w w2 := b1.grown g2 (Nat.le_of_lt hl1) (fun j hj => by cases hj; exact Nat.le_refl _)
  clear h1 b1 g2
  go_wp2_with fail
  refine (l13Rules b b a n cap k2 x _ s2 (by omega) hx).mono ?_; rintro e w3 ⟨L, g, c, k3, rfl, hL, hS, oL, s3, hk3, g3⟩
  have z3 := g3.size
  have lt2 := s2.lt
  have B3 : Below b w w3 := B2.grown g3 (by omega) (fun j hj => by cases hj; exact Nat.le_refl _)
  replace oL : RuR (b + 1) w3 g c L := oL.mono (by omega)
  clear s2 B2 g3
  go_wp2_with fail
  refine (l1Chance b b a n cap k3 12 _ s3 (by omega)).mono ?_; rintro e w4 ⟨rc, rfl, s4, g4⟩
  have z4 := g4.size
  have B4 : Below b w w4 := B3.grown g4 (by omega) (fun j hj => by cases hj; exact Nat.le_refl _)
  have oL4 := oL.grew g4 (by omega)
  clear s3 B3 g4 oL
  cases rc with
  | true =>
    go_wp2_with fail
    refine (l1Chance b b a n cap (k3 + 1) 40 _ s4 (by omega)).mono ?_; rintro e w5 ⟨rd, rfl, s5, g5⟩
    have z5 := g5.size
    have B5 : Below b w w5 := B4.grown g5 (by omega) (fun j hj => by cases hj; exact Nat.le_refl _)
    have oL5 := oL4.grew g5 (by omega)
    clear s4 B4 g5 oL4
    cases rd with
    | true =>
      clear oL5 hS
      go_wp2
      go_loopw [7, 8] (fun o kk wr => ∃ (j : Nat) (M : List Ob), kk = .int .i64 j ∧ j ≤ 40 ∧ M.length = j ∧ SmallO M ∧ wr.ownsRow w5.heap.size 36 2 o M.length (ocells M) ∧ w5.grownBy wr none) (fun _ kk _ => 40 - (intOf kk).toNat)
      case atStart => exact ⟨0, [], rfl, by omega, rfl, fun _ h => (by cases h), ⟨rfl, .inl ⟨rfl, rfl⟩⟩, grownB (Below.refl _ _) none⟩
      case round =>
        obtain ⟨j, M, rfl, hj, hM, hMs, oM, gM⟩ := hrel
        have HM : Hid (M.length = j) := hM
        clear hM
        by_cases hlt : j < 40
        · have q : (j : Int) < 40 := by omega
          have hw8 : IntKind.u8.wrap (50 + (j : Int)) = 50 + (j : Int) := by rw [IntKind.wrap_u8]; omega
          obtain ⟨V, hV⟩ : ∃ V, wr.alloc (.cells #[.int .u8 (50 + (j : Int))] 5) = V := ⟨_, rfl⟩
          have hby := oneByte wr j hlt 5
          rw [hV] at hby
          have hcv := Lib.run_convert_whole (P := Try.prog) V 22 5 9 Try.underlying22 Try.underlying5 Try.underlying9 wr.heap.size 0 ⟨#[UInt8.ofNat (50 + j)]⟩ hby 1
          replace hcv : (convert 22 9 (.slice (some ⟨wr.heap.size, 0, none⟩) 1 1)).run Try.prog V = .ok (.string ⟨#[UInt8.ofNat (50 + j)]⟩) V := hcv
          obtain ⟨Z, hZ⟩ : ∃ Z : ByteArray, (⟨#[UInt8.ofNat (50 + j)]⟩ : ByteArray) = Z := ⟨_, rfl⟩
          have hZs : Z.size = 1 := by rw [← hZ]; rfl
          rw [hZ] at hcv
          clear hZ
          have bV : Below wr.heap.size wr V := by rw [← hV]; exact allocBelow _ _
          obtain ⟨S, hSe⟩ : ∃ S : ByteArray, (⟨#[107]⟩ ++ Z : ByteArray) = S := ⟨_, rfl⟩
          have hSz : S.size ≤ 2 := by rw [← hSe, ByteArray.size_append, hZs]; exact Nat.le_refl 2
          have hZz : Z.size ≤ 1 := by omega
          clear hZs
          have nw := newR V (S, ⟨#[]⟩)
          have bN := allocBelow V (.cells #[.string S, .string ⟨#[]⟩] 36)
          have BN : Below wr.heap.size wr (V.alloc (.cells #[.string S, .string ⟨#[]⟩] 36)) := bV.trans (bN.mono bV.size)
          have oM2 := oM.kept (grownB BN none) (blockCases _ _ fun b c1 c2 => by cases c2)
          have gM2 := grown_trans gM (grownB BN none)
          have zM := gM2.size
          clear hby bV bN oM gM
          obtain ⟨oa, oc, rfl⟩ := shapeK3 oM2
          go_wp2_with (at_builtin; refine wpList_appR rfl (.tmp 24) (.tmp 32) rfl w5.heap.size (.slice oa M.length oc) _ rfl oM2 _ _ [(S, ⟨#[]⟩)] rfl nw (by have := HM.out; simp; omega) (by omega) ?_; intro v6 w6 o6 g6 n6 k6)
          have gM3 : w5.grownBy w6 none := grown_new gM2 g6 (fun i hi => by have := (oM2.lt i hi).1; omega)
          clear g6 n6 k6 oM2 gM2 nw hcv BN
          go_wp2
          go_roundw
          case rel => exact ⟨j + 1, M ++ [(S, ⟨#[]⟩)], by go_num, by omega, by have := HM.out; simp; omega, fun z hz => by
            rcases List.mem_append.1 hz with t | t
            · exact hMs z t
            · rw [List.mem_singleton.1 t]; exact ⟨by show S.size ≤ _; omega, by show 0 ≤ _; omega⟩, by first | exact o6 | trivial, gM3⟩
          case measure => first | (simp [intOf]; omega) | simp [intOf]
        · have q : ¬ (j : Int) < 40 := by omega
          have ej : j = 40 := by omega
          subst ej
          have s6 : Src b wr b a n cap (k3 + 1 + 1) := s5.kept gM (by simp) (fun j hj => by cases hj)
          have B6 : Below b w wr := B5.grown gM (by omega) (fun j hj => by cases hj)
          obtain ⟨g6, c6, rfl⟩ := owned oM (by have := HM.out; omega)
          clear s5 B5 gM
          go_wp2_with fail
          refine (l1TextS b b a n cap (k3 + 1 + 1) _ s6 (by omega)).mono ?_; rintro e w7 ⟨y, k7, rfl, hy, s7, hk7, g7⟩
          have o7 : RuR (b + 1) w7 g6 c6 M := RuR.grew (oM.mono (by omega)) g7 (by omega)
          have zz6 := s6.lt
          have B7 : Below b w w7 := B6.grown g7 (by omega) (fun j hj => by cases hj; exact Nat.le_refl _)
          have HF : Hid (DlPost w (.returned (.tuple #[.slice (some ⟨g6, 0, none⟩) M.length c6, .string ⟨#[]⟩, .string y])) w7) := ⟨M, g6, c6, ⟨#[]⟩, y, rfl, by have := HM.out; omega, hMs, o7.mono (by rw [HB.out]; omega), by show 0 ≤ _; omega, hy, by rw [HB.out]; exact B7⟩
          clear o7 B7 oM hMs s7 g7 B6 s6
          go_wp2
          refine bodyPost_ret (v := .tuple #[.slice (some ⟨g6, 0, none⟩) M.length c6, .string ⟨#[]⟩, .string y]) (by simp [results, Try.results5, go_sem]) rfl ?_
          exact HF.out
    | false =>
      go_wp2_with fail
      refine (l1TextS b b a n cap (k3 + 1 + 1) _ s5 (by omega)).mono ?_; rintro e w7 ⟨y, k7, rfl, hy, s7, hk7, g7⟩
      have o7 : RuR (b + 1) w7 g c L := oL5.grew g7 (by omega)
      have zz6 := s5.lt
      have B7 : Below b w w7 := B5.grown g7 (by omega) (fun j hj => by cases hj; exact Nat.le_refl _)
      have HF : Hid (DlPost w (.returned (.tuple #[.slice (some ⟨g, 0, none⟩) L.length c, .string ⟨#[]⟩, .string y])) w7) := ⟨L, g, c, ⟨#[]⟩, y, rfl, hL, hS, o7.mono (by rw [HB.out]; omega), by show 0 ≤ _; omega, hy, by rw [HB.out]; exact B7⟩
      clear o7 B7 oL5 hS s7 g7 B5 s5
      go_wp2
      refine bodyPost_ret (v := .tuple #[.slice (some ⟨g, 0, none⟩) L.length c, .string ⟨#[]⟩, .string y]) (by simp [results, Try.results5, go_sem]) rfl ?_
      exact HF.out
  | false =>
    go_wp2_with fail
    refine (l1Chance b b a n cap (k3 + 1) 40 _ s4 (by omega)).mono ?_; rintro e w5 ⟨rd, rfl, s5, g5⟩
    have z5 := g5.size
    have B5 : Below b w w5 := B4.grown g5 (by omega) (fun j hj => by cases hj; exact Nat.le_refl _)
    have oL5 := oL4.grew g5 (by omega)
    clear s4 B4 g5 oL4
    cases rd with
    | true =>
      clear oL5 hS
      go_wp2
      go_loopw [7, 8] (fun o kk wr => ∃ (j : Nat) (M : List Ob), kk = .int .i64 j ∧ j ≤ 40 ∧ M.length = j ∧ SmallO M ∧ wr.ownsRow w5.heap.size 36 2 o M.length (ocells M) ∧ w5.grownBy wr none) (fun _ kk _ => 40 - (intOf kk).toNat)
      case atStart => exact ⟨0, [], rfl, by omega, rfl, fun _ h => (by cases h), ⟨rfl, .inl ⟨rfl, rfl⟩⟩, grownB (Below.refl _ _) none⟩
      case round =>
        obtain ⟨j, M, rfl, hj, hM, hMs, oM, gM⟩ := hrel
        have HM : Hid (M.length = j) := hM
        clear hM
        by_cases hlt : j < 40
        · have q : (j : Int) < 40 := by omega
          have hw8 : IntKind.u8.wrap (50 + (j : Int)) = 50 + (j : Int) := by rw [IntKind.wrap_u8]; omega
          obtain ⟨V, hV⟩ : ∃ V, wr.alloc (.cells #[.int .u8 (50 + (j : Int))] 5) = V := ⟨_, rfl⟩
          have hby := oneByte wr j hlt 5
          rw [hV] at hby
          have hcv := Lib.run_convert_whole (P := Try.prog) V 22 5 9 Try.underlying22 Try.underlying5 Try.underlying9 wr.heap.size 0 ⟨#[UInt8.ofNat (50 + j)]⟩ hby 1
          replace hcv : (convert 22 9 (.slice (some ⟨wr.heap.size, 0, none⟩) 1 1)).run Try.prog V = .ok (.string ⟨#[UInt8.ofNat (50 + j)]⟩) V := hcv
          obtain ⟨Z, hZ⟩ : ∃ Z : ByteArray, (⟨#[UInt8.ofNat (50 + j)]⟩ : ByteArray) = Z := ⟨_, rfl⟩
          have hZs : Z.size = 1 := by rw [← hZ]; rfl
          rw [hZ] at hcv
          clear hZ
          have bV : Below wr.heap.size wr V := by rw [← hV]; exact allocBelow _ _
          obtain ⟨S, hSe⟩ : ∃ S : ByteArray, (⟨#[107]⟩ ++ Z : ByteArray) = S := ⟨_, rfl⟩
          have hSz : S.size ≤ 2 := by rw [← hSe, ByteArray.size_append, hZs]; exact Nat.le_refl 2
          have hZz : Z.size ≤ 1 := by omega
          clear hZs
          have nw := newR V (S, ⟨#[]⟩)
          have bN := allocBelow V (.cells #[.string S, .string ⟨#[]⟩] 36)
          have BN : Below wr.heap.size wr (V.alloc (.cells #[.string S, .string ⟨#[]⟩] 36)) := bV.trans (bN.mono bV.size)
          have oM2 := oM.kept (grownB BN none) (blockCases _ _ fun b c1 c2 => by cases c2)
          have gM2 := grown_trans gM (grownB BN none)
          have zM := gM2.size
          clear hby bV bN oM gM
          obtain ⟨oa, oc, rfl⟩ := shapeK3 oM2
          go_wp2_with (at_builtin; refine wpList_appR rfl (.tmp 24) (.tmp 32) rfl w5.heap.size (.slice oa M.length oc) _ rfl oM2 _ _ [(S, ⟨#[]⟩)] rfl nw (by have := HM.out; simp; omega) (by omega) ?_; intro v6 w6 o6 g6 n6 k6)
          have gM3 : w5.grownBy w6 none := grown_new gM2 g6 (fun i hi => by have := (oM2.lt i hi).1; omega)
          clear g6 n6 k6 oM2 gM2 nw hcv BN
          go_wp2
          go_roundw
          case rel => exact ⟨j + 1, M ++ [(S, ⟨#[]⟩)], by go_num, by omega, by have := HM.out; simp; omega, fun z hz => by
            rcases List.mem_append.1 hz with t | t
            · exact hMs z t
            · rw [List.mem_singleton.1 t]; exact ⟨by show S.size ≤ _; omega, by show 0 ≤ _; omega⟩, by first | exact o6 | trivial, gM3⟩
          case measure => first | (simp [intOf]; omega) | simp [intOf]
        · have q : ¬ (j : Int) < 40 := by omega
          have ej : j = 40 := by omega
          subst ej
          have s6 : Src b wr b a n cap (k3 + 1 + 1) := s5.kept gM (by simp) (fun j hj => by cases hj)
          have B6 : Below b w wr := B5.grown gM (by omega) (fun j hj => by cases hj)
          obtain ⟨g6, c6, rfl⟩ := owned oM (by have := HM.out; omega)
          clear s5 B5 gM
          go_wp2_with fail
          refine (l1TextS b b a n cap (k3 + 1 + 1) _ s6 (by omega)).mono ?_; rintro e w7 ⟨y, k7, rfl, hy, s7, hk7, g7⟩
          have o7 : RuR (b + 1) w7 g6 c6 M := RuR.grew (oM.mono (by omega)) g7 (by omega)
          have zz6 := s6.lt
          have B7 : Below b w w7 := B6.grown g7 (by omega) (fun j hj => by cases hj; exact Nat.le_refl _)
          have HF : Hid (DlPost w (.returned (.tuple #[.slice (some ⟨g6, 0, none⟩) M.length c6, .string x, .string y])) w7) := ⟨M, g6, c6, x, y, rfl, by have := HM.out; omega, hMs, o7.mono (by rw [HB.out]; omega), by exact hx, hy, by rw [HB.out]; exact B7⟩
          clear o7 B7 oM hMs s7 g7 B6 s6
          go_wp2
          refine bodyPost_ret (v := .tuple #[.slice (some ⟨g6, 0, none⟩) M.length c6, .string x, .string y]) (by simp [results, Try.results5, go_sem]) rfl ?_
          exact HF.out
    | false =>
      go_wp2_with fail
      refine (l1TextS b b a n cap (k3 + 1 + 1) _ s5 (by omega)).mono ?_; rintro e w7 ⟨y, k7, rfl, hy, s7, hk7, g7⟩
      have o7 : RuR (b + 1) w7 g c L := oL5.grew g7 (by omega)
      have zz6 := s5.lt
      have B7 : Below b w w7 := B5.grown g7 (by omega) (fun j hj => by cases hj; exact Nat.le_refl _)
      have HF : Hid (DlPost w (.returned (.tuple #[.slice (some ⟨g, 0, none⟩) L.length c, .string x, .string y])) w7) := ⟨L, g, c, x, y, rfl, hL, hS, o7.mono (by rw [HB.out]; omega), by exact hx, hy, by rw [HB.out]; exact B7⟩
      clear o7 B7 oL5 hS s7 g7 B5 s5
      go_wp2
      refine bodyPost_ret (v := .tuple #[.slice (some ⟨g, 0, none⟩) L.length c, .string x, .string y]) (by simp [results, Try.results5, go_sem]) rfl ?_
      exact HF.out
end Go.Proofs.Ytkeinpobngfioaa.Ru
/- Rules that are learnt, found and forgotten: the mathematics. No statement is proved here. -/
set_option linter.unusedVariables false
namespace Go.Proofs.Ytkeinpobngfioaa.Ru
open Go.RowKit
def lessO (a b : Ob) : Prop := Op.bytesLess a.1.toList b.1.toList = true
/-- Rules without a fault. -/
def RuOK (l : List Ob) : Prop := l.length ≤ 40 ∧ (∀ x ∈ l, okPre x.1 = true ∧ tf x.2 = 0) ∧ l.Pairwise lessO
theorem getD_el (l : List Ob) (k : Nat) (h : k < l.length) : l.getD k onil = l[k] := by simp [List.getD, h]
theorem mem_at {l : List Ob} {x : Ob} (h : x ∈ l) : ∃ k, k < l.length ∧ l.getD k onil = x := by
  obtain ⟨k, hk, e⟩ := List.getElem_of_mem h
  exact ⟨k, hk, by rw [getD_el l k hk]; exact e⟩
theorem ruF_parts {l : List Ob} {j : Nat} (h : ruF l j = 0) : okPre (l.getD j onil).1 = true ∧ tf (l.getD j onil).2 = 0 := by
  unfold ruF at h
  cases e : okPre (l.getD j onil).1 with
  | false => rw [e, if_pos rfl] at h; cases h
  | true =>
    rw [e, if_neg (by simp)] at h
    split at h
    · cases h
    · exact ⟨rfl, h⟩
theorem rf_to {l : List Ob} (h : rf l = 0) : RuOK l := by
  obtain ⟨h1, h2⟩ := rf_zero h
  refine ⟨by omega, fun x hx => ?_, ?_⟩
  · obtain ⟨k, hk, e⟩ := mem_at hx
    rw [← e]
    exact ruF_parts (h2 k hk)
  · rw [List.pairwise_iff_getElem]
    intro i j hi hj hij
    have := rises h i j hij hj
    rw [getD_el _ _ hi, getD_el _ _ hj] at this
    exact this
theorem less_not {a b : Ob} (h : lessO a b) : ¬ lessO b a := fun k => by
  have := bl_trans _ _ _ h k
  rw [bl_irr] at this
  cases this
theorem less_ne {a b : Ob} (h : lessO a b) : ¬ a.1 = b.1 := fun e => by
  unfold lessO at h
  rw [e, bl_irr] at h
  cases h
theorem pair_at {l : List Ob} (h : l.Pairwise lessO) {i j : Nat} (hij : i < j) (hj : j < l.length) : lessO (l.getD i onil) (l.getD j onil) := by
  rw [getD_el _ _ (show i < l.length by omega), getD_el _ _ hj]
  exact (List.pairwise_iff_getElem.1 h) i j _ hj hij
theorem rf_of {l : List Ob} (h : RuOK l) : rf l = 0 := by
  refine rf_ok (by have := h.1; omega) fun j hj => ?_
  obtain ⟨h1, h2⟩ := h.2.1 _ (ob_mem l j hj)
  unfold ruF
  rw [if_neg (by rw [h1]; simp), if_neg ?_]
  · exact h2
  · rintro ⟨h3, h4⟩
    have h5 := pair_at h.2.2 (show j - 1 < j by omega) hj
    unfold leS at h4
    rcases Bool.or_eq_true_iff.1 h4 with q | q
    · exact less_not h5 q
    · exact less_ne h5 (bytes_inj2 (eq_of_beq q)).symm
theorem fd_mem {l : List Ob} (h : RuOK l) {x : Ob} (hx : x ∈ l) : ∃ j : Nat, fd l x.1 = (j : Int) ∧ j < l.length ∧ l.getD j onil = x := by
  obtain ⟨k, hk, e⟩ := mem_at hx
  rcases fd_bd l x.1 with q | ⟨j, q, hj⟩
  · exact absurd (by rw [e]) (fd_none q k hk)
  · refine ⟨j, q, hj, ?_⟩
    have h1 := fd_at q
    rcases Nat.lt_trichotomy j k with t | t | t
    · have := less_ne (pair_at h.2.2 t hk)
      rw [h1, e] at this
      exact absurd rfl this
    · rw [t]; exact e
    · have := less_ne (pair_at h.2.2 t hj)
      rw [h1, e] at this
      exact absurd rfl this
theorem fr_mem {l : List Ob} (h : RuOK l) {x : Ob} (hx : x ∈ l) : frC l x.1 = 0 ∧ frT l x.1 = x.2 := by
  obtain ⟨j, h1, h2, h3⟩ := fd_mem h hx
  have h0 := rf_of h
  have hn : ¬ fd l x.1 = -1 := by rw [h1]; omega
  refine ⟨by unfold frC; rw [if_pos h0, if_neg hn], ?_⟩
  unfold frT
  rw [if_pos ⟨h0, hn⟩, h1, Int.toNat_natCast, h3]
theorem fr_none {l : List Ob} (h : RuOK l) {p : ByteArray} (hn : ∀ x ∈ l, ¬ x.1 = p) : frC l p = 4 := by
  unfold frC
  rw [if_pos (rf_of h), if_pos ?_]
  rcases fd_bd l p with q | ⟨j, q, hj⟩
  · exact q
  · exact absurd (fd_at q) (hn _ (ob_mem l j hj))
theorem lnM_ok {l : List Ob} {p q : ByteArray} (h : RuOK l) (hp : okPre p = true) (hq : tf q = 0) (h3 : ¬ (fd l p = -1 ∧ l.length = 40)) : RuOK (lnM l p q) ∧ (p, q) ∈ lnM l p q ∧ ∀ x ∈ l, ¬ x.1 = p → x ∈ lnM l p q := by
  have hm : ∀ x ∈ lnM l p q, okPre x.1 = true ∧ tf x.2 = 0 := fun x hx => by
    rcases lnM_mem hx with k | k
    · exact h.2.1 x k
    · rw [k]; exact ⟨hp, hq⟩
  rcases fd_bd l p with e | ⟨j, e, hj⟩
  · have hl : l.length < 40 := by have := h.1; omega
    have e1 : lnM l p q = insL l (pl l p) (p, q) := if_pos e
    have hc : Cuts l (p, q) (pl l p) := pl_cuts (rf_of h) (p, q)
    have hup : ∀ k, pl l p ≤ k → k < l.length → lessO (p, q) (l.getD k onil) := fun k k1 k2 => by
      have c1 := hc.2.2 k k1 k2
      have c2 := fd_none e k k2
      rcases bl_total p.toList (l.getD k onil).1.toList with t | t | t
      · exact t
      · exact absurd (bytes_inj2 t).symm c2
      · have := (cmR_lt (l.getD k onil) (p, q)).2 t
        omega
    rw [e1] at hm ⊢
    refine ⟨⟨by rw [insL_length l _ _ (pl_le l p)]; omega, hm, ?_⟩, ?_, fun x hx _ => ?_⟩
    · unfold insL
      rw [List.pairwise_append]
      refine ⟨h.2.2.sublist (List.take_sublist _ _), ?_, fun x hx y hy => ?_⟩
      · rw [List.singleton_append, List.pairwise_cons]
        refine ⟨fun y hy => ?_, h.2.2.sublist (List.drop_sublist _ _)⟩
        obtain ⟨k, hk, ek⟩ := List.getElem_of_mem hy
        rw [List.getElem_drop] at ek
        rw [List.length_drop] at hk
        have := hup (pl l p + k) (by omega) (by omega)
        rw [getD_el _ _ (by omega), ek] at this
        exact this
      · obtain ⟨i, hi, ei⟩ := List.getElem_of_mem hx
        rw [List.length_take] at hi
        rw [List.getElem_take] at ei
        have hlo : lessO (l.getD i onil) (p, q) := (cmR_lt (l.getD i onil) (p, q)).1 (hc.2.1 i (by omega))
        rw [getD_el _ _ (by omega), ei] at hlo
        rw [List.singleton_append] at hy
        rcases List.mem_cons.1 hy with t | t
        · rw [t]; exact hlo
        · obtain ⟨k, hk, ek⟩ := List.getElem_of_mem t
          rw [List.getElem_drop] at ek
          rw [List.length_drop] at hk
          have := pair_at h.2.2 (show i < pl l p + k by omega) (by omega)
          rw [getD_el _ _ (by omega), getD_el _ _ (by omega), ei, ek] at this
          exact this
    · unfold insL; simp
    · unfold insL
      have : x ∈ l.take (pl l p) ++ l.drop (pl l p) := by rw [List.take_append_drop]; exact hx
      rcases List.mem_append.1 this with t | t
      · exact List.mem_append_left _ t
      · exact List.mem_append_right _ (List.mem_append_right _ t)
  · have e1 : lnM l p q = l.set j (p, q) := by unfold lnM; rw [if_neg (by rw [e]; omega), e, Int.toNat_natCast]
    have ej := fd_at e
    rw [e1] at hm ⊢
    refine ⟨⟨by rw [List.length_set]; exact h.1, hm, ?_⟩, List.mem_set hj _, fun x hx hne => ?_⟩
    · have em : (l.set j (p, q)).map Prod.fst = l.map Prod.fst := by
        rw [List.map_set]
        apply List.ext_getElem (by simp)
        intro i h1 h2
        rw [List.getElem_set]
        split
        · rename_i t
          subst t
          rw [getD_el _ _ hj] at ej
          simp [ej]
        · rfl
      have h9 : (l.map Prod.fst).Pairwise (fun a b => Op.bytesLess a.toList b.toList = true) := List.pairwise_map.2 h.2.2
      rw [← em] at h9
      have h7 := List.pairwise_map.1 h9
      exact h7
    · obtain ⟨k, hk, ek⟩ := mem_at hx
      have hkj : j ≠ k := fun t => hne (by rw [← ek, ← t]; exact ej)
      rw [getD_el _ _ hk] at ek
      have h8 : (l.set j (p, q))[k]'(by rw [List.length_set]; exact hk) = x := by rw [List.getElem_set_ne hkj]; exact ek
      rw [← h8]
      exact List.getElem_mem _
theorem fg_ok {M : List Ob} {p q : ByteArray} (h : RuOK M) (hm : (p, q) ∈ M) : fgC M p = 0 ∧ RuOK (fgL M p) ∧ (∀ x ∈ fgL M p, ¬ x.1 = p) ∧ (∀ x ∈ M, ¬ x.1 = p → x ∈ fgL M p) ∧ (fgL M p).length + 1 = M.length := by
  obtain ⟨j, h1, h2, h3⟩ := fd_mem h hm
  have h0 := rf_of h
  simp only [] at h1
  have hn : ¬ fd M p = -1 := by rw [h1]; omega
  have e1 : fgL M p = M.eraseIdx j := by unfold fgL; rw [if_pos ⟨h0, hn⟩, h1, Int.toNat_natCast]
  rw [e1]
  have hsub : M.eraseIdx j |>.Sublist M := List.eraseIdx_sublist _ _
  have hlen : (M.eraseIdx j).length + 1 = M.length := by rw [List.length_eraseIdx_of_lt h2]; omega
  rw [getD_el _ _ h2] at h3
  refine ⟨by unfold fgC; rw [if_pos h0, if_neg hn], ⟨by have := h.1; omega, fun x hx => h.2.1 x (hsub.subset hx), h.2.2.sublist hsub⟩, fun x hx e => ?_, fun x hx hne => ?_, hlen⟩
  · obtain ⟨i, hi, hij, ei⟩ := List.mem_eraseIdx_iff_getElem.1 hx
    rcases Nat.lt_or_gt_of_ne hij with t | t
    · have := less_ne (pair_at h.2.2 t h2)
      rw [getD_el _ _ hi, getD_el _ _ h2, ei, h3] at this
      exact this e
    · have := less_ne (pair_at h.2.2 t hi)
      rw [getD_el _ _ hi, getD_el _ _ h2, ei, h3] at this
      exact this e.symm
  · obtain ⟨k, hk, ek⟩ := mem_at hx
    rw [getD_el _ _ hk] at ek
    refine List.mem_eraseIdx_iff_getElem.2 ⟨k, hk, fun t => hne ?_, ek⟩
    subst t
    rw [← ek, h3]
/-- All that FnRules asks. -/
structure FuOK (l : List Ob) (p q : ByteArray) (M G : List Ob) : Prop where
  rM : rf M = 0
  cM : frC M p = 0
  tM : frT M p = q
  cG : fgC M p = 0
  nG : frC G p = 4
  all : ∀ k, k < l.length → ¬ (l.getD k onil).1 = p → frT M (l.getD k onil).1 = (l.getD k onil).2 ∧ frT G (l.getD k onil).1 = (l.getD k onil).2
  len : G.length + 1 = M.length
  short : M.length ≤ 40
  inM : ∀ x ∈ M, x ∈ l ∨ x = (p, q)
  inG : ∀ x ∈ G, x ∈ l ∨ x = (p, q)
theorem fu_all {l : List Ob} {p q : ByteArray} (h : lnC l p q = 0) : FuOK l p q (lnL l p q) (fgL (lnL l p q) p) := by
  obtain ⟨h0, h1, h2, h3, h4⟩ := ln_zero h
  obtain ⟨m1, m2, m3⟩ := lnM_ok (rf_to h0) h1 h2 h3
  rw [h4]
  obtain ⟨g1, g2, g3, g4, g5⟩ := fg_ok m1 m2
  have f1 := fr_mem m1 m2
  refine ⟨rf_of m1, f1.1, f1.2, g1, fr_none g2 g3, fun k hk hne => ?_, g5, m1.1, fun x hx => lnM_mem hx, fun x hx => ?_⟩
  · have x1 := m3 _ (ob_mem l k hk) hne
    exact ⟨(fr_mem m1 x1).2, (fr_mem g2 (g4 _ x1 hne)).2⟩
  · have h9 : x ∈ lnM l p q := by
      unfold fgL at hx
      split at hx
      · exact (List.eraseIdx_sublist _ _).subset hx
      · cases hx
    exact lnM_mem h9
end Go.Proofs.Ytkeinpobngfioaa.Ru
