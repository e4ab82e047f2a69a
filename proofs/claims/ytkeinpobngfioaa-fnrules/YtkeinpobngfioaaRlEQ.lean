/- A rule is taken out of the program's sorted list. No statement is proved here. -/
import Derived.Test.YtkeinpobngfioaaRows
import Derived.Test.YtkeinpobngfioaaLemQ
import Derived.Test.YtkeinpobngfioaaLFLemQ
import Derived.Test.YtkeinpobngfioaaDTabQ
import Derived.Test.YtkeinpobngfioaaHkTQ
import Derived.Test.YtkeinpobngfioaaRuLQ
import Derived.Test.YtkeinpobngfioaaRuFQ
import Derived.Test.YtkeinpobngfioaaFrCQ
import Derived.Test.YtkeinpobngfioaaRlBQ
import Derived.WalkKit
import Derived.ProofKit
import Derived.Below
import Derived.WalkSpells
import Derived.Deep.RegionWith
import Derived.Deep.RegionHeld
import Derived.Lib.SliceRun
import Derived.Test.YtkeinpobngfioaaRlDQ
import Derived.Maps.AppendAt
import Derived.Deep.QuietTactic
import Derived.BigQuiet
import Derived.Deep.CutRange
set_option linter.unusedVariables false
namespace Go.Proofs.Ytkeinpobngfioaa.Ru
open Go.ChangeShapes Go.WideShapes Go.ChangeAt Go.RowKit
theorem zcE {w w' : World} {g o : Nat} {v : Value} (b : Below w.heap.size w w') (h : w.cell? ⟨g, o, none⟩ = some v) : w'.cell? ⟨g, o, none⟩ = some v := (Fr.ofBelow (lo := 0) (hi := 0) b).cell h (.inr (Nat.zero_le _))
/-- The function value that is handed to drop: is it this text? -/
theorem isOutC (P : Nat) (x : Ob) (p : ByteArray) (w : World) (h : w.cell? ⟨P, 0, none⟩ = some (.string p)) :
    Calls Try.prog 27 #[.agg #[.string x.1, .string x.2], .pointer (some ⟨P, 0, none⟩)] w fun e w' => e = .returned (.bool (x.1.toList == p.toList)) ∧ Below w.heap.size w w' := by
  obtain ⟨x0, x1⟩ := x
  simp only []
  obtain ⟨W1, hW1⟩ : ∃ W, w.alloc (.cells #[.string x0, .string x1] 36) = W := ⟨_, rfl⟩
  have b1 : Below w.heap.size w W1 := by rw [← hW1]; exact allocBelow _ _
  have c0 : W1.cell? ⟨w.heap.size, 0, none⟩ = some (.string x0) := by rw [← hW1]; exact Rs.new w #[.string x0, .string x1] 36 0 _ rfl
  have h1 := zcE b1 h
  go_enter Try.func27, Try.ntmps27
  go_wp2_with fail
  clear hW1
  go_wp2
  go_ret
  exact ⟨rfl, b1⟩
set_option maxRecDepth 20000 in
set_option maxHeartbeats 2000000 in
theorem indexFuncC (a : Option Addr) (c P : Nat) (l : List Ob) (p : ByteArray) (w : World) (h : OB w.heap.size w a l) (hn : l.length ≤ 1048576) (hP : w.cell? ⟨P, 0, none⟩ = some (.string p)) :
    Calls Try.prog 49 #[.slice a l.length c, .func (.func 27) #[] #[.pointer (some ⟨P, 0, none⟩)]] w fun e w' => e = .returned (.int .i64 (fd l p)) ∧ Below w.heap.size w w' := by
  go_enter Try.func49, Try.ntmps49
  go_wp2
  go_loopw [5, 8] (fun _m i wr => ∃ k : Nat, k ≤ l.length ∧ i = .int .i64 k ∧ Below w.heap.size w wr ∧ Hid (fd l p = fdF l p (l.length - k) k)) (fun _ i _ => l.length - (intOf i).toNat)
  case atStart => exact ⟨0, Nat.zero_le _, rfl, Below.refl _ _, rfl⟩
  case round =>
    obtain ⟨k, hk, rfl, hbel, hA⟩ := hrel
    have hsz := hbel.size
    by_cases hlt : k < l.length
    · have q : (k : Int) < (l.length : Int) := by omega
      obtain ⟨g, off, e, hg, c0, c1⟩ := h.below hbel k hlt
      subst e
      have hp := zcE hbel hP
      obtain ⟨m, hm⟩ : ∃ m, l.length - k = m + 1 := ⟨l.length - k - 1, by omega⟩
      have hm2 : l.length - (k + 1) = m := by omega
      rw [hm] at hA
      have hI := fun W => isOutC P (l.getD k onil) p W
      by_cases he : (l.getD k onil).1 = p
      · have HR : Hid (fd l p = (k : Int)) := by show _ = _; rw [hA.out, fdF_hit he]
        have hb : ((l.getD k onil).1.toList == p.toList) = true := beq_bytes_true he
        rw [hb] at hI
        obtain ⟨C, hC⟩ : ∃ C, l.getD k onil = C := ⟨_, rfl⟩
        obtain ⟨x0, x1⟩ := C
        rw [hC] at c0 c1 hI
        simp only [] at c0 c1 hI
        clear hA he hC hb
        go_wp2_with fail
        refine (hI _ hp).mono ?_; rintro e w2 ⟨rfl, b2⟩
        have HB : Hid (Below w.heap.size w w2) := below_step hbel hsz b2
        clear b2 hI c0 c1
        go_wp2
        go_ret
        exact ⟨ret_int HR.out.symm, HB.out⟩
      · have HG : Hid (fd l p = fdF l p (l.length - (k + 1)) (k + 1)) := by show _ = _; rw [hA.out, fdF_miss he, hm2]
        have hb : ((l.getD k onil).1.toList == p.toList) = false := beq_bytes_false he
        rw [hb] at hI
        obtain ⟨C, hC⟩ : ∃ C, l.getD k onil = C := ⟨_, rfl⟩
        obtain ⟨x0, x1⟩ := C
        rw [hC] at c0 c1 hI
        simp only [] at c0 c1 hI
        clear hA he hC hb hm hm2
        go_wp2_with fail
        refine (hI _ hp).mono ?_; rintro e w2 ⟨rfl, b2⟩
        have HB : Hid (Below w.heap.size w w2) := below_step hbel hsz b2
        clear b2 hI c0 c1
        go_wp2
        go_roundw
        case rel => exact ⟨k + 1, by omega, by go_num, HB.out, HG⟩
        case measure => first | (simp [intOf]; omega) | simp [intOf]
    · have HR : Hid (fd l p = -1) := by
        show _ = _
        rw [hA.out, show l.length - k = 0 by omega]
        rfl
      have q : ¬ (k : Int) < (l.length : Int) := by omega
      clear hA
      go_wp2
      go_ret
      exact ⟨ret_int HR.out.symm, hbel⟩
/-- A list from which a place goes, while those behind it come down. -/
def sh (l : List Ob) (at_ i : Nat) : List Ob := (List.range l.length).map fun m => if m < at_ then l.getD m onil else if m < i then l.getD (m + 1) onil else l.getD m onil
theorem sh_length (l : List Ob) (at_ i : Nat) : (sh l at_ i).length = l.length := by simp [sh]
theorem sh_at (l : List Ob) (at_ i m : Nat) (h : m < l.length) : (sh l at_ i).getD m onil = if m < at_ then l.getD m onil else if m < i then l.getD (m + 1) onil else l.getD m onil := by
  unfold sh
  rw [List.getD, List.getElem?_map, List.getElem?_range h]
  rfl
theorem ext_ob {l m : List Ob} (h1 : l.length = m.length) (h2 : ∀ k, k < l.length → l.getD k onil = m.getD k onil) : l = m := by
  apply List.ext_getElem h1
  intro k a b
  have := h2 k a
  simpa [List.getD, a, b] using this
theorem sh_start (l : List Ob) (at_ : Nat) : sh l at_ at_ = l := by
  refine ext_ob (sh_length _ _ _) fun k hk => ?_
  rw [sh_length] at hk
  rw [sh_at _ _ _ _ hk]
  by_cases h : k < at_
  · rw [if_pos h]
  · rw [if_neg h, if_neg h]
theorem sh_set (l : List Ob) (at_ i : Nat) (h : at_ ≤ i) (hi : i + 1 < l.length) : (sh l at_ i).set i (l.getD (i + 1) onil) = sh l at_ (i + 1) := by
  refine ext_ob (by rw [List.length_set, sh_length, sh_length]) fun k hk => ?_
  rw [List.length_set, sh_length] at hk
  rw [sh_at _ _ _ _ hk]
  by_cases e : k = i
  · subst e
    rw [List.getD, List.getElem?_set_self (by rw [sh_length]; omega), if_neg (by omega), if_pos (by omega)]
    rfl
  · rw [List.getD, List.getElem?_set_ne (by omega)]
    have := sh_at l at_ i k hk
    rw [List.getD] at this
    rw [this]
    by_cases h1 : k < at_
    · rw [if_pos h1, if_pos h1]
    · rw [if_neg h1, if_neg h1]
      by_cases h2 : k < i
      · rw [if_pos h2, if_pos (by omega)]
      · rw [if_neg h2, if_neg (by omega)]
theorem sh_end (l : List Ob) (at_ : Nat) (h : at_ < l.length) : (sh l at_ (l.length - 1)).take (l.length - 1) = l.eraseIdx at_ := by
  have hl : (l.eraseIdx at_).length = l.length - 1 := by rw [List.length_eraseIdx_of_lt h]
  refine ext_ob (by rw [List.length_take, sh_length, hl]; omega) fun k hk => ?_
  rw [List.length_take, sh_length] at hk
  have hk1 : k < l.length - 1 := by omega
  have e1 : ((sh l at_ (l.length - 1)).take (l.length - 1)).getD k onil = (sh l at_ (l.length - 1)).getD k onil := by
    simp only [List.getD, List.getElem?_take]
    rw [if_pos hk1]
  rw [e1, sh_at _ _ _ _ (by omega), if_pos hk1]
  simp only [List.getD, List.getElem?_eraseIdx]
  by_cases h1 : k < at_
  · rw [if_pos h1, if_pos h1]
  · rw [if_neg h1, if_neg h1]
theorem ocells_set (l : List Ob) (k : Nat) (o : Ob) (h : k < l.length) : ((ocells l).set (k * 2) (.string o.1)).set (k * 2 + 1) (.string o.2) = ocells (l.set k o) := by
  unfold ocells
  rw [rowG_set, rowG_set, List.length_set]
  apply rowG_congr
  intro j hj
  by_cases e1 : j = k * 2 + 1
  · rw [if_pos e1, e1, ocell1]
    rw [List.getD, List.getElem?_set_self h]; rfl
  · rw [if_neg e1]
    by_cases e0 : j = k * 2
    · rw [if_pos e0, e0, ocell0]
      rw [List.getD, List.getElem?_set_self h]; rfl
    · rw [if_neg e0]
      unfold ocell
      have hne : k ≠ j / 2 := by omega
      have e3 : (l.set k o).getD (j / 2) onil = l.getD (j / 2) onil := by rw [List.getD, List.getD, List.getElem?_set_ne hne]
      rw [e3]
/-- A row of which the last place is given up. -/
theorem ownShort {w : World} {base g c n : Nat} {l m : List Ob} (h : w.ownsRow base 36 2 (.slice (some ⟨g, 0, none⟩) n c) n (ocells l)) (hn : n = l.length) (hm : m = l.take (n - 1)) : w.ownsRow base 36 2 (.slice (some ⟨g, 0, none⟩) (n - 1) c) (n - 1) (ocells m) := by
  subst hm
  rcases h.2 with ⟨h', _⟩ | ⟨g', c', cur, h', hb, hh, h1, h2, h3, h4⟩
  · cases h'
  · simp only [Value.slice.injEq, Option.some.injEq, Addr.mk.injEq, and_true, true_and] at h'
    obtain ⟨rfl, rfl⟩ := h'
    have hl : (l.take (n - 1)).length = n - 1 := by rw [List.length_take]; omega
    refine ⟨by rw [ocells_length, hl], .inr ⟨g, c, cur, rfl, hb, hh, by omega, h2, h3, ?_⟩⟩
    have e : ocells l = ocells (l.take (n - 1)) ++ ocells (l.drop (n - 1)) := by rw [← ocells_app, List.take_append_drop]
    have e2 : cur.toList.take ((n - 1) * 2) = (cur.toList.take (n * 2)).take ((n - 1) * 2) := by rw [List.take_take]; congr 1; omega
    rw [e2, h4, e, List.take_append_of_le_length (by rw [ocells_length, hl]; omega), List.take_of_length_le (by rw [ocells_length, hl]; omega)]
theorem run_clear_rule (w : World) (ty : TypeId) (b o c : Nat) (h0 : (w.cell? ⟨b, o, none⟩).isSome = true) (h1 : (w.cell? ⟨b, o + 1, none⟩).isSome = true) (f0 : w.frozen? ⟨b, o, none⟩ = false) (f1 : w.frozen? ⟨b, o + 1, none⟩ = false) :
    (Builtin.clear_ #[24] ty #[.slice (some ⟨b, o, none⟩) 1 c]).run Try.prog w = .ok (.tuple #[]) (w.setCells b o [.string ⟨#[]⟩, .string ⟨#[]⟩]) := by
  have two : ∀ j, j < [Value.string ⟨#[]⟩, Value.string ⟨#[]⟩].length → j = 0 ∨ j = 1 := fun j hj => by have hj2 : j < 2 := hj; omega
  have hst := run_storeCells_cells (P := Try.prog) b o [.string ⟨#[]⟩, .string ⟨#[]⟩] 0 w
    (fun j hj => by
      rcases two j hj with rfl | rfl
      · exact h0
      · exact h1)
    (fun j hj => by
      rcases two j hj with rfl | rfl
      · exact f0
      · exact f1)
    (fun v hv => by simp at hv; subst hv; rfl)
  simp only [Nat.add_zero] at hst
  have hz : ∀ w, (zeroValue 36).run Try.prog w = .ok (.agg #[.string ⟨#[]⟩, .string ⟨#[]⟩]) w := fun w => by kernel_rfl
  have hzc : (Builtin.zeroCells (Value.agg #[.string ⟨#[]⟩, .string ⟨#[]⟩]).cells 1).toList = [.string ⟨#[]⟩, .string ⟨#[]⟩] := by kernel_rfl
  simp [Builtin.clear_, run_underlying Try.underlying24, hz, hzc, hst]

/-- What DeleteFunc leaves. -/
def DQ (base : Nat) (v : Value) (L : List Ob) (w : World) (e : Ending) (w' : World) : Prop := ∃ v', e = .returned v' ∧ w'.ownsRow base 36 2 v' L.length (ocells L) ∧ w.grownBy w' v.ownBlock
theorem grT {w w1 w2 : World} {r : Option Nat} (h : w.grownBy w1 r) (h2 : Below w1.heap.size w1 w2) : w.grownBy w2 r :=
  ⟨(grownOfBelow h2 none).os.trans h.os, (grownOfBelow h2 none).tape.trans h.tape, (grownOfBelow h2 none).output.trans h.output, Nat.le_trans h.size h2.size, fun k hk hne => ((grownOfBelow h2 none).block k (Nat.lt_of_lt_of_le hk h.size) (by simp)).trans (h.block k hk hne)⟩
theorem grS {w w1 w2 : World} {r : Option Nat} (h : w.grownBy w1 r) (h2 : w1.grownBy w2 r) : w.grownBy w2 r :=
  ⟨h2.os.trans h.os, h2.tape.trans h.tape, h2.output.trans h.output, Nat.le_trans h.size h2.size, fun k hk hne => (h2.block k (Nat.lt_of_lt_of_le hk h.size) hne).trans (h.block k hk hne)⟩
set_option maxRecDepth 20000 in
set_option maxHeartbeats 4000000 in
theorem deleteFuncC (base b c P : Nat) (l : List Ob) (p : ByteArray) (at_ : Nat) (w : World) (h : w.ownsRow base 36 2 (.slice (some ⟨b, 0, none⟩) l.length c) l.length (ocells l)) (hn : l.length ≤ 1048576) (hP : w.cell? ⟨P, 0, none⟩ = some (.string p)) (hPb : P ≠ b)
    (ha : at_ < l.length) (hf : fd l p = (at_ : Int)) (hne : ∀ k, at_ < k → k < l.length → ¬ (l.getD k onil).1 = p) :
    Calls Try.prog 39 #[.slice (some ⟨b, 0, none⟩) l.length c, .func (.func 27) #[] #[.pointer (some ⟨P, 0, none⟩)]] w fun e w' => DQ base (.slice (some ⟨b, 0, none⟩) l.length c) (l.eraseIdx at_) w e w' := by
  have hI := indexFuncC (some ⟨b, 0, none⟩) c P l p w (OB.of h) hn hP
  rw [hf] at hI
  have hcap : l.length ≤ c := by
    rcases h.2 with ⟨h', _⟩ | ⟨g', c', cur, h', hb, hh, h1, h2, h3, h4⟩
    · cases h'
    · simp only [Value.slice.injEq] at h'; omega
  have qa : ((at_ : Int) == -1) = false := beq_eq_false_iff_ne.2 (by omega)
  have hNe : Hid (∀ k, at_ < k → k < l.length → ¬ (l.getD k onil).1 = p) := hne
  clear hf hne
  go_enter Try.func39, Try.ntmps39
  go_wp2_with fail
  refine hI.mono ?_; rintro e w1 ⟨rfl, b1⟩
  have o1 : w1.ownsRow base 36 2 (.slice (some ⟨b, 0, none⟩) l.length c) l.length (ocells (sh l at_ at_)) := by rw [sh_start]; exact h.kept (grownOfBelow b1 none) (blockCases _ _ fun b c1 c2 => by cases c2)
  have g1 : w.grownBy w1 (some b) := ⟨(grownOfBelow b1 none).os, (grownOfBelow b1 none).tape, (grownOfBelow b1 none).output, b1.size, fun k hk _ => (grownOfBelow b1 none).block k hk (by simp)⟩
  have p1 := zcE b1 hP
  clear hI b1 h hP
  go_wp2
  go_loopw [5, 6, 7] (fun vi vj _v wr => ∃ i j : Nat, j = i + 1 ∧ at_ ≤ i ∧ j ≤ l.length ∧ vi = .int .i64 i ∧ vj = .int .i64 j ∧ wr.ownsRow base 36 2 (.slice (some ⟨b, 0, none⟩) l.length c) l.length (ocells (sh l at_ i)) ∧ w.grownBy wr (some b) ∧ wr.cell? ⟨P, 0, none⟩ = some (.string p)) (fun vi _ _ _ => l.length - (intOf vi).toNat)
  case atStart => exact ⟨at_, at_ + 1, rfl, Nat.le_refl _, ha, rfl, by go_num, o1, g1, p1⟩
  case round =>
    obtain ⟨i, j, hj, hi, hil, rfl, rfl, ho, hg, hp⟩ := hrel
    clear o1 g1 p1
    have hbl := ho.lt b rfl
    have HJ : Hid (j = i + 1) := hj
    by_cases hlt : j < l.length
    · have q : (j : Int) < (l.length : Int) := by omega
      have qi : (i : Int) < (l.length : Int) := by omega
      have hO := OB.of (l := sh l at_ i) (by rw [sh_length]; exact ho)
      obtain ⟨g, off, e, hgl, c0, c1⟩ := hO j (by rw [sh_length]; exact hlt)
      simp only [Option.some.injEq, Addr.mk.injEq, and_true] at e
      obtain ⟨rfl, rfl⟩ := e
      have hsj : (sh l at_ i).getD j onil = l.getD j onil := by rw [sh_at _ _ _ _ hlt, if_neg (by omega), if_neg (by omega)]
      rw [hsj] at c0 c1
      have HS : Hid ((sh l at_ i).set i (l.getD j onil) = sh l at_ j) := by rw [hj]; exact sh_set l at_ i hi (by omega)
      have hb : ((l.getD j onil).1.toList == p.toList) = false := beq_bytes_false (hNe.out j (by omega) hlt)
      have hI := fun W => isOutC P (l.getD j onil) p W
      rw [hb] at hI
      obtain ⟨C, hC⟩ : ∃ C, l.getD j onil = C := ⟨_, rfl⟩
      obtain ⟨x0, x1⟩ := C
      rw [hC] at c0 c1 hI HS
      simp only [Nat.zero_add] at c0 c1 hI
      have hi2 : i * 2 < l.length * 2 := by omega
      have hi3 : i * 2 + 1 < l.length * 2 := by omega
      have hil2 : i < l.length := by omega
      clear hO hb hC hsj hj
      obtain ⟨V, hV⟩ : ∃ V, wr.alloc (.cells #[.string x0, .string x1] 36) = V := ⟨_, rfl⟩
      have bV : Below wr.heap.size wr V := by rw [← hV]; exact allocBelow _ _
      have rV : Rs V wr.heap.size [.string x0, .string x1] := by rw [← hV]; exact Rs.new wr #[.string x0, .string x1] _
      have hpV := zcE bV hp
      have n0 := rV 0 _ rfl
      have n1 := rV 1 _ rfl
      go_wp2_with fail
      refine (hI _ hpV).mono ?_; rintro e w2 ⟨rfl, b2⟩
      have B2 : Below wr.heap.size wr w2 := bV.trans (b2.mono bV.size)
      have g2 : w.grownBy w2 (some b) := grT hg B2
      have o2 := ho.kept (grownOfBelow B2 none) (blockCases _ _ fun b c1 c2 => by cases c2)
      have p2 := zcE B2 hp
      have m0 := zcE b2 n0
      have m1 := zcE b2 n1
      have k0 := o2.cellAt (i * 2) hi2
      have k1 := o2.cellAt (i * 2 + 1) hi3
      rw [ocells, rowG_at _ _ _ (by rw [sh_length]; omega)] at k0 k1
      have f0 := o2.frozenAt (i * 2)
      have f1 := o2.frozenAt (i * 2 + 1)
      have s1 := o2.stored (i * 2) (.string x0)
      have s2 := s1.1.stored (i * 2 + 1) (.string x1)
      have HO : Hid (((w2.setCell ⟨b, i * 2, none⟩ (.string x0)).setCell ⟨b, i * 2 + 1, none⟩ (.string x1)).ownsRow base 36 2 (.slice (some ⟨b, 0, none⟩) l.length c) l.length (ocells (sh l at_ j))) := by
        have h2 := s2.1
        have e := ocells_set (sh l at_ i) i (x0, x1) (by rw [sh_length]; exact hil2)
        simp only [] at e
        rw [e, HS.out] at h2
        exact h2
      have HG : Hid (w.grownBy ((w2.setCell ⟨b, i * 2, none⟩ (.string x0)).setCell ⟨b, i * 2 + 1, none⟩ (.string x1)) (some b)) := grS (grS g2 s1.2) s2.2
      have HP : Hid (((w2.setCell ⟨b, i * 2, none⟩ (.string x0)).setCell ⟨b, i * 2 + 1, none⟩ (.string x1)).cell? ⟨P, 0, none⟩ = some (.string p)) := s2.2.cell (s1.2.cell p2 (by simpa using hPb)) (by simpa using hPb)
      clear hV bV rV hpV n0 n1 b2 B2 g2 o2 p2 s1 s2 c0 c1 hI ho hg hp HS
      go_wp2
      go_roundw
      case rel => exact ⟨j, j + 1, rfl, by have := HJ.out; omega, by omega, by rw [HJ.out]; go_num, by go_num, HO.out, HG.out, HP.out⟩
      case measure => have := HJ.out; first | (simp [intOf]; omega) | simp [intOf]
    · have q : ¬ (j : Int) < (l.length : Int) := by omega
      have ei : i = l.length - 1 := by omega
      have hS := sh_end l at_ ha
      rw [← ei] at hS
      have k0 := ho.cellAt (i * 2) (by omega)
      have k1 := ho.cellAt (i * 2 + 1) (by omega)
      rw [ocells, rowG_at _ _ _ (by rw [sh_length]; omega)] at k0 k1
      have f0 := ho.frozenAt (i * 2)
      have f1 := ho.frozenAt (i * 2 + 1)
      have hcl := fun ty cc => run_clear_rule wr ty b (i * 2) cc (by rw [k0]; rfl) (by rw [k1]; rfl) f0 f1
      have eL : l.length = i + 1 := by omega
      have qc : (i : Int) ≤ (c : Int) := by omega
      have qi : (i : Int) ≤ (l.length : Int) := by omega
      have qn : ¬ i = c := by omega
      have s1 := ho.stored (i * 2) (.string ⟨#[]⟩)
      have s2 := s1.1.stored (i * 2 + 1) (.string ⟨#[]⟩)
      have e2 := ocells_set (sh l at_ i) i onil (by rw [sh_length]; omega)
      have hset : wr.setCells b (i * 2) [.string ⟨#[]⟩, .string ⟨#[]⟩] = (wr.setCell ⟨b, i * 2, none⟩ (.string ⟨#[]⟩)).setCell ⟨b, i * 2 + 1, none⟩ (.string ⟨#[]⟩) := rfl
      have hlen : (l.eraseIdx at_).length = i := by rw [List.length_eraseIdx_of_lt ha]; omega
      have HQ : Hid (DQ base (.slice (some ⟨b, 0, none⟩) l.length c) (l.eraseIdx at_) w (.returned (.slice (some ⟨b, 0, none⟩) i c)) (wr.setCells b (i * 2) [.string ⟨#[]⟩, .string ⟨#[]⟩])) := by
        rw [hset]
        have o3 := s2.1
        rw [show (Value.string ⟨#[]⟩) = .string onil.1 from rfl] at o3
        rw [show (Value.string onil.1) = .string onil.2 from rfl] at o3
        refine ⟨_, rfl, ?_, grS (grS hg s1.2) s2.2⟩
        rw [hlen]
        have hE : (sh l at_ i).set i onil = (sh l at_ i).set i onil := rfl
        have o4 : ((wr.setCell ⟨b, i * 2, none⟩ (.string ⟨#[]⟩)).setCell ⟨b, i * 2 + 1, none⟩ (.string ⟨#[]⟩)).ownsRow base 36 2 (.slice (some ⟨b, 0, none⟩) l.length c) l.length (ocells ((sh l at_ i).set i onil)) := by
          rw [← e2]; exact s2.1
        have o5 := ownShort (m := l.eraseIdx at_) o4 (by rw [List.length_set, sh_length]) (by rw [← hS, ei]; apply ext_ob (by rw [List.length_take, List.length_take, List.length_set]) ; intro k hk; rw [List.length_take, sh_length] at hk; simp only [List.getD, List.getElem?_take]; rw [if_pos (by omega), if_pos (by omega), List.getElem?_set_ne (by omega)])
        rw [← ei] at o5
        exact o5
      clear k0 k1 f0 f1 s1 s2 e2 hset hlen ho hg hp hS HJ hj hNe ei
      go_wp2
      go_ret
      exact HQ.out
end Go.Proofs.Ytkeinpobngfioaa.Ru
/- A rule is forgotten: the program. No statement is proved here. -/
set_option linter.unusedVariables false
namespace Go.Proofs.Ytkeinpobngfioaa.Ru
open Go.ChangeShapes Go.WideShapes Go.ChangeAt Go.RowKit

/-- The place that fd tells. -/
theorem fdF_at {l : List Ob} {p : ByteArray} : ∀ n k j : Nat, fdF l p n k = (j : Int) → (l.getD j onil).1 = p := by
  intro n
  induction n with
  | zero => intro k j h; simp only [fdF] at h; omega
  | succ n ih =>
    intro k j h
    by_cases e : (l.getD k onil).1 = p
    · rw [fdF_hit e] at h
      have : k = j := by omega
      rw [← this]; exact e
    · rw [fdF_miss e] at h
      exact ih _ _ h
theorem fd_at {l : List Ob} {p : ByteArray} {j : Nat} (h : fd l p = (j : Int)) : (l.getD j onil).1 = p := fdF_at _ _ _ h
/-- No rule behind it has the same text: rules rise. -/
theorem fd_only {l : List Ob} {p : ByteArray} {j : Nat} (h0 : rf l = 0) (h : fd l p = (j : Int)) : ∀ k, j < k → k < l.length → ¬ (l.getD k onil).1 = p := by
  intro k hk hl e
  have h1 := rises h0 j k hk hl
  rw [fd_at h, e, bl_irr] at h1
  cases h1
set_option maxRecDepth 20000 in
set_option maxHeartbeats 4000000 in
theorem dropC (b P : Nat) (l : List Ob) (v : Value) (p : ByteArray) (at_ : Nat) (w : World) (h : SL w b l v) (hn : l.length ≤ 1048576) (hP : w.cell? ⟨P, 0, none⟩ = some (.string p)) (hPb : P < b)
    (ha : at_ < l.length) (hf : fd l p = (at_ : Int)) (hne : ∀ k, at_ < k → k < l.length → ¬ (l.getD k onil).1 = p) :
    Calls Try.prog 26 #[.pointer (some ⟨b, 0, none⟩), .func (.func 27) #[] #[.pointer (some ⟨P, 0, none⟩)]] w fun e w' => AD b (l.eraseIdx at_) w e w' := by
  obtain ⟨r, c, rfl⟩ : ∃ r c, v = .slice (some ⟨r, 0, none⟩) l.length c := by
    rcases h.own.2 with ⟨_, h0⟩ | ⟨g, c, cur, e, _⟩
    · omega
    · exact ⟨g, c, e⟩
  have hr := (h.own.lt r rfl).1
  have hD := deleteFuncC (b + 1) r c P l p at_ w h.own hn hP (by omega) ha hf hne
  have k1 := h.rf.at_ 1 _ rfl
  have zV := h.lt
  have R3 := h.rf
  have f1 := h.rf.fz 1
  clear h hf hne hP
  go_enter Try.func26, Try.ntmps26
  go_wp2_with fail
  refine hD.mono ?_
  rintro e w5 ⟨v5, rfl, o5, g5⟩
  obtain ⟨ua, uc, rfl⟩ := shapeK3 o5
  have hne : some b ≠ (Value.slice (some ⟨r, 0, none⟩) l.length c).ownBlock := fun e => by
    have : b = r := Option.some.inj e
    omega
  have R5 := rfGrew R3 g5 hne zV
  have c5 := R5.at_ 1 _ rfl
  have z5 := R5.fz 1
  have z6 : b < w5.heap.size := Nat.lt_of_lt_of_le zV g5.size
  have R6 : Rf (w5.setCell ⟨b, 1, none⟩ (.slice ua (l.eraseIdx at_).length uc)) b [.func (.func 35) #[] #[], .slice ua (l.eraseIdx at_).length uc] := R5.set (o := 1) (by simp) _
  have o6 := o5.kept (grownSet w5 b 1 (.slice ua (l.eraseIdx at_).length uc)) (blockCases _ _ fun j c1 c2 => by cases c2; have := (o5.lt _ c1).1; omega)
  have B6 : Below b w (w5.setCell ⟨b, 1, none⟩ (.slice ua (l.eraseIdx at_).length uc)) := ((Below.refl b w).grown g5 (Nat.le_of_lt zV) (fun j hj => by have : r = j := Option.some.inj hj; omega)).setCell (p := ⟨b, 1, none⟩) (Nat.le_refl _) _
  have HF : Hid (AD b (l.eraseIdx at_) w (.returned (.tuple #[])) (w5.setCell ⟨b, 1, none⟩ (.slice ua (l.eraseIdx at_).length uc))) := ⟨rfl, ⟨_, R6, o6, by rw [World.size_setCell]; exact z6⟩, B6⟩
  generalize (l.eraseIdx at_).length = M at *
  clear R6 o6 B6 R5 o5 g5 R3 hD hne
  go_wp2
  refine bodyPost_end (results_none rfl _ _ _) rfl ?_
  exact HF.out
/-- What ForgetRule answers. -/
def fgC (l : List Ob) (p : ByteArray) : Int := if rf l = 0 then (if fd l p = -1 then 4 else 0) else rf l
def fgL (l : List Ob) (p : ByteArray) : List Ob := if rf l = 0 ∧ fd l p ≠ -1 then l.eraseIdx (fd l p).toNat else []
/-- An answer that is a list of rules. -/
def RQ (r : Int) (L : List Ob) (w : World) (e : Ending) (w' : World) : Prop := ∃ v, e = .returned (.agg #[.int .i64 r, v]) ∧ w'.ownsRow w.heap.size 36 2 v L.length (ocells L) ∧ Below w.heap.size w w'
theorem rq0 {r : Int} {w w' : World} (h : Below w.heap.size w w') : RQ r [] w (.returned (.agg #[.int .i64 r, .slice none 0 0])) w' := ⟨_, rfl, ⟨rfl, .inl ⟨rfl, rfl⟩⟩, h⟩
theorem ownMonoR {w : World} {b b' : Nat} {v : Value} {n : Nat} {xs : List Value} (h : w.ownsRow b 36 2 v n xs) (hb : b' ≤ b) : w.ownsRow b' 36 2 v n xs := by
  refine ⟨h.1, ?_⟩
  rcases h.2 with h' | ⟨g, c, cur, h1, h2, h3⟩
  · exact .inl h'
  · exact .inr ⟨g, c, cur, h1, Nat.le_trans hb h2, h3⟩
set_option maxRecDepth 20000 in
set_option maxHeartbeats 4000000 in
theorem implForgetRule (a : Option Addr) (c : Nat) (l : List Ob) (p : ByteArray) (w : World) (h : OB w.heap.size w a l) (hs : SmallO l) (hn : l.length ≤ 1048576) :
    Calls Try.prog 9 #[.slice a l.length c, .string p] w fun e w' => RQ (fgC l p) (fgL l p) w e w' := by
  obtain ⟨b, hb⟩ : ∃ b, w.heap.size = b := ⟨_, rfl⟩
  obtain ⟨W1, hW1⟩ : ∃ W, (w.alloc (.cells #[.string p] 9)).alloc (.cells #[.int .i64 0, .slice none 0 0] 28) = W := ⟨_, rfl⟩
  have za : (w.alloc (.cells #[.string p] 9)).heap.size = b + 1 := by rw [← hb]; simp
  have b1 : Below b w W1 := by rw [← hW1, ← hb]; exact ((Below.refl _ _).alloc (Nat.le_refl _) _).alloc (by simp) _
  have r1 : Rf W1 (b + 1) [.int .i64 0, .slice none 0 0] := by rw [← hW1, ← za]; exact Rf.new _ #[.int .i64 0, .slice none 0 0] _
  have p1 : Rf W1 b [.string p] := by rw [← hW1, ← hb]; exact (Rf.new w #[.string p] _).below (by simp) (allocBelow _ _)
  have z1 : W1.heap.size = b + 2 := by rw [← hW1, ← hb]; simp
  have h1 := (h.below (by rw [hb]; exact b1)).mono (B' := W1.heap.size) (by omega)
  have hR := implRulesFault a c l W1 h1 hs hn
  by_cases h0 : rf l = 0
  · rw [h0] at hR
    have hl40 := (rf_zero h0).1
    go_enter Try.func9, Try.ntmps9
    go_wp2_with fail
    refine hR.mono ?_
    clear hR hW1
    rintro e w2 ⟨rfl, b2⟩
    have B2 : Below b w w2 := b1.trans (b2.mono (by omega))
    have z2 := b2.size
    have r2 := r1.below (by omega) b2
    have p2 := p1.below (by omega) b2
    have h2 := (h1.below b2).mono (B' := w2.heap.size) (by omega)
    have hF := ruleAt a c l p w2 h2 hn
    have k0 := p2.at_ 0 _ rfl
    clear h1 b2 b1 r1 p1
    rcases fd_bd l p with hf | ⟨j, hf, hj⟩
    · have HR : Hid (fgC l p = 4 ∧ fgL l p = []) := ⟨by unfold fgC; rw [if_pos h0, if_pos hf], by unfold fgL; rw [if_neg (fun c => c.2 hf)]⟩
      rw [hf] at hF
      have d0 := r2.at_ 0 _ rfl
      have d1 := r2.at_ 1 _ rfl
      have f0 := r2.fz 0
      have f1 := r2.fz 1
      clear r2 h2 hf p2
      go_wp2_with fail
      refine hF.mono ?_
      rintro e w3 ⟨rfl, rfl⟩
      go_wp2
      refine bodyPost_ret (v := .agg #[.int .i64 4, .slice none 0 0]) (by simp [results, Try.results9, go_sem, d0, d1]) rfl ?_
      rw [HR.out.1, HR.out.2]
      exact rq0 (by rw [hb]; exact below_sets B2 (by omega) _ _)
    · have HR : Hid (fgC l p = 0 ∧ fgL l p = l.eraseIdx j) := ⟨by unfold fgC; rw [if_pos h0, if_neg (by rw [hf]; omega)], by unfold fgL; rw [if_pos ⟨h0, by rw [hf]; omega⟩, hf]; rfl⟩
      have hD := fun W B v (x : SL W B l v) (y : W.cell? ⟨b, 0, none⟩ = some (.string p)) (z : b < B) => dropC B b l v p j W x hn y z hj hf (fd_only h0 hf)
      have hO := rulesOfC a c l w2 h2 hs (by omega) h0
      rw [hf] at hF
      have qe : ((j : Int) == -1) = false := beq_eq_false_iff_ne.2 (by omega)
      clear h2 hf
      go_wp2_with fail
      refine hF.mono ?_
      rintro e w3 ⟨rfl, rfl⟩
      clear hF
      go_wp2_with fail
      refine hO.mono ?_
      clear hO
      rintro e w4 ⟨rfl, ⟨v4, S4⟩, b4⟩
      obtain ⟨q, hq⟩ : ∃ q, w3.heap.size = q := ⟨_, rfl⟩
      have r4 := r2.below (by omega) b4
      have p4 := (p2.below (by omega) b4).at_ 0 _ rfl
      have B4 : Below b w w4 := B2.trans (b4.mono (by omega))
      rw [hq] at S4
      have hD4 := hD w4 q v4 S4 p4 (by omega)
      have z4 := S4.lt
      clear hD p2 r2 B2 b4 S4 k0
      go_wp2_with fail
      refine hD4.mono ?_
      clear hD4
      rintro e w5 ⟨rfl, ⟨v5, S5⟩, b5⟩
      obtain ⟨ua, uc, rfl⟩ := shapeK3 S5.own
      have B5 : Below b w w5 := B4.trans (b5.mono (by omega))
      have r5 : Rf w5 (b + 1) [.int .i64 0, .slice none 0 0] := ⟨fun k v hk => (b5.cell (p := ⟨b + 1, k, none⟩) (show b + 1 < q by omega)).trans (r4.at_ k v hk), fun k => (b5.frozen (p := ⟨b + 1, k, none⟩) (show b + 1 < q by omega)).trans (r4.fz k)⟩
      have c5 := S5.rf.at_ 1 _ rfl
      have d0 := r5.at_ 0 _ rfl
      have d1 := r5.at_ 1 _ rfl
      have f0 := r5.fz 0
      have f1 := r5.fz 1
      have HQ : Hid (RQ 0 (l.eraseIdx j) w (.returned (.agg #[.int .i64 0, .slice ua (l.eraseIdx j).length uc])) ((w5.setCell ⟨b + 1, 0, none⟩ (.int .i64 0)).setCell ⟨b + 1, 1, none⟩ (.slice ua (l.eraseIdx j).length uc))) := by
        have o1 := S5.own.kept (grownSet w5 (b + 1) 0 (.int .i64 0)) (blockCases _ _ fun i c1 c2 => by cases c2; have := (S5.own.lt _ c1).1; omega)
        have o2 := o1.kept (grownSet _ (b + 1) 1 (.slice ua (l.eraseIdx j).length uc)) (blockCases _ _ fun i c1 c2 => by cases c2; have := (S5.own.lt _ c1).1; omega)
        exact ⟨_, rfl, ownMonoR o2 (by omega), by rw [hb]; exact below_sets B5 (by omega) _ _⟩
      generalize (l.eraseIdx j).length = M at *
      clear S5 r5 r4 B4 B5 b5 hq
      go_wp2
      refine bodyPost_ret (v := .agg #[.int .i64 0, .slice ua M uc]) (by simp [results, Try.results9, go_sem, d0, d1]) rfl ?_
      rw [HR.out.1, HR.out.2]
      exact HQ.out
  · have HR : Hid (fgC l p = rf l ∧ fgL l p = []) := ⟨by unfold fgC; rw [if_neg h0], by unfold fgL; rw [if_neg (fun c => h0 c.1)]⟩
    have q : (rf l != 0) = true := by simpa using h0
    obtain ⟨R, hRe⟩ : ∃ R, rf l = R := ⟨_, rfl⟩
    rw [hRe] at hR q HR
    clear h0 hRe
    go_enter Try.func9, Try.ntmps9
    go_wp2_with fail
    refine hR.mono ?_
    clear hR hW1
    rintro e w2 ⟨rfl, b2⟩
    have B2 : Below b w w2 := b1.trans (b2.mono (by omega))
    have r2 := r1.below (by omega) b2
    have d0 := r2.at_ 0 _ rfl
    have d1 := r2.at_ 1 _ rfl
    have f0 := r2.fz 0
    have f1 := r2.fz 1
    clear r2 r1 p1 b2 b1 h1
    go_wp2
    refine bodyPost_ret (v := .agg #[.int .i64 R, .slice none 0 0]) (by simp [results, Try.results9, go_sem, d0, d1]) rfl ?_
    rw [HR.out.1, HR.out.2]
    exact rq0 (by rw [hb]; exact below_sets B2 (by omega) _ _)
end Go.Proofs.Ytkeinpobngfioaa.Ru
