/- A rule is taken out of the program's sorted list. No statement is proved here. -/
import Derived.Test.YtibdlfojoafloaaRows
import Derived.Test.YtibdlfojoafloaaLem
import Derived.Test.YtibdlfojoafloaaStrs
import Derived.Test.YtibdlfojoafloaaLFLem
import Derived.Test.YtibdlfojoafloaaDTab
import Derived.Test.YtibdlfojoafloaaOwn
import Derived.Test.YtibdlfojoafloaaFr
import Derived.Test.YtibdlfojoafloaaHkT
import Derived.Test.YtibdlfojoafloaaRuL
import Derived.Test.YtibdlfojoafloaaRuF
import Derived.Test.YtibdlfojoafloaaFrC
import Derived.Test.YtibdlfojoafloaaRlB
import Derived.Test.YtibdlfojoafloaaRlC
import Derived.WalkKit
import Derived.ProofKit
import Derived.Below
import Derived.WalkSpells
import Derived.Deep.RegionWith
import Derived.Deep.RegionHeld
import Derived.Lib.SliceRun
set_option linter.unusedVariables false
namespace Go.Proofs.Ytibdlfojoafloaa.Ru
open Go.ChangeShapes Go.WideShapes Go.ChangeAt Go.RowKit
theorem zcE {w w' : World} {g o : Nat} {v : Value} (b : Below w.heap.size w w') (h : w.cell? ⟨g, o, none⟩ = some v) : w'.cell? ⟨g, o, none⟩ = some v := (Fr.ofBelow (lo := 0) (hi := 0) b).cell h (.inr (Nat.zero_le _))
/-- The function value that is handed to drop: is it this text? -/
theorem isOutC (P : Nat) (x : Ob) (p : ByteArray) (w : World) (h : w.cell? ⟨P, 0, none⟩ = some (.string p)) :
    Calls Try.prog 43 #[.agg #[.string x.1, .string x.2], .pointer (some ⟨P, 0, none⟩)] w fun e w' => e = .returned (.bool (x.1.toList == p.toList)) ∧ Below w.heap.size w w' := by
  obtain ⟨x0, x1⟩ := x
  simp only []
  obtain ⟨W1, hW1⟩ : ∃ W, w.alloc (.cells #[.string x0, .string x1] 36) = W := ⟨_, rfl⟩
  have b1 : Below w.heap.size w W1 := by rw [← hW1]; exact allocBelow _ _
  have c0 : W1.cell? ⟨w.heap.size, 0, none⟩ = some (.string x0) := by rw [← hW1]; exact Rs.new w #[.string x0, .string x1] 36 0 _ rfl
  have h1 := zcE b1 h
  go_enter Try.func43, Try.ntmps43
  go_wp2_with fail
  clear hW1
  go_wp2
  go_ret
  exact ⟨rfl, b1⟩
set_option maxRecDepth 20000 in
set_option maxHeartbeats 2000000 in
theorem indexFuncC (a : Option Addr) (c P : Nat) (l : List Ob) (p : ByteArray) (w : World) (h : OB w.heap.size w a l) (hn : l.length ≤ 1048576) (hP : w.cell? ⟨P, 0, none⟩ = some (.string p)) :
    Calls Try.prog 92 #[.slice a l.length c, .func (.func 43) #[] #[.pointer (some ⟨P, 0, none⟩)]] w fun e w' => e = .returned (.int .i64 (fd l p)) ∧ Below w.heap.size w w' := by
  go_enter Try.func92, Try.ntmps92
  go_wp2
  go_loopw [5, 8] (fun _m i wr => ∃ k : Nat, k ≤ l.length ∧ i = .int .i64 k ∧ Below w.heap.size w wr ∧ Hid (fd l p = fdF l p (l.length - k) k)) (fun _ i _ => l.length - (intOf i).toNat)
  case atStart => exact ⟨0, Nat.zero_le _, rfl, Below.refl _ _, rfl⟩
  case round =>
    obtain ⟨k, hk, rfl, hbel, hA⟩ := hrel
    have hsz := hbel.size
    by_cases hlt : k < l.length
    · have q : (k : Int) < (l.length : Int) := by omega
      obtain ⟨g, off, e, hg, c0, c1⟩ := h.below hbel k hlt
      subst e
      have hp := zcE hbel hP
      obtain ⟨m, hm⟩ : ∃ m, l.length - k = m + 1 := ⟨l.length - k - 1, by omega⟩
      have hm2 : l.length - (k + 1) = m := by omega
      rw [hm] at hA
      have hI := fun W => isOutC P (l.getD k onil) p W
      by_cases he : (l.getD k onil).1 = p
      · have HR : Hid (fd l p = (k : Int)) := by show _ = _; rw [hA.out, fdF_hit he]
        have hb : ((l.getD k onil).1.toList == p.toList) = true := beq_bytes_true he
        rw [hb] at hI
        obtain ⟨C, hC⟩ : ∃ C, l.getD k onil = C := ⟨_, rfl⟩
        obtain ⟨x0, x1⟩ := C
        rw [hC] at c0 c1 hI
        simp only [] at c0 c1 hI
        clear hA he hC hb
        go_wp2_with fail
        refine (hI _ hp).mono ?_; rintro e w2 ⟨rfl, b2⟩
        have HB : Hid (Below w.heap.size w w2) := below_step hbel hsz b2
        clear b2 hI c0 c1
        go_wp2
        go_ret
        exact ⟨ret_int HR.out.symm, HB.out⟩
      · have HG : Hid (fd l p = fdF l p (l.length - (k + 1)) (k + 1)) := by show _ = _; rw [hA.out, fdF_miss he, hm2]
        have hb : ((l.getD k onil).1.toList == p.toList) = false := beq_bytes_false he
        rw [hb] at hI
        obtain ⟨C, hC⟩ : ∃ C, l.getD k onil = C := ⟨_, rfl⟩
        obtain ⟨x0, x1⟩ := C
        rw [hC] at c0 c1 hI
        simp only [] at c0 c1 hI
        clear hA he hC hb hm hm2
        go_wp2_with fail
        refine (hI _ hp).mono ?_; rintro e w2 ⟨rfl, b2⟩
        have HB : Hid (Below w.heap.size w w2) := below_step hbel hsz b2
        clear b2 hI c0 c1
        go_wp2
        go_roundw
        case rel => exact ⟨k + 1, by omega, by go_num, HB.out, HG⟩
        case measure => first | (simp [intOf]; omega) | simp [intOf]
    · have HR : Hid (fd l p = -1) := by
        show _ = _
        rw [hA.out, show l.length - k = 0 by omega]
        rfl
      have q : ¬ (k : Int) < (l.length : Int) := by omega
      clear hA
      go_wp2
      go_ret
      exact ⟨ret_int HR.out.symm, hbel⟩
/-- A list from which a place goes, while those behind it come down. -/
def sh (l : List Ob) (at_ i : Nat) : List Ob := (List.range l.length).map fun m => if m < at_ then l.getD m onil else if m < i then l.getD (m + 1) onil else l.getD m onil
theorem sh_length (l : List Ob) (at_ i : Nat) : (sh l at_ i).length = l.length := by simp [sh]
theorem sh_at (l : List Ob) (at_ i m : Nat) (h : m < l.length) : (sh l at_ i).getD m onil = if m < at_ then l.getD m onil else if m < i then l.getD (m + 1) onil else l.getD m onil := by
  unfold sh
  rw [List.getD, List.getElem?_map, List.getElem?_range h]
  rfl
theorem ext_ob {l m : List Ob} (h1 : l.length = m.length) (h2 : ∀ k, k < l.length → l.getD k onil = m.getD k onil) : l = m := by
  apply List.ext_getElem h1
  intro k a b
  have := h2 k a
  simpa [List.getD, a, b] using this
theorem sh_start (l : List Ob) (at_ : Nat) : sh l at_ at_ = l := by
  refine ext_ob (sh_length _ _ _) fun k hk => ?_
  rw [sh_length] at hk
  rw [sh_at _ _ _ _ hk]
  by_cases h : k < at_
  · rw [if_pos h]
  · rw [if_neg h, if_neg h]
theorem sh_set (l : List Ob) (at_ i : Nat) (h : at_ ≤ i) (hi : i + 1 < l.length) : (sh l at_ i).set i (l.getD (i + 1) onil) = sh l at_ (i + 1) := by
  refine ext_ob (by rw [List.length_set, sh_length, sh_length]) fun k hk => ?_
  rw [List.length_set, sh_length] at hk
  rw [sh_at _ _ _ _ hk]
  by_cases e : k = i
  · subst e
    rw [List.getD, List.getElem?_set_self (by rw [sh_length]; omega), if_neg (by omega), if_pos (by omega)]
    rfl
  · rw [List.getD, List.getElem?_set_ne (by omega)]
    have := sh_at l at_ i k hk
    rw [List.getD] at this
    rw [this]
    by_cases h1 : k < at_
    · rw [if_pos h1, if_pos h1]
    · rw [if_neg h1, if_neg h1]
      by_cases h2 : k < i
      · rw [if_pos h2, if_pos (by omega)]
      · rw [if_neg h2, if_neg (by omega)]
theorem sh_end (l : List Ob) (at_ : Nat) (h : at_ < l.length) : (sh l at_ (l.length - 1)).take (l.length - 1) = l.eraseIdx at_ := by
  have hl : (l.eraseIdx at_).length = l.length - 1 := by rw [List.length_eraseIdx_of_lt h]
  refine ext_ob (by rw [List.length_take, sh_length, hl]; omega) fun k hk => ?_
  rw [List.length_take, sh_length] at hk
  have hk1 : k < l.length - 1 := by omega
  have e1 : ((sh l at_ (l.length - 1)).take (l.length - 1)).getD k onil = (sh l at_ (l.length - 1)).getD k onil := by
    simp only [List.getD, List.getElem?_take]
    rw [if_pos hk1]
  rw [e1, sh_at _ _ _ _ (by omega), if_pos hk1]
  simp only [List.getD, List.getElem?_eraseIdx]
  by_cases h1 : k < at_
  · rw [if_pos h1, if_pos h1]
  · rw [if_neg h1, if_neg h1]
theorem ocells_set (l : List Ob) (k : Nat) (o : Ob) (h : k < l.length) : ((ocells l).set (k * 2) (.string o.1)).set (k * 2 + 1) (.string o.2) = ocells (l.set k o) := by
  unfold ocells
  rw [rowG_set, rowG_set, List.length_set]
  apply rowG_congr
  intro j hj
  by_cases e1 : j = k * 2 + 1
  · rw [if_pos e1, e1, ocell1]
    rw [List.getD, List.getElem?_set_self h]; rfl
  · rw [if_neg e1]
    by_cases e0 : j = k * 2
    · rw [if_pos e0, e0, ocell0]
      rw [List.getD, List.getElem?_set_self h]; rfl
    · rw [if_neg e0]
      unfold ocell
      have hne : k ≠ j / 2 := by omega
      have e3 : (l.set k o).getD (j / 2) onil = l.getD (j / 2) onil := by rw [List.getD, List.getD, List.getElem?_set_ne hne]
      rw [e3]
/-- A row of which the last place is given up. -/
theorem ownShort {w : World} {base g c n : Nat} {l m : List Ob} (h : w.ownsRow base 36 2 (.slice (some ⟨g, 0, none⟩) n c) n (ocells l)) (hn : n = l.length) (hm : m = l.take (n - 1)) : w.ownsRow base 36 2 (.slice (some ⟨g, 0, none⟩) (n - 1) c) (n - 1) (ocells m) := by
  subst hm
  rcases h.2 with ⟨h', _⟩ | ⟨g', c', cur, h', hb, hh, h1, h2, h3, h4⟩
  · cases h'
  · simp only [Value.slice.injEq, Option.some.injEq, Addr.mk.injEq, and_true, true_and] at h'
    obtain ⟨rfl, rfl⟩ := h'
    have hl : (l.take (n - 1)).length = n - 1 := by rw [List.length_take]; omega
    refine ⟨by rw [ocells_length, hl], .inr ⟨g, c, cur, rfl, hb, hh, by omega, h2, h3, ?_⟩⟩
    have e : ocells l = ocells (l.take (n - 1)) ++ ocells (l.drop (n - 1)) := by rw [← ocells_app, List.take_append_drop]
    have e2 : cur.toList.take ((n - 1) * 2) = (cur.toList.take (n * 2)).take ((n - 1) * 2) := by rw [List.take_take]; congr 1; omega
    rw [e2, h4, e, List.take_append_of_le_length (by rw [ocells_length, hl]; omega), List.take_of_length_le (by rw [ocells_length, hl]; omega)]
theorem run_clear_rule (w : World) (ty : TypeId) (b o c : Nat) (h0 : (w.cell? ⟨b, o, none⟩).isSome = true) (h1 : (w.cell? ⟨b, o + 1, none⟩).isSome = true) (f0 : w.frozen? ⟨b, o, none⟩ = false) (f1 : w.frozen? ⟨b, o + 1, none⟩ = false) :
    (Builtin.clear_ #[24] ty #[.slice (some ⟨b, o, none⟩) 1 c]).run Try.prog w = .ok (.tuple #[]) (w.setCells b o [.string ⟨#[]⟩, .string ⟨#[]⟩]) := by
  have two : ∀ j, j < [Value.string ⟨#[]⟩, Value.string ⟨#[]⟩].length → j = 0 ∨ j = 1 := fun j hj => by have hj2 : j < 2 := hj; omega
  have hst := run_storeCells_cells (P := Try.prog) b o [.string ⟨#[]⟩, .string ⟨#[]⟩] 0 w
    (fun j hj => by
      rcases two j hj with rfl | rfl
      · exact h0
      · exact h1)
    (fun j hj => by
      rcases two j hj with rfl | rfl
      · exact f0
      · exact f1)
    (fun v hv => by simp at hv; subst hv; rfl)
  simp only [Nat.add_zero] at hst
  have hz : ∀ w, (zeroValue 36).run Try.prog w = .ok (.agg #[.string ⟨#[]⟩, .string ⟨#[]⟩]) w := fun w => by kernel_rfl
  have hzc : (Builtin.zeroCells (Value.agg #[.string ⟨#[]⟩, .string ⟨#[]⟩]).cells 1).toList = [.string ⟨#[]⟩, .string ⟨#[]⟩] := by kernel_rfl
  simp [Builtin.clear_, run_underlying Try.underlying24, hz, hzc, hst]

/-- What DeleteFunc leaves. -/
def DQ (base : Nat) (v : Value) (L : List Ob) (w : World) (e : Ending) (w' : World) : Prop := ∃ v', e = .returned v' ∧ w'.ownsRow base 36 2 v' L.length (ocells L) ∧ w.grownBy w' v.ownBlock
theorem grT {w w1 w2 : World} {r : Option Nat} (h : w.grownBy w1 r) (h2 : Below w1.heap.size w1 w2) : w.grownBy w2 r :=
  ⟨(grownOfBelow h2 none).os.trans h.os, (grownOfBelow h2 none).tape.trans h.tape, (grownOfBelow h2 none).output.trans h.output, Nat.le_trans h.size h2.size, fun k hk hne => ((grownOfBelow h2 none).block k (Nat.lt_of_lt_of_le hk h.size) (by simp)).trans (h.block k hk hne)⟩
theorem grS {w w1 w2 : World} {r : Option Nat} (h : w.grownBy w1 r) (h2 : w1.grownBy w2 r) : w.grownBy w2 r :=
  ⟨h2.os.trans h.os, h2.tape.trans h.tape, h2.output.trans h.output, Nat.le_trans h.size h2.size, fun k hk hne => (h2.block k (Nat.lt_of_lt_of_le hk h.size) hne).trans (h.block k hk hne)⟩
set_option maxRecDepth 20000 in
set_option maxHeartbeats 4000000 in
theorem deleteFuncC (base b c P : Nat) (l : List Ob) (p : ByteArray) (at_ : Nat) (w : World) (h : w.ownsRow base 36 2 (.slice (some ⟨b, 0, none⟩) l.length c) l.length (ocells l)) (hn : l.length ≤ 1048576) (hP : w.cell? ⟨P, 0, none⟩ = some (.string p)) (hPb : P ≠ b)
    (ha : at_ < l.length) (hf : fd l p = (at_ : Int)) (hne : ∀ k, at_ < k → k < l.length → ¬ (l.getD k onil).1 = p) :
    Calls Try.prog 67 #[.slice (some ⟨b, 0, none⟩) l.length c, .func (.func 43) #[] #[.pointer (some ⟨P, 0, none⟩)]] w fun e w' => DQ base (.slice (some ⟨b, 0, none⟩) l.length c) (l.eraseIdx at_) w e w' := by
  have hI := indexFuncC (some ⟨b, 0, none⟩) c P l p w (OB.of h) hn hP
  rw [hf] at hI
  have hcap : l.length ≤ c := by
    rcases h.2 with ⟨h', _⟩ | ⟨g', c', cur, h', hb, hh, h1, h2, h3, h4⟩
    · cases h'
    · simp only [Value.slice.injEq] at h'; omega
  have qa : ((at_ : Int) == -1) = false := beq_eq_false_iff_ne.2 (by omega)
  have hNe : Hid (∀ k, at_ < k → k < l.length → ¬ (l.getD k onil).1 = p) := hne
  clear hf hne
  go_enter Try.func67, Try.ntmps67
  go_wp2_with fail
  refine hI.mono ?_; rintro e w1 ⟨rfl, b1⟩
  have o1 : w1.ownsRow base 36 2 (.slice (some ⟨b, 0, none⟩) l.length c) l.length (ocells (sh l at_ at_)) := by rw [sh_start]; exact h.kept (grownOfBelow b1 none) (blockCases _ _ fun b c1 c2 => by cases c2)
  have g1 : w.grownBy w1 (some b) := ⟨(grownOfBelow b1 none).os, (grownOfBelow b1 none).tape, (grownOfBelow b1 none).output, b1.size, fun k hk _ => (grownOfBelow b1 none).block k hk (by simp)⟩
  have p1 := zcE b1 hP
  clear hI b1 h hP
  go_wp2
  go_loopw [5, 6, 7] (fun vi vj _v wr => ∃ i j : Nat, j = i + 1 ∧ at_ ≤ i ∧ j ≤ l.length ∧ vi = .int .i64 i ∧ vj = .int .i64 j ∧ wr.ownsRow base 36 2 (.slice (some ⟨b, 0, none⟩) l.length c) l.length (ocells (sh l at_ i)) ∧ w.grownBy wr (some b) ∧ wr.cell? ⟨P, 0, none⟩ = some (.string p)) (fun vi _ _ _ => l.length - (intOf vi).toNat)
  case atStart => exact ⟨at_, at_ + 1, rfl, Nat.le_refl _, ha, rfl, by go_num, o1, g1, p1⟩
  case round =>
    obtain ⟨i, j, hj, hi, hil, rfl, rfl, ho, hg, hp⟩ := hrel
    clear o1 g1 p1
    have hbl := ho.lt b rfl
    have HJ : Hid (j = i + 1) := hj
    by_cases hlt : j < l.length
    · have q : (j : Int) < (l.length : Int) := by omega
      have qi : (i : Int) < (l.length : Int) := by omega
      have hO := OB.of (l := sh l at_ i) (by rw [sh_length]; exact ho)
      obtain ⟨g, off, e, hgl, c0, c1⟩ := hO j (by rw [sh_length]; exact hlt)
      simp only [Option.some.injEq, Addr.mk.injEq, and_true] at e
      obtain ⟨rfl, rfl⟩ := e
      have hsj : (sh l at_ i).getD j onil = l.getD j onil := by rw [sh_at _ _ _ _ hlt, if_neg (by omega), if_neg (by omega)]
      rw [hsj] at c0 c1
      have HS : Hid ((sh l at_ i).set i (l.getD j onil) = sh l at_ j) := by rw [hj]; exact sh_set l at_ i hi (by omega)
      have hb : ((l.getD j onil).1.toList == p.toList) = false := beq_bytes_false (hNe.out j (by omega) hlt)
      have hI := fun W => isOutC P (l.getD j onil) p W
      rw [hb] at hI
      obtain ⟨C, hC⟩ : ∃ C, l.getD j onil = C := ⟨_, rfl⟩
      obtain ⟨x0, x1⟩ := C
      rw [hC] at c0 c1 hI HS
      simp only [Nat.zero_add] at c0 c1 hI
      have hi2 : i * 2 < l.length * 2 := by omega
      have hi3 : i * 2 + 1 < l.length * 2 := by omega
      have hil2 : i < l.length := by omega
      clear hO hb hC hsj hj
      obtain ⟨V, hV⟩ : ∃ V, wr.alloc (.cells #[.string x0, .string x1] 36) = V := ⟨_, rfl⟩
      have bV : Below wr.heap.size wr V := by rw [← hV]; exact allocBelow _ _
      have rV : Rs V wr.heap.size [.string x0, .string x1] := by rw [← hV]; exact Rs.new wr #[.string x0, .string x1] _
      have hpV := zcE bV hp
      have n0 := rV 0 _ rfl
      have n1 := rV 1 _ rfl
      go_wp2_with fail
      refine (hI _ hpV).mono ?_; rintro e w2 ⟨rfl, b2⟩
      have B2 : Below wr.heap.size wr w2 := bV.trans (b2.mono bV.size)
      have g2 : w.grownBy w2 (some b) := grT hg B2
      have o2 := ho.kept (grownOfBelow B2 none) (blockCases _ _ fun b c1 c2 => by cases c2)
      have p2 := zcE B2 hp
      have m0 := zcE b2 n0
      have m1 := zcE b2 n1
      have k0 := o2.cellAt (i * 2) hi2
      have k1 := o2.cellAt (i * 2 + 1) hi3
      rw [ocells, rowG_at _ _ _ (by rw [sh_length]; omega)] at k0 k1
      have f0 := o2.frozenAt (i * 2)
      have f1 := o2.frozenAt (i * 2 + 1)
      have s1 := o2.stored (i * 2) (.string x0)
      have s2 := s1.1.stored (i * 2 + 1) (.string x1)
      have HO : Hid (((w2.setCell ⟨b, i * 2, none⟩ (.string x0)).setCell ⟨b, i * 2 + 1, none⟩ (.string x1)).ownsRow base 36 2 (.slice (some ⟨b, 0, none⟩) l.length c) l.length (ocells (sh l at_ j))) := by
        have h2 := s2.1
        have e := ocells_set (sh l at_ i) i (x0, x1) (by rw [sh_length]; exact hil2)
        simp only [] at e
        rw [e, HS.out] at h2
        exact h2
      have HG : Hid (w.grownBy ((w2.setCell ⟨b, i * 2, none⟩ (.string x0)).setCell ⟨b, i * 2 + 1, none⟩ (.string x1)) (some b)) := grS (grS g2 s1.2) s2.2
      have HP : Hid (((w2.setCell ⟨b, i * 2, none⟩ (.string x0)).setCell ⟨b, i * 2 + 1, none⟩ (.string x1)).cell? ⟨P, 0, none⟩ = some (.string p)) := s2.2.cell (s1.2.cell p2 (by simpa using hPb)) (by simpa using hPb)
      clear hV bV rV hpV n0 n1 b2 B2 g2 o2 p2 s1 s2 c0 c1 hI ho hg hp HS
      go_wp2
      go_roundw
      case rel => exact ⟨j, j + 1, rfl, by have := HJ.out; omega, by omega, by rw [HJ.out]; go_num, by go_num, HO.out, HG.out, HP.out⟩
      case measure => have := HJ.out; first | (simp [intOf]; omega) | simp [intOf]
    · have q : ¬ (j : Int) < (l.length : Int) := by omega
      have ei : i = l.length - 1 := by omega
      have hS := sh_end l at_ ha
      rw [← ei] at hS
      have k0 := ho.cellAt (i * 2) (by omega)
      have k1 := ho.cellAt (i * 2 + 1) (by omega)
      rw [ocells, rowG_at _ _ _ (by rw [sh_length]; omega)] at k0 k1
      have f0 := ho.frozenAt (i * 2)
      have f1 := ho.frozenAt (i * 2 + 1)
      have hcl := fun ty cc => run_clear_rule wr ty b (i * 2) cc (by rw [k0]; rfl) (by rw [k1]; rfl) f0 f1
      have eL : l.length = i + 1 := by omega
      have qc : (i : Int) ≤ (c : Int) := by omega
      have qi : (i : Int) ≤ (l.length : Int) := by omega
      have qn : ¬ i = c := by omega
      have s1 := ho.stored (i * 2) (.string ⟨#[]⟩)
      have s2 := s1.1.stored (i * 2 + 1) (.string ⟨#[]⟩)
      have e2 := ocells_set (sh l at_ i) i onil (by rw [sh_length]; omega)
      have hset : wr.setCells b (i * 2) [.string ⟨#[]⟩, .string ⟨#[]⟩] = (wr.setCell ⟨b, i * 2, none⟩ (.string ⟨#[]⟩)).setCell ⟨b, i * 2 + 1, none⟩ (.string ⟨#[]⟩) := rfl
      have hlen : (l.eraseIdx at_).length = i := by rw [List.length_eraseIdx_of_lt ha]; omega
      have HQ : Hid (DQ base (.slice (some ⟨b, 0, none⟩) l.length c) (l.eraseIdx at_) w (.returned (.slice (some ⟨b, 0, none⟩) i c)) (wr.setCells b (i * 2) [.string ⟨#[]⟩, .string ⟨#[]⟩])) := by
        rw [hset]
        have o3 := s2.1
        rw [show (Value.string ⟨#[]⟩) = .string onil.1 from rfl] at o3
        rw [show (Value.string onil.1) = .string onil.2 from rfl] at o3
        refine ⟨_, rfl, ?_, grS (grS hg s1.2) s2.2⟩
        rw [hlen]
        have hE : (sh l at_ i).set i onil = (sh l at_ i).set i onil := rfl
        have o4 : ((wr.setCell ⟨b, i * 2, none⟩ (.string ⟨#[]⟩)).setCell ⟨b, i * 2 + 1, none⟩ (.string ⟨#[]⟩)).ownsRow base 36 2 (.slice (some ⟨b, 0, none⟩) l.length c) l.length (ocells ((sh l at_ i).set i onil)) := by
          rw [← e2]; exact s2.1
        have o5 := ownShort (m := l.eraseIdx at_) o4 (by rw [List.length_set, sh_length]) (by rw [← hS, ei]; apply ext_ob (by rw [List.length_take, List.length_take, List.length_set]) ; intro k hk; rw [List.length_take, sh_length] at hk; simp only [List.getD, List.getElem?_take]; rw [if_pos (by omega), if_pos (by omega), List.getElem?_set_ne (by omega)])
        rw [← ei] at o5
        exact o5
      clear k0 k1 f0 f1 s1 s2 e2 hset hlen ho hg hp hS HJ hj hNe ei
      go_wp2
      go_ret
      exact HQ.out
end Go.Proofs.Ytibdlfojoafloaa.Ru
