/- Entries of a path are taken out of the program's sorted list. No statement is proved here. -/
import Derived.Test.YtipdebodanhooaaDoorRows
import Derived.Test.YtipdebodanhooaaDoorLemQ
import Derived.Test.YtipdebodanhooaaDoorLFLemQ
import Derived.Test.YtipdebodanhooaaDoorDTabQ
import Derived.Test.YtipdebodanhooaaDoorHkTQ
import Derived.Test.YtipdebodanhooaaDoorEnLQ
import Derived.Test.YtipdebodanhooaaDoorIxMQ
import Derived.Test.YtipdebodanhooaaDoorSgCQ
import Derived.Test.YtipdebodanhooaaDoorSlBQ
import Derived.Test.YtipdebodanhooaaDoorCpKQ
import Derived.Test.YtipdebodanhooaaDoorInEQ
import Derived.Test.YtipdebodanhooaaDoorSwMQ
import Derived.WalkKit
import Derived.ProofKit
import Derived.Below
import Derived.WalkSpells
import Derived.Deep.RegionWith
import Derived.Deep.RegionHeld
import Derived.Lib.SliceRun
import Derived.Test.YtipdebodanhooaaDoorFmCQ
import Derived.Test.YtipdebodanhooaaDoorIdLQ
import Derived.Test.YtipdebodanhooaaDoorIxNQ
import Derived.Test.YtipdebodanhooaaDoorIxIQ
import Derived.Test.YtipdebodanhooaaDoorSlDQ
import Derived.Test.YtipdebodanhooaaDoorSsBQ
import Derived.Test.YtipdebodanhooaaDoorClIQ
import Derived.Test.YtipdebodanhooaaDoorSlEQ
import Derived.Test.YtipdebodanhooaaDoorSwCQ
import Derived.Deep.QuietTactic
import Derived.BigQuiet
import Derived.Deep.CutRange
import Derived.Maps.AppendAt
import Derived.Laws.Cover1
set_option linter.unusedVariables false
namespace Go.Proofs.YtipdebodanhooaaDoor.En
open Go.ChangeShapes Go.WideShapes Go.ChangeAt Go.RowKit
theorem zcE {w w' : World} {g o : Nat} {v : Value} (b : Below w.heap.size w w') (h : w.cell? ⟨g, o, none⟩ = some v) : w'.cell? ⟨g, o, none⟩ = some v := (Fr.ofBelow (lo := 0) (hi := 0) b).cell h (.inr (Nat.zero_le _))
/-- The function value that is handed to drop: is it of this path? -/
theorem isOutC (P : Nat) (x : Ob) (p : ByteArray) (w : World) (h : w.cell? ⟨P, 0, none⟩ = some (.string p)) :
    Calls Tryd.prog 29 #[.agg #[.string x.1, .int .i64 x.2.1, .int .i64 x.2.2.1, .string x.2.2.2], .pointer (some ⟨P, 0, none⟩)] w fun e w' => e = .returned (.bool (x.1.toList == p.toList)) ∧ Below w.heap.size w w' := by
  obtain ⟨x0, x1, x2, x3⟩ := x
  simp only []
  obtain ⟨W1, hW1⟩ : ∃ W, w.alloc (.cells #[.string x0, .int .i64 x1, .int .i64 x2, .string x3] 62) = W := ⟨_, rfl⟩
  have b1 : Below w.heap.size w W1 := by rw [← hW1]; exact allocBelow _ _
  have c0 : W1.cell? ⟨w.heap.size, 0, none⟩ = some (.string x0) := by rw [← hW1]; exact Rs.new w #[.string x0, .int .i64 x1, .int .i64 x2, .string x3] 62 0 _ rfl
  have h1 := zcE b1 h
  go_enter Tryd.func29, Tryd.ntmps29
  go_wp2_with fail
  clear hW1
  go_wp2
  go_ret
  exact ⟨rfl, b1⟩
set_option maxRecDepth 20000 in
set_option maxHeartbeats 2000000 in
theorem indexOutC (a : Option Addr) (c P : Nat) (l : List Ob) (p : ByteArray) (w : World) (h : OB w.heap.size w a l) (hn : l.length ≤ 1048576) (hP : w.cell? ⟨P, 0, none⟩ = some (.string p)) :
    Calls Tryd.prog 72 #[.slice a l.length c, .func (.func 29) #[] #[.pointer (some ⟨P, 0, none⟩)]] w fun e w' => e = .returned (.int .i64 (fp l p)) ∧ Below w.heap.size w w' := by
  go_enter Tryd.func72, Tryd.ntmps72
  go_wp2
  go_loopw [5, 8] (fun _m i wr => ∃ k : Nat, k ≤ l.length ∧ i = .int .i64 k ∧ Below w.heap.size w wr ∧ Hid (fp l p = fpF l p (l.length - k) k)) (fun _ i _ => l.length - (intOf i).toNat)
  case atStart => exact ⟨0, Nat.zero_le _, rfl, Below.refl _ _, rfl⟩
  case round =>
    obtain ⟨k, hk, rfl, hbel, hA⟩ := hrel
    have hsz := hbel.size
    by_cases hlt : k < l.length
    · have q : (k : Int) < (l.length : Int) := by omega
      obtain ⟨g, off, e, hg, c0, c1, c2, c3⟩ := h.below hbel k hlt
      subst e
      have hp := zcE hbel hP
      obtain ⟨m, hm⟩ : ∃ m, l.length - k = m + 1 := ⟨l.length - k - 1, by omega⟩
      have hm2 : l.length - (k + 1) = m := by omega
      rw [hm] at hA
      have hI := fun W => isOutC P (l.getD k onil) p W
      by_cases he : (l.getD k onil).1 = p
      · have HR : Hid (fp l p = (k : Int)) := by show _ = _; rw [hA.out, fpF_hit he]
        have hb : ((l.getD k onil).1.toList == p.toList) = true := beq_bytes_true he
        rw [hb] at hI
        obtain ⟨C, hC⟩ : ∃ C, l.getD k onil = C := ⟨_, rfl⟩
        obtain ⟨x0, x1, x2, x3⟩ := C
        rw [hC] at c0 c1 c2 c3 hI
        simp only [] at c0 c1 c2 c3 hI
        clear hA he hC hb
        go_wp2_with fail
        refine (hI _ hp).mono ?_; rintro e w2 ⟨rfl, b2⟩
        have HB : Hid (Below w.heap.size w w2) := below_step hbel hsz b2
        clear b2 hI c0 c1 c2 c3
        go_wp2
        go_ret
        exact ⟨ret_int HR.out.symm, HB.out⟩
      · have HG : Hid (fp l p = fpF l p (l.length - (k + 1)) (k + 1)) := by show _ = _; rw [hA.out, fpF_miss he, hm2]
        have hb : ((l.getD k onil).1.toList == p.toList) = false := beq_bytes_false he
        rw [hb] at hI
        obtain ⟨C, hC⟩ : ∃ C, l.getD k onil = C := ⟨_, rfl⟩
        obtain ⟨x0, x1, x2, x3⟩ := C
        rw [hC] at c0 c1 c2 c3 hI
        simp only [] at c0 c1 c2 c3 hI
        clear hA he hC hb hm hm2
        go_wp2_with fail
        refine (hI _ hp).mono ?_; rintro e w2 ⟨rfl, b2⟩
        have HB : Hid (Below w.heap.size w w2) := below_step hbel hsz b2
        clear b2 hI c0 c1 c2 c3
        go_wp2
        go_roundw
        case rel => exact ⟨k + 1, by omega, by go_num, HB.out, HG⟩
        case measure => first | (simp [intOf]; omega) | simp [intOf]
    · have HR : Hid (fp l p = -1) := by
        show _ = _
        rw [hA.out, show l.length - k = 0 by omega]
        rfl
      have q : ¬ (k : Int) < (l.length : Int) := by omega
      clear hA
      go_wp2
      go_ret
      exact ⟨ret_int HR.out.symm, hbel⟩
theorem ocells_set (l : List Ob) (k : Nat) (o : Ob) (h : k < l.length) : ((((ocells l).set (k * 4) (.string o.1)).set (k * 4 + 1) (.int .i64 o.2.1)).set (k * 4 + 2) (.int .i64 o.2.2.1)).set (k * 4 + 3) (.string o.2.2.2) = ocells (l.set k o) := by
  unfold ocells
  rw [rowG_set, rowG_set, rowG_set, rowG_set, List.length_set]
  apply rowG_congr
  intro j hj
  have hs : (l.set k o).getD k onil = o := by rw [List.getD, List.getElem?_set_self h]; rfl
  by_cases e3 : j = k * 4 + 3
  · rw [if_pos e3, e3, ocell3, hs]
  · rw [if_neg e3]
    by_cases e2 : j = k * 4 + 2
    · rw [if_pos e2, e2, ocell2, hs]
    · rw [if_neg e2]
      by_cases e1 : j = k * 4 + 1
      · rw [if_pos e1, e1, ocell1, hs]
      · rw [if_neg e1]
        by_cases e0 : j = k * 4
        · rw [if_pos e0, e0, ocell0, hs]
        · rw [if_neg e0]
          unfold ocell
          have hne : k ≠ j / 4 := by omega
          have e5 : (l.set k o).getD (j / 4) onil = l.getD (j / 4) onil := by rw [List.getD, List.getD, List.getElem?_set_ne hne]
          rw [e5]
/-- Zeros. -/
def zE (m : Nat) : List Value := rowG (mixO [] 0) (m * 4)
theorem zE_len (m : Nat) : (zE m).length = m * 4 := rowG_length _ _
theorem zE_one (m : Nat) : ∀ v ∈ zE m, v.oneCell' = true := by
  intro v hv
  unfold zE rowG at hv
  obtain ⟨j, _, e⟩ := List.mem_map.1 hv
  rw [← e]
  unfold mixO
  rw [if_neg (by omega)]
  by_cases h1 : j % 4 = 1
  · rw [if_pos h1]; rfl
  · rw [if_neg h1]
    by_cases h2 : j % 4 = 2
    · rw [if_pos h2]; rfl
    · rw [if_neg h2]; rfl
theorem run_clear_ent (w : World) (ty : TypeId) (b o m c : Nat) (hm : 0 < m) (hc : ∀ j, j < m * 4 → (w.cell? ⟨b, o + j, none⟩).isSome = true) (hf : ∀ j, j < m * 4 → w.frozen? ⟨b, o + j, none⟩ = false) :
    (Builtin.clear_ #[24] ty #[.slice (some ⟨b, o, none⟩) m c]).run Tryd.prog w = .ok (.tuple #[]) (w.setCells b o (zE m)) := by
  have hst := run_storeCells_cells (P := Tryd.prog) b o (zE m) 0 w (fun j hj => by rw [zE_len] at hj; rw [Nat.add_zero]; exact hc j hj) (fun j hj => by rw [zE_len] at hj; rw [Nat.add_zero]; exact hf j hj) (zE_one m)
  simp only [Nat.add_zero] at hst
  have hz : ∀ w, (zeroValue 62).run Tryd.prog w = .ok (.agg #[.string ⟨#[]⟩, .int .i64 0, .int .i64 0, .string ⟨#[]⟩]) w := fun w => by kernel_rfl
  have hzc : (Builtin.zeroCells (Value.agg #[.string ⟨#[]⟩, .int .i64 0, .int .i64 0, .string ⟨#[]⟩]).cells m).toList = zE m := mixO_zero [] (m * 4)
  obtain ⟨m', rfl⟩ : ∃ m', m = m' + 1 := ⟨m - 1, by omega⟩
  simp [Builtin.clear_, run_underlying Tryd.underlying24, hz, hzc, hst]
/-- What DeleteFunc leaves. -/
def DQ (base : Nat) (v : Value) (L : List Ob) (w : World) (e : Ending) (w' : World) : Prop := ∃ v', e = .returned v' ∧ w'.ownsRow base 62 4 v' L.length (ocells L) ∧ w.grownBy w' v.ownBlock
theorem grT {w w1 w2 : World} {r : Option Nat} (h : w.grownBy w1 r) (h2 : Below w1.heap.size w1 w2) : w.grownBy w2 r :=
  ⟨(grownOfBelow h2 none).os.trans h.os, (grownOfBelow h2 none).tape.trans h.tape, (grownOfBelow h2 none).output.trans h.output, Nat.le_trans h.size h2.size, fun k hk hne => ((grownOfBelow h2 none).block k (Nat.lt_of_lt_of_le hk h.size) (by simp)).trans (h.block k hk hne)⟩
theorem grS4 {w w1 w2 : World} {r : Option Nat} (h : w.grownBy w1 r) (h2 : w1.grownBy w2 r) : w.grownBy w2 r :=
  ⟨h2.os.trans h.os, h2.tape.trans h.tape, h2.output.trans h.output, Nat.le_trans h.size h2.size, fun k hk hne => (h2.block k (Nat.lt_of_lt_of_le hk h.size) hne).trans (h.block k hk hne)⟩
/-- The row while entries are taken out: those that stay stand first, those behind are as they were. -/
structure DX (l : List Ob) (p : ByteArray) (i j : Nat) (X : List Ob) : Prop where
  len : X.length = l.length
  hi : (rsF (l.take j) p).length = i
  ahead : X.take i = rsF (l.take j) p
  rest : ∀ m, j ≤ m → m < l.length → X.getD m onil = l.getD m onil
theorem DX.put {l : List Ob} {p : ByteArray} {i j : Nat} {X : List Ob} (h : DX l p i j X) (hij : i < j) (hj : j < l.length) (he : ¬ (l.getD j onil).1 = p) : DX l p (i + 1) (j + 1) (X.set i (l.getD j onil)) := by
  refine ⟨by rw [List.length_set]; exact h.len, by rw [rsF_yes l p j hj he, List.length_append, h.hi]; rfl, ?_, fun m h1 h2 => ?_⟩
  · rw [take_set_snoc X i _ (by rw [h.len]; omega), h.ahead, rsF_yes l p j hj he]
  · rw [getD_set_ne X i m _ (by omega)]
    exact h.rest m (by omega) h2
theorem DX.pass {l : List Ob} {p : ByteArray} {i j : Nat} {X : List Ob} (h : DX l p i j X) (hj : j < l.length) (he : (l.getD j onil).1 = p) : DX l p i (j + 1) X :=
  ⟨h.len, by rw [rsF_no l p j hj he]; exact h.hi, by rw [rsF_no l p j hj he]; exact h.ahead, fun m h1 h2 => h.rest m (by omega) h2⟩
/-- What is left of a row whose end is cleared. -/
theorem ownCut {w : World} {base b c n i : Nat} {X L : List Ob} (h : w.ownsRow base 62 4 (.slice (some ⟨b, 0, none⟩) n c) n (ocells X)) (hX : X.length = n) (hin : i ≤ n) (hL : X.take i = L) (hl : L.length = i) :
    (w.setCells b (i * 4) (zE (n - i))).ownsRow base 62 4 (.slice (some ⟨b, 0, none⟩) i c) i (ocells L) := by
  rcases h.2 with ⟨h', _⟩ | ⟨g', c', cur, h', hb, hh, h1, h2, h3, h4⟩
  · cases h'
  · simp only [Value.slice.injEq, Option.some.injEq, Addr.mk.injEq, and_true, true_and] at h'
    obtain ⟨rfl, rfl⟩ := h'
    obtain ⟨cur', k1, k2⟩ := Cp.setCells_blk b 62 (zE (n - i)) (i * 4) w cur hh
    refine Cp.ownOf hb k1 (by omega) h2 (by rw [k2, h3]) (by rw [ocells_length, hl]) fun j hj => ?_
    rw [World.cell?_setCells_out b _ _ _ _ (fun _ _ => by show j < i * 4 ∨ _; omega)]
    have e1 : ocells X = ocells L ++ ocells (X.drop i) := by rw [← ocells_app, ← hL, List.take_append_drop]
    have e2 := h.cellAt j (by omega)
    rw [e2, e1, List.getElem?_append_left (by rw [ocells_length, hl]; exact hj)]
set_option maxRecDepth 20000 in
set_option maxHeartbeats 4000000 in
theorem deleteFuncC (base b c P : Nat) (l : List Ob) (p : ByteArray) (x : Nat) (w : World) (h : w.ownsRow base 62 4 (.slice (some ⟨b, 0, none⟩) l.length c) l.length (ocells l)) (hn : l.length ≤ 1048576) (hP : w.cell? ⟨P, 0, none⟩ = some (.string p)) (hPb : P ≠ b)
    (hx : x < l.length) (hxe : (l.getD x onil).1 = p) :
    Calls Tryd.prog 54 #[.slice (some ⟨b, 0, none⟩) l.length c, .func (.func 29) #[] #[.pointer (some ⟨P, 0, none⟩)]] w fun e w' => DQ base (.slice (some ⟨b, 0, none⟩) l.length c) (rsF l p) w e w' := by
  have hI := indexOutC (some ⟨b, 0, none⟩) c P l p w (OB.of h) hn hP
  obtain ⟨at_, hf, ha, hk0⟩ := fp_found hx hxe
  rw [hf] at hI
  have hcap : l.length ≤ c := by
    rcases h.2 with ⟨h', _⟩ | ⟨g', c', cur, h', hb, hh, h1, h2, h3, h4⟩
    · cases h'
    · simp only [Value.slice.injEq] at h'; omega
  have qa : ((at_ : Int) == -1) = false := beq_eq_false_iff_ne.2 (by omega)
  have D0 : DX l p at_ (at_ + 1) l := ⟨rfl, by rw [hk0, List.length_take]; omega, hk0.symm, fun _ _ _ => rfl⟩
  clear hf hk0 hx hxe
  go_enter Tryd.func54, Tryd.ntmps54
  go_wp2_with fail
  refine hI.mono ?_; rintro e w1 ⟨rfl, b1⟩
  have o1 : w1.ownsRow base 62 4 (.slice (some ⟨b, 0, none⟩) l.length c) l.length (ocells l) := h.kept (grownOfBelow b1 none) (blockCases _ _ fun b c1 c2 => by cases c2)
  have g1 : w.grownBy w1 (some b) := ⟨(grownOfBelow b1 none).os, (grownOfBelow b1 none).tape, (grownOfBelow b1 none).output, b1.size, fun k hk _ => (grownOfBelow b1 none).block k hk (by simp)⟩
  have p1 := zcE b1 hP
  clear hI b1 h hP
  go_wp2
  go_loopw [5, 6, 7] (fun vi vj _v wr => ∃ i j : Nat, i < j ∧ j ≤ l.length ∧ vi = .int .i64 i ∧ vj = .int .i64 j ∧ (∃ X, Hid (DX l p i j X) ∧ wr.ownsRow base 62 4 (.slice (some ⟨b, 0, none⟩) l.length c) l.length (ocells X)) ∧ w.grownBy wr (some b) ∧ wr.cell? ⟨P, 0, none⟩ = some (.string p)) (fun _ vj _ _ => l.length - (intOf vj).toNat)
  case atStart => exact ⟨at_, at_ + 1, by omega, ha, rfl, by go_num, ⟨l, D0, o1⟩, g1, p1⟩
  case round =>
    obtain ⟨i, j, hij, hil, rfl, rfl, ⟨X, hD, ho⟩, hg, hp⟩ := hrel
    clear o1 g1 p1 D0
    have hbl := ho.lt b rfl
    by_cases hlt : j < l.length
    · have q : (j : Int) < (l.length : Int) := by omega
      have qi : (i : Int) < (l.length : Int) := by omega
      have hO := OB.of (l := X) (by rw [hD.out.len]; exact ho)
      obtain ⟨g, off, e, hgl, c0, c1, c2, c3⟩ := hO j (by rw [hD.out.len]; exact hlt)
      simp only [Option.some.injEq, Addr.mk.injEq, and_true] at e
      obtain ⟨rfl, rfl⟩ := e
      rw [hD.out.rest j (Nat.le_refl _) hlt] at c0 c1 c2 c3
      have hI := fun W => isOutC P (l.getD j onil) p W
      have hput := fun he => hD.out.put hij hlt he
      have hpass := fun he => hD.out.pass hlt he
      by_cases he : (l.getD j onil).1 = p
      · have hb : ((l.getD j onil).1.toList == p.toList) = true := beq_bytes_true he
        have HX : Hid (DX l p i (j + 1) X) := hpass he
        rw [hb] at hI
        obtain ⟨C, hC⟩ : ∃ C, l.getD j onil = C := ⟨_, rfl⟩
        obtain ⟨x0, x1, x2, x3⟩ := C
        rw [hC] at c0 c1 c2 c3 hI
        simp only [Nat.zero_add] at c0 c1 c2 c3 hI
        clear hO hb hC hput hpass he hD
        obtain ⟨V, hV⟩ : ∃ V, wr.alloc (.cells #[.string x0, .int .i64 x1, .int .i64 x2, .string x3] 62) = V := ⟨_, rfl⟩
        have bV : Below wr.heap.size wr V := by rw [← hV]; exact allocBelow _ _
        have rV : Rs V wr.heap.size [.string x0, .int .i64 x1, .int .i64 x2, .string x3] := by rw [← hV]; exact Rs.new wr #[.string x0, .int .i64 x1, .int .i64 x2, .string x3] _
        have hpV := zcE bV hp
        have n0 := rV 0 _ rfl
        have n1 := rV 1 _ rfl
        have n2 := rV 2 _ rfl
        have n3 := rV 3 _ rfl
        go_wp2_with fail
        refine (hI _ hpV).mono ?_; rintro e w2 ⟨rfl, b2⟩
        have B2 : Below wr.heap.size wr w2 := bV.trans (b2.mono bV.size)
        have g2 : w.grownBy w2 (some b) := grT hg B2
        have o2 := ho.kept (grownOfBelow B2 none) (blockCases _ _ fun b c1 c2 => by cases c2)
        have p2 := zcE B2 hp
        clear hV bV rV hpV n0 n1 n2 n3 b2 B2 c0 c1 c2 c3 hI ho hg hp
        go_wp2
        go_roundw
        case rel => exact ⟨i, j + 1, by omega, by omega, by first | rfl | trivial, by go_num, ⟨X, HX, o2⟩, g2, p2⟩
        case measure => first | (simp [intOf]; omega) | simp [intOf]
      · have hb : ((l.getD j onil).1.toList == p.toList) = false := beq_bytes_false he
        have HX : Hid (DX l p (i + 1) (j + 1) (X.set i (l.getD j onil))) := hput he
        have HXl : Hid (X.length = l.length) := hD.out.len
        rw [hb] at hI
        obtain ⟨C, hC⟩ : ∃ C, l.getD j onil = C := ⟨_, rfl⟩
        obtain ⟨x0, x1, x2, x3⟩ := C
        rw [hC] at c0 c1 c2 c3 hI HX
        simp only [Nat.zero_add] at c0 c1 c2 c3 hI
        have hi2 : i * 4 < l.length * 4 := by omega
        have hi3 : i * 4 + 1 < l.length * 4 := by omega
        have hi4 : i * 4 + 2 < l.length * 4 := by omega
        have hi5 : i * 4 + 3 < l.length * 4 := by omega
        clear hO hb hC hput hpass he hD
        obtain ⟨V, hV⟩ : ∃ V, wr.alloc (.cells #[.string x0, .int .i64 x1, .int .i64 x2, .string x3] 62) = V := ⟨_, rfl⟩
        have bV : Below wr.heap.size wr V := by rw [← hV]; exact allocBelow _ _
        have rV : Rs V wr.heap.size [.string x0, .int .i64 x1, .int .i64 x2, .string x3] := by rw [← hV]; exact Rs.new wr #[.string x0, .int .i64 x1, .int .i64 x2, .string x3] _
        have hpV := zcE bV hp
        have n0 := rV 0 _ rfl
        have n1 := rV 1 _ rfl
        have n2 := rV 2 _ rfl
        have n3 := rV 3 _ rfl
        go_wp2_with fail
        refine (hI _ hpV).mono ?_; rintro e w2 ⟨rfl, b2⟩
        have B2 : Below wr.heap.size wr w2 := bV.trans (b2.mono bV.size)
        have g2 : w.grownBy w2 (some b) := grT hg B2
        have o2 := ho.kept (grownOfBelow B2 none) (blockCases _ _ fun b c1 c2 => by cases c2)
        have p2 := zcE B2 hp
        have m0 := zcE b2 n0
        have m1 := zcE b2 n1
        have m2 := zcE b2 n2
        have m3 := zcE b2 n3
        have kk := fun y (hy : y < l.length * 4) => (o2.cellAt y hy).trans (by rw [ocells, rowG_at _ _ _ (by rw [HXl.out]; exact hy)])
        have k0 := kk (i * 4) hi2
        have k1 := kk (i * 4 + 1) hi3
        have k2 := kk (i * 4 + 2) hi4
        have k3 := kk (i * 4 + 3) hi5
        have f0 := o2.frozenAt (i * 4)
        have f1 := o2.frozenAt (i * 4 + 1)
        have f2 := o2.frozenAt (i * 4 + 2)
        have f3 := o2.frozenAt (i * 4 + 3)
        have s1 := o2.stored (i * 4) (.string x0)
        have s2 := s1.1.stored (i * 4 + 1) (.int .i64 x1)
        have s3 := s2.1.stored (i * 4 + 2) (.int .i64 x2)
        have s4 := s3.1.stored (i * 4 + 3) (.string x3)
        have HO : Hid (((((w2.setCell ⟨b, i * 4, none⟩ (.string x0)).setCell ⟨b, i * 4 + 1, none⟩ (.int .i64 x1)).setCell ⟨b, i * 4 + 2, none⟩ (.int .i64 x2)).setCell ⟨b, i * 4 + 3, none⟩ (.string x3)).ownsRow base 62 4 (.slice (some ⟨b, 0, none⟩) l.length c) l.length (ocells (X.set i (x0, x1, x2, x3)))) := by
          have h2 := s4.1
          have e := ocells_set X i (x0, x1, x2, x3) (by rw [HXl.out]; omega)
          simp only [] at e
          rw [e] at h2
          exact h2
        have HG : Hid (w.grownBy ((((w2.setCell ⟨b, i * 4, none⟩ (.string x0)).setCell ⟨b, i * 4 + 1, none⟩ (.int .i64 x1)).setCell ⟨b, i * 4 + 2, none⟩ (.int .i64 x2)).setCell ⟨b, i * 4 + 3, none⟩ (.string x3)) (some b)) := grS4 (grS4 (grS4 (grS4 g2 s1.2) s2.2) s3.2) s4.2
        have HP : Hid (((((w2.setCell ⟨b, i * 4, none⟩ (.string x0)).setCell ⟨b, i * 4 + 1, none⟩ (.int .i64 x1)).setCell ⟨b, i * 4 + 2, none⟩ (.int .i64 x2)).setCell ⟨b, i * 4 + 3, none⟩ (.string x3)).cell? ⟨P, 0, none⟩ = some (.string p)) := s4.2.cell (s3.2.cell (s2.2.cell (s1.2.cell p2 (by simpa using hPb)) (by simpa using hPb)) (by simpa using hPb)) (by simpa using hPb)
        clear hV bV rV hpV n0 n1 n2 n3 b2 B2 g2 o2 p2 s1 s2 s3 s4 c0 c1 c2 c3 hI ho hg hp kk
        go_wp2
        go_roundw
        case rel => exact ⟨i + 1, j + 1, by omega, by omega, by go_num, by go_num, ⟨_, HX, HO.out⟩, HG.out, HP.out⟩
        case measure => first | (simp [intOf]; omega) | simp [intOf]
    · have q : ¬ (j : Int) < (l.length : Int) := by omega
      have ej : j = l.length := by omega
      subst ej
      obtain ⟨hXl, hX1, hX2, _⟩ := hD.out
      rw [List.take_length] at hX1 hX2
      have kk := fun y (hy : y < (l.length - i) * 4) => (ho.cellAt (i * 4 + y) (by omega)).trans (by rw [ocells, rowG_at _ _ _ (by rw [hXl]; omega)])
      have hcl := fun ty cc => run_clear_ent wr ty b (i * 4) (l.length - i) cc (by omega) (fun y hy => by rw [kk y hy]; rfl) (fun y _ => ho.frozenAt _)
      have qc : (i : Int) ≤ (c : Int) := by omega
      have qi : (i : Int) ≤ (l.length : Int) := by omega
      have qn : ¬ i = c := by omega
      have HQ : Hid (DQ base (.slice (some ⟨b, 0, none⟩) l.length c) (rsF l p) w (.returned (.slice (some ⟨b, 0, none⟩) i c)) (wr.setCells b (i * 4) (zE (l.length - i)))) :=
        ⟨_, rfl, by rw [hX1]; exact ownCut ho hXl (by omega) hX2 hX1, grS4 hg (grownSets b _ _ _)⟩
      clear kk ho hg hp hXl hX1 hX2 hD
      go_wp2
      go_ret
      exact HQ.out
set_option maxRecDepth 20000 in
set_option maxHeartbeats 4000000 in
theorem dropC (b P : Nat) (l : List Ob) (v : Value) (p : ByteArray) (x : Nat) (w : World) (h : SL w b l v) (hn : l.length ≤ 1048576) (hP : w.cell? ⟨P, 0, none⟩ = some (.string p)) (hPb : P < b)
    (hx : x < l.length) (hxe : (l.getD x onil).1 = p) :
    Calls Tryd.prog 28 #[.pointer (some ⟨b, 0, none⟩), .func (.func 29) #[] #[.pointer (some ⟨P, 0, none⟩)]] w fun e w' => AD b (rsF l p) w e w' := by
  obtain ⟨r, c, rfl⟩ : ∃ r c, v = .slice (some ⟨r, 0, none⟩) l.length c := by
    rcases h.own.2 with ⟨_, h0⟩ | ⟨g, c, cur, e, _⟩
    · omega
    · exact ⟨g, c, e⟩
  have hr := (h.own.lt r rfl).1
  have hD := deleteFuncC (b + 1) r c P l p x w h.own hn hP (by omega) hx hxe
  have k1 := h.rf.at_ 1 _ rfl
  have zV := h.lt
  have R3 := h.rf
  have f1 := h.rf.fz 1
  clear h hxe hP
  go_enter Tryd.func28, Tryd.ntmps28
  go_wp2_with fail
  refine hD.mono ?_
  rintro e w5 ⟨v5, rfl, o5, g5⟩
  obtain ⟨ua, uc, rfl⟩ := shapeK3 o5
  have hne : some b ≠ (Value.slice (some ⟨r, 0, none⟩) l.length c).ownBlock := fun e => by
    have : b = r := Option.some.inj e
    omega
  have R5 := rfGrew R3 g5 hne zV
  have c5 := R5.at_ 1 _ rfl
  have z5 := R5.fz 1
  have z6 : b < w5.heap.size := Nat.lt_of_lt_of_le zV g5.size
  have R6 : Rf (w5.setCell ⟨b, 1, none⟩ (.slice ua (rsF l p).length uc)) b [.func (.func 53) #[] #[], .slice ua (rsF l p).length uc] := R5.set (o := 1) (by simp) _
  have o6 := o5.kept (grownSet w5 b 1 (.slice ua (rsF l p).length uc)) (blockCases _ _ fun j c1 c2 => by cases c2; have := (o5.lt _ c1).1; omega)
  have B6 : Below b w (w5.setCell ⟨b, 1, none⟩ (.slice ua (rsF l p).length uc)) := ((Below.refl b w).grown g5 (Nat.le_of_lt zV) (fun j hj => by have : r = j := Option.some.inj hj; omega)).setCell (p := ⟨b, 1, none⟩) (Nat.le_refl _) _
  have HF : Hid (AD b (rsF l p) w (.returned (.tuple #[])) (w5.setCell ⟨b, 1, none⟩ (.slice ua (rsF l p).length uc))) := ⟨rfl, ⟨_, R6, o6, by rw [World.size_setCell]; exact z6⟩, B6⟩
  generalize (rsF l p).length = M at *
  clear R6 o6 B6 R5 o5 g5 R3 hD hne
  go_wp2
  refine bodyPost_end (results_none rfl _ _ _) rfl ?_
  exact HF.out
end Go.Proofs.YtipdebodanhooaaDoor.En
/- ResolvePath of the program. No statement is proved here. -/
set_option linter.unusedVariables false
namespace Go.Proofs.YtipdebodanhooaaDoor.En
open Go.ChangeShapes Go.WideShapes Go.ChangeAt Go.RowKit
set_option maxRecDepth 20000 in
set_option maxHeartbeats 4000000 in
theorem hasC (b : Nat) (l : List ByteArray) (v : Value) (E : ByteArray) (w : World) (h : ST w b l v) (hn : l.length ≤ 1048570) (hs : Srt l) :
    Calls Tryd.prog 24 #[.pointer (some ⟨b, 0, none⟩), .string E] w fun e w' => e = .returned (.bool (hasB l E)) ∧ ∃ n, w' = w.drewN n := by
  obtain ⟨va, vc, rfl⟩ := shapeK3 h.own
  obtain ⟨q, hq, hh⟩ := cutsS_ex hs E
  have hS := fun W p => searchS (b + 1) va vc l E q W p (by omega) hq
  rw [hh] at hS
  have k0 := h.rf.at_ 0 _ rfl
  have k1 := h.rf.at_ 1 _ rfl
  have how := h.own
  clear hq hh h hs
  go_enter Tryd.func24, Tryd.ntmps24
  go_wp2_with fail
  go_quiet ((go_at_call 51; exact quietS (hS _ how)))
  go_wp2
  go_ret
  exact ⟨rfl, _, rfl⟩
set_option maxRecDepth 20000 in
set_option maxHeartbeats 4000000 in
theorem indexOfC (a : Option Addr) (c : Nat) (l : List Ob) (w : World) (h : OB w.heap.size w a l) (hs : SmallO l) (hx : ixf l = 0) :
    Calls Tryd.prog 27 #[.slice a l.length c] w fun e w' => e = .returned (.pointer (some ⟨w.heap.size, 0, none⟩)) ∧ (∃ v, SL w' w.heap.size l v) ∧ Below w.heap.size w w' := by
  have hln := (ixf_zero hx).1
  have HX : Hid (∀ k, k < l.length → Last (l.take k) (l.getD k onil)) := fun k hk => ix_last hx hk
  obtain ⟨b, hb⟩ : ∃ b, w.heap.size = b := ⟨_, rfl⟩
  obtain ⟨W1, hW1⟩ : ∃ W1, w.alloc (.cells #[.func (.func 53) #[] #[], .slice none 0 0] 68) = W1 := ⟨_, rfl⟩
  have b1 : Below b w W1 := by rw [← hW1, ← hb]; exact allocBelow _ _
  have s1 : SL W1 b [] (.slice none 0 0) := by rw [← hW1, ← hb]; exact ⟨Rf.new _ _ _, nilE _ _, by simp⟩
  have A1 : OB b W1 a l := by rw [← hb] at b1 ⊢; exact h.below b1
  have HB : Hid (w.heap.size = b) := hb
  clear hx h
  go_enter Tryd.func27, Tryd.ntmps27
  go_wp2
  clear hb hW1
  go_loopw [5, 10] (fun _o i wr => ∃ k : Nat, k ≤ l.length ∧ i = .int .i64 k ∧ (∃ v, SL wr b (l.take k) v) ∧ Below b W1 wr) (fun _ i _ => l.length - (intOf i).toNat)
  case atStart => exact ⟨0, Nat.zero_le _, rfl, ⟨_, s1⟩, Below.refl _ _⟩
  case round =>
    obtain ⟨k, hk, rfl, ⟨v, sv⟩, hbel⟩ := hrel
    by_cases hlt : k < l.length
    · have qk : (k : Int) < (l.length : Int) := by omega
      obtain ⟨g, off, e, hg, d0, d1, d2, d3⟩ := (obBelowAt A1 hbel (Nat.le_refl _)) k hlt
      subst e
      have hsl := hs _ (ob_mem l k hlt)
      have hN := HX.out k hlt
      have hT := ob_take l k hlt
      have hcl : (l.take k).length ≤ 1048575 := by rw [List.length_take]; omega
      obtain ⟨C, hCe⟩ : ∃ C, l.getD k onil = C := ⟨_, rfl⟩
      obtain ⟨x0, x1, x2, x3⟩ := C
      rw [hCe] at d0 d1 d2 d3 hsl hN hT
      simp only [] at d0 d1 d2 d3 hsl
      obtain ⟨T, hTe⟩ : ∃ T, l.take k = T := ⟨_, rfl⟩
      rw [hTe] at sv hN hT hcl
      have HT : Hid (l.take (k + 1) = T ++ [(x0, x1, x2, x3)]) := hT
      obtain ⟨W, hW⟩ : ∃ W, wr.alloc (.cells #[.string x0, .int .i64 x1, .int .i64 x2, .string x3] 62) = W := ⟨_, rfl⟩
      have bW : Below wr.heap.size wr W := by rw [← hW]; exact allocBelow _ _
      have oW : Rf W wr.heap.size [.string x0, .int .i64 x1, .int .i64 x2, .string x3] := by rw [← hW]; exact Rf.new _ _ _
      have m0 := oW.at_ 0 _ rfl
      have m1 := oW.at_ 1 _ rfl
      have m2 := oW.at_ 2 _ rfl
      have m3 := oW.at_ 3 _ rfl
      have s4 := sv.below bW
      have zb : b ≤ wr.heap.size := Nat.le_of_lt sv.lt
      have B4 := hbel.trans (bW.mono zb)
      have hE := fun W => entryAtC (x0, x2, x3) x1 W hsl.1 hsl.2
      have hFi := fun W => fileInC (x0, x1, x2, x3) W
      have hD := fun W p => addEndC b T v (x0, x1, x2, x3) W p hcl hN
      simp only [] at hE hD hFi
      have BD : Below W.heap.size W W.drew := (Below.refl _ _).drew
      have BE := BD
      clear hCe hT hTe hN sv oW bW hbel
      go_wp2_with fail
      clear hW
      go_region_with (first
        | (go_at_call 32; refine (hFi _).mono ?_; rintro e w' ⟨rfl, b'⟩; have m1 := zS b' m1; have BE := bS BE b'; clear b')
        | (go_at_call 31; refine (hE _).mono ?_; rintro e w' ⟨rfl, b'⟩; have BE := bS BE b'; clear b')
        | (go_at_call 30; refine (hD _ (s4.below BE)).mono ?_; rintro e w6 ⟨rfl, ⟨v6, s6⟩, b6⟩))
      all_goals
        have B6 : Below b W1 w6 := (B4.trans (BE.mono (Nat.le_of_lt s4.lt))).trans b6
        clear hD hE hFi s4 B4 b6
        go_wp2
        go_roundw
        case rel => exact ⟨k + 1, by omega, by go_num, ⟨v6, by rw [HT.out]; exact s6⟩, B6⟩
        case measure => first | (simp [intOf]; omega) | simp [intOf]
    · have qk : ¬ (k : Int) < (l.length : Int) := by omega
      have ek : l.take k = l := List.take_of_length_le (by omega)
      rw [ek] at sv
      have S6 : Hid (∃ v, SL wr b l v) := ⟨_, sv⟩
      have B6 := b1.trans hbel
      clear sv ek
      go_wp2
      go_ret
      rw [HB.out]
      exact ⟨rfl, S6.out, B6⟩
theorem ep_of {r z : Int} {L : List Ob} {w w' : World} {v : Value} {b : Nat} (hb : w.heap.size = b) (ho : w'.ownsRow b 62 4 v L.length (ocells L)) (hB : Below b w w') : EP r z L w (.returned (.agg #[.int .i64 r, .int .i64 z, v])) w' := by
  subst hb
  exact ⟨v, rfl, ho, hB⟩
set_option maxRecDepth 20000 in
set_option maxHeartbeats 4000000 in
theorem implResolvePath (a : Option Addr) (c : Nat) (l : List Ob) (p : ByteArray) (m : Int) (i : ByteArray) (w : World) (h : OB w.heap.size w a l) (hs : SmallO l) (hn : l.length ≤ 1048576) (hp : p.size ≤ 1048576) (hi : i.size ≤ 1048576) :
    Calls Tryd.prog 6 #[.slice a l.length c, .string p, .int .i64 m, .string i] w fun e w' => EP (rsC l p m i) 0 (rsL l p m i) w e w' := by
  obtain ⟨b, hb⟩ : ∃ b, w.heap.size = b := ⟨_, rfl⟩
  have HB : Hid (w.heap.size = b) := hb
  obtain ⟨W1, hW1⟩ : ∃ W, (w.alloc (.cells #[.string p] 9)).alloc (.cells #[.int .i64 0, .int .i64 0, .slice none 0 0] 28) = W := ⟨_, rfl⟩
  have za : (w.alloc (.cells #[.string p] 9)).heap.size = b + 1 := by rw [← hb]; simp
  have b1 : Below b w W1 := by rw [← hW1, ← hb]; exact ((Below.refl _ _).alloc (Nat.le_refl _) _).alloc (by simp) _
  have r1 : Rf W1 (b + 1) [.int .i64 0, .int .i64 0, .slice none 0 0] := by rw [← hW1, ← za]; exact Rf.new _ #[.int .i64 0, .int .i64 0, .slice none 0 0] _
  have p1 : Rf W1 b [.string p] := by rw [← hW1, ← hb]; exact (Rf.new w #[.string p] _).below (by simp) (allocBelow _ _)
  have z1 : W1.heap.size = b + 2 := by rw [← hW1, ← hb]; simp
  have h1 : OB W1.heap.size W1 a l := (h.below (by rw [hb]; exact b1)).mono (by omega)
  have Z1 : b + 2 ≤ W1.heap.size := by omega
  have hA := implIndexFault a c l W1 h1 hs hn
  clear z1
  by_cases h0 : ixf l = 0
  · rw [h0] at hA
    have hln := (ixf_zero h0).1
    go_enter Tryd.func6, Tryd.ntmps6
    go_wp2_with fail
    refine hA.mono ?_
    clear hA hW1 hb za h
    rintro e w2 ⟨rfl, b2⟩
    have B2 : Below b w w2 := b1.trans (b2.mono (by omega))
    have z2 := Nat.le_trans Z1 b2.size
    have r2 := r1.below (by omega) b2
    have p2 := p1.below (by omega) b2
    have h2 := (h1.below b2).mono (B' := w2.heap.size) (Nat.le_trans (Nat.le_refl _) b2.size)
    have k0 := p2.at_ 0 _ rfl
    have hC := fun W x => clashesInC a c l W x hs h0
    have hcl : (cl l).length ≤ 1048570 := by have := cl_len l l.length; rw [List.take_length] at this; omega
    have hH := fun W B v x => hasC B (cl l) v p W x hcl (cl_srt h0)
    have OD : OB w2.drew.heap.size w2.drew a l := h2
    have BD : Below w2.heap.size w2 w2.drew := (Below.refl _ _).drew
    clear h1 b1 r1 p1 b2 hcl
    go_wp2_with fail
    go_cut [22] from 18 to 22 (fun s wx => s = .bool (!hasB (cl l) p) ∧ Below w2.heap.size w2 wx)
    case first =>
      go_region_held (fun w' => w'.cell? ⟨b, 0, none⟩ = some (.string p)) (first | with_reducible exact k0 | with_reducible exact k3 | with_reducible exact k4 | exact k0)
        (first
          | (go_at_call 23; refine (hC _ OD).mono ?_; rintro e w3 ⟨rfl, ⟨v3, s3⟩, b3⟩; have k3 := zS b3 k0; have B3 : Below w2.heap.size w2 w3 := bS BD b3)
          | (go_at_call 24; refine (hH _ _ _ s3).mono ?_; rintro e w4 ⟨rfl, n4, rfl⟩; have k4 : (w3.drewN n4).cell? ⟨b, 0, none⟩ = some (.string p) := k3; have B4 : Below w2.heap.size w2 (w3.drewN n4) := below_drewN' B3 _))
      all_goals (go_wp2_with fail; go_meet; exact ⟨rfl, by assumption⟩)
    case rest =>
    obtain ⟨rfl, b3⟩ := hcut
    obtain ⟨w3, hw3⟩ : ∃ w3, wc = w3 := ⟨_, rfl⟩
    rw [hw3] at b3 ⊢
    clear hw3
    have B3 : Below b w w3 := B2.trans (b3.mono (by omega))
    have z3 := Nat.le_trans z2 b3.size
    have r3 := r2.below (by omega) b3
    have p3 := p2.below (by omega) b3
    have h3 := (h2.below b3).mono (B' := w3.heap.size) b3.size
    clear hC hH OD BD r2 p2 h2 B2 k0 z2 b3
    cases hhb : hasB (cl l) p with
    | false =>
      have HC : Hid (rsC l p m i = 4 ∧ rsL l p m i = []) := rs_none h0 hhb
      clear hhb h0
      have c0 := r3.at_ 0 _ rfl
      have c1 := r3.at_ 1 _ rfl
      have c2 := r3.at_ 2 _ rfl
      have f0 := r3.fz 0
      have f1 := r3.fz 1
      have f2 := r3.fz 2
      have RV := ((r3.set (o := 0) (by simp) (.int .i64 4)).set (o := 1) (by simp) (.int .i64 0)).set (o := 2) (by simp) (.slice none 0 0)
      have BV := ((B3.setCell (p := ⟨b + 1, 0, none⟩) (by show b ≤ b + 1; omega) (.int .i64 4)).setCell (p := ⟨b + 1, 1, none⟩) (by show b ≤ b + 1; omega) (.int .i64 0)).setCell (p := ⟨b + 1, 2, none⟩) (by show b ≤ b + 1; omega) (.slice none 0 0)
      obtain ⟨V, hV⟩ : ∃ V, ((w3.setCell ⟨b + 1, 0, none⟩ (.int .i64 4)).setCell ⟨b + 1, 1, none⟩ (.int .i64 0)).setCell ⟨b + 1, 2, none⟩ (.slice none 0 0) = V := ⟨_, rfl⟩
      rw [hV] at RV BV
      have HV : Hid (_ = V) := hV
      have v0 := RV.at_ 0 _ rfl
      have v1 := RV.at_ 1 _ rfl
      have v2 := RV.at_ 2 _ rfl
      clear hV RV r3 B3
      go_wp2
      rw [HV.out]
      refine bodyPost_ret (v := .agg #[.int .i64 4, .int .i64 0, .slice none 0 0]) (by simp [results, Tryd.results6, go_sem, v0, v1, v2]) rfl ?_
      rw [HC.out.1, HC.out.2]
      exact ep_of HB.out (nilE _ _) BV
    | true =>
      obtain ⟨x, hx, hxe⟩ := cl_found h0 hhb
      have hDr := fun W B v (y : SL W B l v) (k : W.cell? ⟨b, 0, none⟩ = some (.string p)) (z : b < B) => dropC B b l v p x W y (by omega) k z hx hxe
      have hIx := fun W y => indexOfC a c l W y hs h0
      have hRl := rsF_all l p
      clear hx hxe
      by_cases hm : m = 0
      · subst hm
        cases hii : (i.toList == []) with
        | false =>
          have HC : Hid (rsC l p 0 i = 1 ∧ rsL l p 0 i = []) := rs_form h0 hhb (.inl rfl) hii
          clear hhb h0
          have c0 := r3.at_ 0 _ rfl
          have c1 := r3.at_ 1 _ rfl
          have c2 := r3.at_ 2 _ rfl
          have f0 := r3.fz 0
          have f1 := r3.fz 1
          have f2 := r3.fz 2
          have RV := ((r3.set (o := 0) (by simp) (.int .i64 1)).set (o := 1) (by simp) (.int .i64 0)).set (o := 2) (by simp) (.slice none 0 0)
          have BV := ((B3.setCell (p := ⟨b + 1, 0, none⟩) (by show b ≤ b + 1; omega) (.int .i64 1)).setCell (p := ⟨b + 1, 1, none⟩) (by show b ≤ b + 1; omega) (.int .i64 0)).setCell (p := ⟨b + 1, 2, none⟩) (by show b ≤ b + 1; omega) (.slice none 0 0)
          obtain ⟨V, hV⟩ : ∃ V, ((w3.setCell ⟨b + 1, 0, none⟩ (.int .i64 1)).setCell ⟨b + 1, 1, none⟩ (.int .i64 0)).setCell ⟨b + 1, 2, none⟩ (.slice none 0 0) = V := ⟨_, rfl⟩
          rw [hV] at RV BV
          have HV : Hid (_ = V) := hV
          have v0 := RV.at_ 0 _ rfl
          have v1 := RV.at_ 1 _ rfl
          have v2 := RV.at_ 2 _ rfl
          clear hV RV r3 B3
          go_wp2
          rw [HV.out]
          refine bodyPost_ret (v := .agg #[.int .i64 1, .int .i64 0, .slice none 0 0]) (by simp [results, Tryd.results6, go_sem, v0, v1, v2]) rfl ?_
          rw [HC.out.1, HC.out.2]
          exact ep_of HB.out (nilE _ _) BV
        | true =>
          have HR : Hid (rsC l p 0 i = 0 ∧ rsL l p 0 i = rsU l p 0 i) := rs_ok h0 hhb (.inl rfl) hii
          have HU : Hid (rsU l p 0 i = rsF l p) := if_pos rfl
          clear hhb h0
          go_wp2_with fail
          refine (hIx _ h3).mono ?_; rintro e w6 ⟨rfl, ⟨v6, s6⟩, b6⟩
          obtain ⟨q, hq⟩ : ∃ q, w3.heap.size = q := ⟨_, rfl⟩
          rw [hq] at s6 ⊢
          have r6 := r3.below (by omega) b6
          have p6 := (p3.below (by omega) b6).at_ 0 _ rfl
          have B6 : Below b w w6 := B3.trans (b6.mono (by omega))
          have hqb : b + 2 ≤ q := by omega
          have P6 : Hid (w6.cell? ⟨b, 0, none⟩ = some (.string p)) := p6
          have hD6 := hDr w6 q v6 s6 p6 (by omega)
          have zs6 := s6.lt
          clear hDr hIx h3 r3 p3 B3 b6 s6 hq z3 p6
          go_wp2_with fail
          refine hD6.mono ?_; rintro e w7 ⟨rfl, ⟨v7, s7⟩, b7⟩
          have r7 := rfBelowAt r6 b7 (by omega)
          have k7 : w7.cell? ⟨b, 0, none⟩ = some (.string p) := (b7.cell (p := ⟨b, 0, none⟩) (show b < q by omega)).trans P6.out
          have B7 : Below b w w7 := B6.trans (b7.mono (by omega))
          clear hD6 r6 B6 b7 zs6
          obtain ⟨va, vc, ev⟩ := shapeK3 s7.own
          subst ev
          have k9 := s7.rf.at_ 1 _ rfl
          obtain ⟨n, hnn⟩ : ∃ n, (rsF l p).length = n := ⟨_, rfl⟩
          have o9 := s7.own
          rw [hnn] at k9 o9
          have HN : Hid ((rsU l p 0 i).length = n) := by show _ = _; rw [HU.out]; exact hnn
          rw [← HU.out] at o9
          clear s7 hnn k7
          have c0 := r7.at_ 0 _ rfl
          have c1 := r7.at_ 1 _ rfl
          have c2 := r7.at_ 2 _ rfl
          have f0 := r7.fz 0
          have f1 := r7.fz 1
          have f2 := r7.fz 2
          have RV := ((r7.set (o := 0) (by simp) (.int .i64 0)).set (o := 1) (by simp) (.int .i64 0)).set (o := 2) (by simp) (.slice va n vc)
          have BV := ((B7.setCell (p := ⟨b + 1, 0, none⟩) (by show b ≤ b + 1; omega) (.int .i64 0)).setCell (p := ⟨b + 1, 1, none⟩) (by show b ≤ b + 1; omega) (.int .i64 0)).setCell (p := ⟨b + 1, 2, none⟩) (by show b ≤ b + 1; omega) (.slice va n vc)
          have oV := (ownMonoF o9 (b := b) (by omega)).kept (grownTrans (grownTrans (grownSet _ (b + 1) 0 (.int .i64 0)) (grownSet _ (b + 1) 1 (.int .i64 0))) (grownSet _ (b + 1) 2 (.slice va n vc))) (blockCases _ _ fun j q1 q2 => by cases q2; have := (o9.lt _ q1).1; omega)
          obtain ⟨V, hV⟩ : ∃ V, ((w7.setCell ⟨b + 1, 0, none⟩ (.int .i64 0)).setCell ⟨b + 1, 1, none⟩ (.int .i64 0)).setCell ⟨b + 1, 2, none⟩ (.slice va n vc) = V := ⟨_, rfl⟩
          rw [hV] at RV BV oV
          have HV : Hid (_ = V) := hV
          have v0 := RV.at_ 0 _ rfl
          have v1 := RV.at_ 1 _ rfl
          have v2 := RV.at_ 2 _ rfl
          clear hV RV r7 B7 o9
          go_wp2
          rw [HV.out]
          refine bodyPost_ret (v := .agg #[.int .i64 0, .int .i64 0, .slice va n vc]) (by simp [results, Tryd.results6, go_sem, v0, v1, v2]) rfl ?_
          have E9 : EP 0 0 (rsU l p 0 i) w (.returned (.agg #[.int .i64 0, .int .i64 0, .slice va n vc])) V := ep_of HB.out (by rw [HN.out]; exact oV) BV
          rw [HR.out.1, HR.out.2]
          exact E9
      · have qm : (m == 0) = false := beq_eq_false_iff_ne.2 hm
        have hFM := fun W => isFileModeC m W
        cases hmo : inB m 1 2 with
        | false =>
          have HC : Hid (rsC l p m i = 3 ∧ rsL l p m i = []) := rs_mode h0 hhb (by rintro (x | x); exact hm x; rw [hmo] at x; cases x)
          rw [hmo] at hFM
          clear hhb h0 hm hmo
          go_wp2_with fail
          refine (hFM _).mono ?_; rintro e w4 ⟨rfl, rfl⟩
          have c0 := r3.at_ 0 _ rfl
          have c1 := r3.at_ 1 _ rfl
          have c2 := r3.at_ 2 _ rfl
          have f0 := r3.fz 0
          have f1 := r3.fz 1
          have f2 := r3.fz 2
          have RV := ((r3.set (o := 0) (by simp) (.int .i64 3)).set (o := 1) (by simp) (.int .i64 0)).set (o := 2) (by simp) (.slice none 0 0)
          have BV := ((B3.setCell (p := ⟨b + 1, 0, none⟩) (by show b ≤ b + 1; omega) (.int .i64 3)).setCell (p := ⟨b + 1, 1, none⟩) (by show b ≤ b + 1; omega) (.int .i64 0)).setCell (p := ⟨b + 1, 2, none⟩) (by show b ≤ b + 1; omega) (.slice none 0 0)
          obtain ⟨V, hV⟩ : ∃ V, ((w4.setCell ⟨b + 1, 0, none⟩ (.int .i64 3)).setCell ⟨b + 1, 1, none⟩ (.int .i64 0)).setCell ⟨b + 1, 2, none⟩ (.slice none 0 0) = V := ⟨_, rfl⟩
          rw [hV] at RV BV
          have HV : Hid (_ = V) := hV
          have v0 := RV.at_ 0 _ rfl
          have v1 := RV.at_ 1 _ rfl
          have v2 := RV.at_ 2 _ rfl
          clear hV RV r3 B3
          go_wp2
          rw [HV.out]
          refine bodyPost_ret (v := .agg #[.int .i64 3, .int .i64 0, .slice none 0 0]) (by simp [results, Tryd.results6, go_sem, v0, v1, v2]) rfl ?_
          rw [HC.out.1, HC.out.2]
          exact ep_of HB.out (nilE _ _) BV
        | true =>
          rw [hmo] at hFM
          have hII := fun W => isIdOf 1 (.inl rfl) i W
          cases hof : isOf 1 i with
          | false =>
            have HC : Hid (rsC l p m i = 1 ∧ rsL l p m i = []) := rs_form h0 hhb (.inr hmo) (by unfold rsI; rw [if_neg hm]; exact hof)
            rw [hof] at hII
            clear hhb h0 hm hmo hof
            go_wp2_with fail
            refine (hFM _).mono ?_; rintro e w4 ⟨rfl, rfl⟩
            go_wp2_with fail
            refine (hII _).mono ?_; rintro e w5 ⟨rfl, n5, hw5⟩
            have r5 : Rf w5 (b + 1) [.int .i64 0, .int .i64 0, .slice none 0 0] := by rw [hw5]; exact ⟨r3.at_, r3.fz⟩
            have B5 : Below b w w5 := by rw [hw5]; exact below_drewN' B3 _
            clear hw5 r3 B3
            have c0 := r5.at_ 0 _ rfl
            have c1 := r5.at_ 1 _ rfl
            have c2 := r5.at_ 2 _ rfl
            have f0 := r5.fz 0
            have f1 := r5.fz 1
            have f2 := r5.fz 2
            have RV := ((r5.set (o := 0) (by simp) (.int .i64 1)).set (o := 1) (by simp) (.int .i64 0)).set (o := 2) (by simp) (.slice none 0 0)
            have BV := ((B5.setCell (p := ⟨b + 1, 0, none⟩) (by show b ≤ b + 1; omega) (.int .i64 1)).setCell (p := ⟨b + 1, 1, none⟩) (by show b ≤ b + 1; omega) (.int .i64 0)).setCell (p := ⟨b + 1, 2, none⟩) (by show b ≤ b + 1; omega) (.slice none 0 0)
            obtain ⟨V, hV⟩ : ∃ V, ((w5.setCell ⟨b + 1, 0, none⟩ (.int .i64 1)).setCell ⟨b + 1, 1, none⟩ (.int .i64 0)).setCell ⟨b + 1, 2, none⟩ (.slice none 0 0) = V := ⟨_, rfl⟩
            rw [hV] at RV BV
            have HV : Hid (_ = V) := hV
            have v0 := RV.at_ 0 _ rfl
            have v1 := RV.at_ 1 _ rfl
            have v2 := RV.at_ 2 _ rfl
            clear hV RV r5 B5
            go_wp2
            rw [HV.out]
            refine bodyPost_ret (v := .agg #[.int .i64 1, .int .i64 0, .slice none 0 0]) (by simp [results, Tryd.results6, go_sem, v0, v1, v2]) rfl ?_
            rw [HC.out.1, HC.out.2]
            exact ep_of HB.out (nilE _ _) BV
          | true =>
            have HR : Hid (rsC l p m i = 0 ∧ rsL l p m i = rsU l p m i) := rs_ok h0 hhb (.inr hmo) (by unfold rsI; rw [if_neg hm]; exact hof)
            have HU : Hid (rsU l p m i = insL (rsF l p) (pe (rsF l p) (p, 0, m, i)) (p, 0, m, i)) := if_neg hm
            have hRi := rs_rise h0 p
            have hAp := rs_apart l p 0 m i
            rw [hof] at hII
            clear hhb h0 hm hmo hof
            go_wp2_with fail
            refine (hFM _).mono ?_; rintro e w4 ⟨rfl, rfl⟩
            go_wp2_with fail
            refine (hII _).mono ?_; rintro e w5 ⟨rfl, n5, hw5⟩
            have r5 : Rf w5 (b + 1) [.int .i64 0, .int .i64 0, .slice none 0 0] := by rw [hw5]; exact ⟨r3.at_, r3.fz⟩
            have p5 : Rf w5 b [.string p] := by rw [hw5]; exact ⟨p3.at_, p3.fz⟩
            have B5 : Below b w w5 := by rw [hw5]; exact below_drewN' B3 _
            have h5 : OB w5.heap.size w5 a l := by rw [hw5]; exact h3
            have z5 : b + 2 ≤ w5.heap.size := by rw [hw5]; exact z3
            clear hw5 r3 B3 p3 h3 z3 hFM hII
            go_wp2_with fail
            refine (hIx _ h5).mono ?_; rintro e w6 ⟨rfl, ⟨v6, s6⟩, b6⟩
            obtain ⟨q, hq⟩ : ∃ q, w5.heap.size = q := ⟨_, rfl⟩
            rw [hq] at s6 ⊢
            have r6 := r5.below (by omega) b6
            have p6 := (p5.below (by omega) b6).at_ 0 _ rfl
            have B6 : Below b w w6 := B5.trans (b6.mono (by omega))
            have hqb : b + 2 ≤ q := by omega
            have P6 : Hid (w6.cell? ⟨b, 0, none⟩ = some (.string p)) := p6
            have hD6 := hDr w6 q v6 s6 p6 (by omega)
            have zs6 := s6.lt
            clear hDr hIx h5 r5 p5 B5 b6 s6 hq z5 p6
            go_wp2_with fail
            refine hD6.mono ?_; rintro e w7 ⟨rfl, ⟨v7, s7⟩, b7⟩
            have r7 := rfBelowAt r6 b7 (by omega)
            have k7 : w7.cell? ⟨b, 0, none⟩ = some (.string p) := (b7.cell (p := ⟨b, 0, none⟩) (show b < q by omega)).trans P6.out
            have B7 : Below b w w7 := B6.trans (b7.mono (by omega))
            clear hD6 r6 B6 b7 zs6
            have z7 := s7.lt
            have hE := fun W => entryAtC (p, m, i) 0 W hp hi
            have hAd := fun W (y : SL W q (rsF l p) v7) => addApart q (rsF l p) v7 (p, 0, m, i) W y (by omega) hRi hAp
            simp only [] at hE hAd
            clear hRi hAp
            go_wp2_with fail
            refine (hE _).mono ?_; rintro e w8 ⟨rfl, b8⟩
            have s8 := s7.below b8
            have r8 := r7.below (by omega) b8
            have B8 : Below b w w8 := B7.trans (b8.mono (by omega))
            clear hE s7 r7 B7 b8 k7
            go_wp2_with fail
            refine (hAd _ s8).mono ?_; rintro e w9 ⟨rfl, ⟨v9, s9⟩, b9⟩
            have r9 := rfBelowAt r8 b9 (by omega)
            have B9 : Below b w w9 := B8.trans (b9.mono (by omega))
            clear hAd s8 r8 B8 b9
            obtain ⟨va, vc, ev⟩ := shapeK3 s9.own
            subst ev
            have k9 := s9.rf.at_ 1 _ rfl
            obtain ⟨n, hnn⟩ : ∃ n, (insL (rsF l p) (pe (rsF l p) (p, 0, m, i)) (p, 0, m, i)).length = n := ⟨_, rfl⟩
            have o9 := s9.own
            rw [hnn] at k9 o9
            have HN : Hid ((rsU l p m i).length = n) := by show _ = _; rw [HU.out]; exact hnn
            rw [← HU.out] at o9
            clear s9 hnn
            have c0 := r9.at_ 0 _ rfl
            have c1 := r9.at_ 1 _ rfl
            have c2 := r9.at_ 2 _ rfl
            have f0 := r9.fz 0
            have f1 := r9.fz 1
            have f2 := r9.fz 2
            have RV := ((r9.set (o := 0) (by simp) (.int .i64 0)).set (o := 1) (by simp) (.int .i64 0)).set (o := 2) (by simp) (.slice va n vc)
            have BV := ((B9.setCell (p := ⟨b + 1, 0, none⟩) (by show b ≤ b + 1; omega) (.int .i64 0)).setCell (p := ⟨b + 1, 1, none⟩) (by show b ≤ b + 1; omega) (.int .i64 0)).setCell (p := ⟨b + 1, 2, none⟩) (by show b ≤ b + 1; omega) (.slice va n vc)
            have oV := (ownMonoF o9 (b := b) (by omega)).kept (grownTrans (grownTrans (grownSet _ (b + 1) 0 (.int .i64 0)) (grownSet _ (b + 1) 1 (.int .i64 0))) (grownSet _ (b + 1) 2 (.slice va n vc))) (blockCases _ _ fun j q1 q2 => by cases q2; have := (o9.lt _ q1).1; omega)
            obtain ⟨V, hV⟩ : ∃ V, ((w9.setCell ⟨b + 1, 0, none⟩ (.int .i64 0)).setCell ⟨b + 1, 1, none⟩ (.int .i64 0)).setCell ⟨b + 1, 2, none⟩ (.slice va n vc) = V := ⟨_, rfl⟩
            rw [hV] at RV BV oV
            have HV : Hid (_ = V) := hV
            have v0 := RV.at_ 0 _ rfl
            have v1 := RV.at_ 1 _ rfl
            have v2 := RV.at_ 2 _ rfl
            clear hV RV r9 B9 o9
            go_wp2
            rw [HV.out]
            refine bodyPost_ret (v := .agg #[.int .i64 0, .int .i64 0, .slice va n vc]) (by simp [results, Tryd.results6, go_sem, v0, v1, v2]) rfl ?_
            have E9 : EP 0 0 (rsU l p m i) w (.returned (.agg #[.int .i64 0, .int .i64 0, .slice va n vc])) V := ep_of HB.out (by rw [HN.out]; exact oV) BV
            rw [HR.out.1, HR.out.2]
            exact E9
  · have HC : Hid (rsC l p m i = ixf l ∧ rsL l p m i = []) := rs_bad h0
    have q : (ixf l != 0) = true := by simpa using h0
    obtain ⟨R, hRe⟩ : ∃ R, ixf l = R := ⟨_, rfl⟩
    rw [hRe] at hA q HC
    clear h0 hRe
    go_enter Tryd.func6, Tryd.ntmps6
    go_wp2_with fail
    refine hA.mono ?_
    clear hA hW1 hb za h
    rintro e w2 ⟨rfl, b2⟩
    have B2 : Below b w w2 := b1.trans (b2.mono (by omega))
    have r2 := r1.below (by omega) b2
    clear r1 p1 b2 b1 h1
    have c0 := r2.at_ 0 _ rfl
    have c1 := r2.at_ 1 _ rfl
    have c2 := r2.at_ 2 _ rfl
    have f0 := r2.fz 0
    have f1 := r2.fz 1
    have f2 := r2.fz 2
    have RV := ((r2.set (o := 0) (by simp) (.int .i64 R)).set (o := 1) (by simp) (.int .i64 0)).set (o := 2) (by simp) (.slice none 0 0)
    have BV := ((B2.setCell (p := ⟨b + 1, 0, none⟩) (by show b ≤ b + 1; omega) (.int .i64 R)).setCell (p := ⟨b + 1, 1, none⟩) (by show b ≤ b + 1; omega) (.int .i64 0)).setCell (p := ⟨b + 1, 2, none⟩) (by show b ≤ b + 1; omega) (.slice none 0 0)
    obtain ⟨V, hV⟩ : ∃ V, ((w2.setCell ⟨b + 1, 0, none⟩ (.int .i64 R)).setCell ⟨b + 1, 1, none⟩ (.int .i64 0)).setCell ⟨b + 1, 2, none⟩ (.slice none 0 0) = V := ⟨_, rfl⟩
    rw [hV] at RV BV
    have HV : Hid (_ = V) := hV
    have v0 := RV.at_ 0 _ rfl
    have v1 := RV.at_ 1 _ rfl
    have v2 := RV.at_ 2 _ rfl
    clear hV RV r2 B2
    go_wp2
    rw [HV.out]
    refine bodyPost_ret (v := .agg #[.int .i64 R, .int .i64 0, .slice none 0 0]) (by simp [results, Tryd.results6, go_sem, v0, v1, v2]) rfl ?_
    rw [HC.out.1, HC.out.2]
    exact ep_of HB.out (nilE _ _) BV
end Go.Proofs.YtipdebodanhooaaDoor.En
