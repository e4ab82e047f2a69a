/- SwapStages of the specification. No statement is proved here. -/
import Derived.Test.YtipdebodanhooaaDoorRows
import Derived.Test.YtipdebodanhooaaDoorLemQ
import Derived.Test.YtipdebodanhooaaDoorDTabQ
import Derived.Test.YtipdebodanhooaaDoorHkTQ
import Derived.Test.YtipdebodanhooaaDoorWvCQ
import Derived.Test.YtipdebodanhooaaDoorFmCQ
import Derived.Test.YtipdebodanhooaaDoorFlLQ
import Derived.Test.YtipdebodanhooaaDoorFfCQ
import Derived.Test.YtipdebodanhooaaDoorFfIQ
import Derived.Test.YtipdebodanhooaaDoorFfSQ
import Derived.Test.YtipdebodanhooaaDoorEnLQ
import Derived.Test.YtipdebodanhooaaDoorIxMQ
import Derived.Test.YtipdebodanhooaaDoorIxNQ
import Derived.Test.YtipdebodanhooaaDoorIxOQ
import Derived.Test.YtipdebodanhooaaDoorSgCQ
import Derived.Test.YtipdebodanhooaaDoorSlBQ
import Derived.Test.YtipdebodanhooaaDoorSlDQ
import Derived.Test.YtipdebodanhooaaDoorIxIQ
import Derived.Test.YtipdebodanhooaaDoorCpKQ
import Derived.Test.YtipdebodanhooaaDoorInEQ
import Derived.Test.YtipdebodanhooaaDoorSlEQ
import Derived.Test.YtipdebodanhooaaDoorSwMQ
import Derived.Test.YtipdebodanhooaaDoorSwCQ
import Derived.Test.YtipdebodanhooaaDoorIxSQ
import Derived.WalkKit
import Derived.ProofKit
import Derived.Below
import Derived.WalkSpells
import Derived.Deep.QuietTactic
import Derived.BigQuiet
import Derived.Deep.RegionWith
import Derived.Deep.RegionHeld
import Derived.Deep.CutRange
import Derived.Maps.AppendAt
import Derived.Laws.Cover1
import Derived.Laws.BitsLemmas
set_option linter.unusedVariables false
namespace Go.Proofs.YtipdebodanhooaaDoor.En
open Go.ChangeShapes Go.WideShapes Go.ChangeAt Go.RowKit
theorem neSE (n : Nat) : some (n + 1) ≠ (Value.slice (some ⟨n, 0, none⟩) 0 0).ownBlock := fun e => by
  have : n + 1 = n := Option.some.inj e
  omega
theorem neTE (n : Nat) : some n ≠ (Value.slice (some ⟨n + 1, 0, none⟩) 0 0).ownBlock := fun e => by
  have : n = n + 1 := Option.some.inj e
  omega
theorem newsKeepE {w w' : World} {row : Option Nat} {g o : Nat} {xs : List Value} (hg : w.grownBy w' row) (hne : some g ≠ row) (h : ∀ j u, xs[j]? = some u → w.cell? ((⟨g, o, none⟩ : Addr).add j) = some u) : ∀ j u, xs[j]? = some u → w'.cell? ((⟨g, o, none⟩ : Addr).add j) = some u := fun j u hu => by
  have q := h j u hu
  rw [add_plain] at q ⊢
  exact hg.cell q hne
theorem newsBelowE {w w' : World} {g o : Nat} {xs : List Value} (hb : Below w.heap.size w w') (h : ∀ j u, xs[j]? = some u → w.cell? ((⟨g, o, none⟩ : Addr).add j) = some u) : ∀ j u, xs[j]? = some u → w'.cell? ((⟨g, o, none⟩ : Addr).add j) = some u := fun j u hu => by
  have q := h j u hu
  rw [add_plain] at q ⊢
  exact zS hb q
theorem zaddE {w : World} {base : Nat} {t : TypeId} {k : Nat} {v : Value} {n : Nat} {xs : List Value} (h : w.ownsRow base t k v (0 + n) ([] ++ xs)) : w.ownsRow base t k v n xs := by rw [Nat.zero_add, List.nil_append] at h; exact h
theorem ocells_atE (l : List Ob) (j : Nat) (h : j < l.length * 4) : (ocells l)[j]? = some (ocell l j) := rowG_at _ _ _ h
theorem ocells_ltE {l : List Ob} {j : Nat} {u : Value} (h : (ocells l)[j]? = some u) : j < l.length * 4 := by
  have := (List.getElem?_eq_some_iff.1 h).1
  rw [ocells_length] at this
  exact this
theorem OB.cellJ {B g off : Nat} {w : World} {l : List Ob} (h : OB B w (some ⟨g, off, none⟩) l) (j : Nat) (hj : j < l.length * 4) : w.cell? ⟨g, off + j, none⟩ = some (ocell l j) := by
  obtain ⟨g', off', e, _, c0, c1, c2, c3⟩ := h (j / 4) (by omega)
  simp only [Option.some.injEq, Addr.mk.injEq, and_true] at e
  obtain ⟨rfl, rfl⟩ := e
  unfold ocell
  by_cases q0 : j % 4 = 0
  · rw [if_pos q0, ← c0, show off + j / 4 * 4 = off + j by omega]
  · rw [if_neg q0]
    by_cases q1 : j % 4 = 1
    · rw [if_pos q1, ← c1, show off + j / 4 * 4 + 1 = off + j by omega]
    · rw [if_neg q1]
      by_cases q2 : j % 4 = 2
      · rw [if_pos q2, ← c2, show off + j / 4 * 4 + 2 = off + j by omega]
      · rw [if_neg q2, ← c3, show off + j / 4 * 4 + 3 = off + j by omega]
theorem newsTakeE {B g : Nat} {w : World} {l : List Ob} (h : OB B w (some ⟨g, 0, none⟩) l) (n : Nat) (hn : n ≤ l.length) : ∀ j u, (ocells (l.take n))[j]? = some u → w.cell? ((⟨g, 0, none⟩ : Addr).add j) = some u := by
  intro j u hu
  have hj := ocells_ltE hu
  rw [List.length_take] at hj
  have e : ocells l = ocells (l.take n) ++ ocells (l.drop n) := by rw [← ocells_app, List.take_append_drop]
  have h2 : (ocells l)[j]? = some u := by rw [e, List.getElem?_append_left (by rw [ocells_length, List.length_take]; omega)]; exact hu
  rw [add_plain, h.cellJ j (by omega), ← h2, ocells_atE l j (by omega)]
theorem newsDropE {B g : Nat} {w : World} {l : List Ob} (h : OB B w (some ⟨g, 0, none⟩) l) (n : Nat) (hn : n ≤ l.length) : ∀ j u, (ocells (l.drop n))[j]? = some u → w.cell? ((⟨g, n * 4, none⟩ : Addr).add j) = some u := by
  intro j u hu
  have hj := ocells_ltE hu
  rw [List.length_drop] at hj
  have e : ocells l = ocells (l.take n) ++ ocells (l.drop n) := by rw [← ocells_app, List.take_append_drop]
  have hl : (ocells (l.take n)).length = n * 4 := by rw [ocells_length, List.length_take]; omega
  have h2 : (ocells l)[n * 4 + j]? = some u := by rw [e, List.getElem?_append_right (by rw [hl]; omega), hl, show n * 4 + j - n * 4 = j by omega]; exact hu
  have h3 := h.cellJ (n * 4 + j) (by omega)
  rw [Nat.zero_add] at h3
  rw [add_plain, h3, ← h2, ocells_atE l _ (by omega)]
theorem cmE_irr (a : Ob) : ¬ cmE a a < 0 := fun h => by
  rcases cmE_lt.1 h with q | q
  · have := cmB_zero.2 (rfl : a.1 = a.1); omega
  · omega
theorem gt_form (a b : ByteArray) : (!Op.bytesLess a.toList b.toList && !a.toList == b.toList) = Op.bytesLess b.toList a.toList := by
  rcases cmB_cases a b with ⟨h1, h2, h3⟩ | ⟨h1, h2⟩ | ⟨h1, h2, h3⟩
  · rw [h2]
    cases q : Op.bytesLess b.toList a.toList with
    | false => rfl
    | true =>
      have h9 := byL_trans _ _ _ h2 q
      rw [byL_irr] at h9
      cases h9
  · subst h2
    rw [byL_irr]
    simp
  · rw [h2, h3]
    have h9 : cmB b a < 0 := by rw [cm_anti _ _ h1]; omega
    rw [cmB_lt.1 h9]
    rfl
/-- What l10Put answers. -/
def PutP (L : List Ob) (w : World) (e : Ending) (w' : World) : Prop := ∃ tg tc, e = .returned (.slice (some ⟨tg, 0, none⟩) L.length tc) ∧ w'.ownsRow w.heap.size 62 4 (.slice (some ⟨tg, 0, none⟩) L.length tc) L.length (ocells L) ∧ Below w.heap.size w w'
theorem put_place {T : List Ob} {E : Ob} (hr : Rise T) (ha : Apart T E) {k : Nat} (hk : k ≤ T.length) (hup : ∀ j, k ≤ j → j < T.length → cmE E (T.getD j onil) < 0) (hlo : 0 < k → ¬ cmE E (T.getD (k - 1) onil) < 0) : pe T E = k := by
  refine cuts_one (pe_cuts hr E) ⟨hk, fun j hj => ?_, fun j h1 h2 => ?_⟩
  · have h0 : cmE (T.getD (k - 1) onil) E < 0 := by
      rcases Int.lt_or_le (cmE (T.getD (k - 1) onil) E) 0 with q | q
      · exact q
      · exact absurd (cmE_gt (by have := ha (k - 1) (by omega); omega)) (hlo (by omega))
    by_cases e : j = k - 1
    · rw [e]; exact h0
    · exact cmE_trans (hr j (k - 1) (by omega) (by omega)) h0
  · rcases Int.lt_or_le (cmE (T.getD j onil) E) 0 with q | q
    · exact absurd (cmE_trans (hup j h1 h2) q) (cmE_irr _)
    · exact q
set_option maxRecDepth 20000 in
set_option maxHeartbeats 4000000 in
theorem l10PutC (g c : Nat) (T : List Ob) (E : Ob) (w : World) (h : OB w.heap.size w (some ⟨g, 0, none⟩) T) (hg : g < w.heap.size) (hc : T.length ≤ c) (hn : T.length ≤ 1048575) (hr : Rise T) (ha : Apart T E) :
    Calls Tryd.prog 61 #[.slice (some ⟨g, 0, none⟩) T.length c, .agg #[.string E.1, .int .i64 E.2.1, .int .i64 E.2.2.1, .string E.2.2.2]] w fun e w' => PutP (insL T (pe T E) E) w e w' := by
  have hpl : Hid (∀ k, k ≤ T.length → (∀ j, k ≤ j → j < T.length → cmE E (T.getD j onil) < 0) → (0 < k → ¬ cmE E (T.getD (k - 1) onil) < 0) → pe T E = k) := fun k hk hup hlo => put_place hr ha hk hup hlo
  obtain ⟨x0, x1, x2, x3⟩ := E
  simp only []
  obtain ⟨W, hW⟩ : ∃ W, w.alloc (.cells #[.string x0, .int .i64 x1, .int .i64 x2, .string x3] 62) = W := ⟨_, rfl⟩
  have bW : Below w.heap.size w W := by rw [← hW]; exact allocBelow _ _
  have oW : Rf W w.heap.size [.string x0, .int .i64 x1, .int .i64 x2, .string x3] := by rw [← hW]; exact Rf.new _ _ _
  have zW : w.heap.size < W.heap.size := by rw [← hW]; simp
  have h1 := h.below bW
  obtain ⟨q0, hq0⟩ : ∃ q, w.heap.size = q := ⟨_, rfl⟩
  rw [hq0] at oW h1 zW hg
  clear hr ha h
  go_enter Tryd.func61, Tryd.ntmps61
  go_wp2
  clear hW
  go_loopw [5] (fun i wr => ∃ k : Nat, k ≤ T.length ∧ i = .int .i64 k ∧ Below W.heap.size W wr ∧ Hid (∀ j, k ≤ j → j < T.length → cmE (x0, x1, x2, x3) (T.getD j onil) < 0)) (fun i _ => (intOf i).toNat)
  case atStart => exact ⟨T.length, Nat.le_refl _, rfl, Below.refl _ _, fun j h1 h2 => absurd h2 (by omega)⟩
  case round =>
    obtain ⟨k, hk, rfl, hbel, hup⟩ := hrel
    have hkl := hk
    have hsz := hbel.size
    have o2 := oW.below zW hbel
    have y0 := o2.at_ 0 _ rfl
    have y1 := o2.at_ 1 _ rfl
    have y2 := o2.at_ 2 _ rfl
    have y3 := o2.at_ 3 _ rfl
    have O4 : OB q0 wr (some ⟨g, 0, none⟩) T := h1.below hbel
    obtain ⟨Gb, hGb⟩ : ∃ G, decide (0 < k ∧ cmE (x0, x1, x2, x3) (T.getD (k - 1) onil) < 0) = G := ⟨_, rfl⟩
    have HG : Hid (decide (0 < k ∧ cmE (x0, x1, x2, x3) (T.getD (k - 1) onil) < 0) = Gb) := hGb
    clear hGb
    go_wp2_with fail
    go_cut [42] from 8 to 42 (fun s wx => s = .bool Gb ∧ Below wr.heap.size wr wx)
    case first =>
      have BN : ∀ n, Below wr.heap.size wr (wr.drewN n) := fun n => ⟨rfl, rfl, rfl, Nat.le_refl _, fun _ _ => rfl⟩
      clear hpl hup h1 oW o2 hbel bW y2 y3
      rcases Nat.eq_zero_or_pos k with rfl | hpos
      · have hG0 : Gb = false := by rw [← HG.out]; simp
        subst hG0
        clear O4 HG
        go_quiet (fail)
        all_goals (go_wp2_with fail; go_meet; exact ⟨rfl, BN _⟩)
      · obtain ⟨m, rfl⟩ : ∃ m, k = m + 1 := ⟨k - 1, by omega⟩
        obtain ⟨g', off', e, _, d0, d1, _, _⟩ := O4 m (by omega)
        simp only [Option.some.injEq, Addr.mk.injEq, and_true] at e
        obtain ⟨rfl, rfl⟩ := e
        rw [Nat.zero_add] at d0 d1
        have hG1 := HG.out
        rw [Nat.add_sub_cancel] at hG1
        have i1 : (0 : Int) < (m : Int) + 1 := by omega
        have i2 : IntKind.i64.wrap ((m : Int) + 1 - 1) = (m : Int) := by rw [IntKind.wrap_i64]; omega
        have i3 : IntKind.i64.wrap (m : Int) = (m : Int) := by rw [IntKind.wrap_i64]; omega
        have i4 : (m : Int) < (T.length : Int) := by omega
        have i5 : ¬ (m : Int) < 0 := by omega
        obtain ⟨C, hC⟩ : ∃ C, T.getD m onil = C := ⟨_, rfl⟩
        obtain ⟨a0, a1, a2, a3⟩ := C
        rw [hC] at d0 d1 hG1
        simp only [] at d0 d1
        clear hC O4 HG
        by_cases b1 : Op.bytesLess x0.toList a0.toList = true
        · have hG2 : Gb = true := by rw [← hG1]; exact decide_eq_true ⟨hpos, cmE_lt.2 (.inl (cmB_lt.2 b1))⟩
          subst hG2
          have hgt : (!Op.bytesLess a0.toList x0.toList && !a0.toList == x0.toList) = true := (gt_form a0 x0).trans b1
          clear hG1
          go_quiet (fail)
          all_goals (go_wp2_with fail; go_meet; exact ⟨rfl, BN _⟩)
        · have b2 : Op.bytesLess x0.toList a0.toList = false := by simpa using b1
          have hgt : (!Op.bytesLess a0.toList x0.toList && !a0.toList == x0.toList) = false := (gt_form a0 x0).trans b2
          by_cases b3 : a0 = x0
          · subst b3
            have b4 := beq_bytes_true (rfl : a0 = a0)
            by_cases b5 : x1 < a1
            · have hG2 : Gb = true := by rw [← hG1]; exact decide_eq_true ⟨hpos, cmE_lt.2 (.inr ⟨rfl, b5⟩)⟩
              subst hG2
              clear hG1
              go_quiet (fail)
              all_goals (go_wp2_with fail; go_meet; exact ⟨rfl, BN _⟩)
            · have hG2 : Gb = false := by
                rw [← hG1]
                refine decide_eq_false fun c => ?_
                rcases cmE_lt.1 c.2 with q | q
                · have := cmB_zero.2 (rfl : a0 = a0); have : cmB a0 a0 < 0 := q; omega
                · exact b5 q.2
              subst hG2
              clear hG1
              go_quiet (fail)
              all_goals (go_wp2_with fail; go_meet; exact ⟨rfl, BN _⟩)
          · have b4 := beq_bytes_false b3
            have hL2 : Op.bytesLess a0.toList x0.toList = true := by rw [b4] at hgt; simpa using hgt
            have hG2 : Gb = false := by
              rw [← hG1]
              refine decide_eq_false fun c => ?_
              rcases cmE_lt.1 c.2 with q | q
              · exact b1 (cmB_lt.1 q)
              · exact b3 q.1.symm
            subst hG2
            clear hG1
            go_quiet (fail)
            all_goals (go_wp2_with fail; go_meet; exact ⟨rfl, BN _⟩)
    case rest =>
    obtain ⟨rfl, hbC⟩ := hcut
    have B9 := hbel.trans (hbC.mono hsz)
    have HGo := HG.out
    cases Gb with
    | true =>
      have hgo := of_decide_eq_true HGo
      obtain ⟨m, rfl⟩ : ∃ m, k = m + 1 := ⟨k - 1, by omega⟩
      have i2 : IntKind.i64.wrap ((m : Int) + 1 - 1) = (m : Int) := by rw [IntKind.wrap_i64]; omega
      have i3 : IntKind.i64.wrap (m : Int) = (m : Int) := by rw [IntKind.wrap_i64]; omega
      have HU : Hid (∀ j, m ≤ j → j < T.length → cmE (x0, x1, x2, x3) (T.getD j onil) < 0) := fun j q1 q2 => by
        by_cases e : j = m
        · rw [e]; have h9 := hgo.2; rw [Nat.add_sub_cancel] at h9; exact h9
        · exact hup.out j (by omega) q2
      have HBB : Hid (Below W.heap.size W wc) := B9
      clear HGo HG hgo hup hpl h1 oW o2 y0 y1 y2 y3 O4 hbel hbC B9 bW
      go_wp2
      go_roundw
      case rel => exact ⟨m, by omega, by go_num, HBB.out, HU⟩
      case measure => first | (simp [intOf]; omega) | simp [intOf]
    | false =>
      have hK : Hid (pe T (x0, x1, x2, x3) = k) := hpl.out k hk hup.out (fun q1 => by
        rcases Int.lt_or_le (cmE (x0, x1, x2, x3) (T.getD (k - 1) onil)) 0 with q2 | q2
        · exact absurd ⟨q1, q2⟩ (of_decide_eq_false HGo)
        · first | exact q2 | exact (by omega))
      have OC := O4.below hbC
      have BW : Below q0 w wc := by rw [← hq0]; exact bW.trans (B9.mono bW.size)
      have o3 := o2.below (by omega) hbC
      have y0 := o3.at_ 0 _ rfl
      have y1 := o3.at_ 1 _ rfl
      have y2 := o3.at_ 2 _ rfl
      have y3 := o3.at_ 3 _ rfl
      have zq : q0 < wc.heap.size := by have := hbC.size; omega
      clear HGo HG hup hpl h1 oW o2 o3 O4 hbel hbC B9 bW
      have qkc : (k : Int) ≤ (c : Int) := by omega
      have qkl : (k : Int) ≤ (T.length : Int) := by omega
      have qn0 : (0 : Int) ≤ (k : Int) := by omega
      obtain ⟨i0, hi, hz0, hz1, hz2⟩ := info_parts infoObj
      obtain ⟨z, hzz⟩ : ∃ z, wc.heap.size = z := ⟨_, rfl⟩
      have hbz : q0 ≤ z := by omega
      have hqz : q0 < z := by omega
      have hgz : g < z := by omega
      have neX : ∀ {W : World} {v : Value} {n : Nat} {xs : List Value} (h : W.ownsRow z 62 4 v n xs), some g ≠ v.ownBlock := fun h e => by have := (h.lt g e.symm).1; omega
      have neQ : ∀ {W : World} {v : Value} {n : Nat} {xs : List Value} (h : W.ownsRow z 62 4 v n xs), some q0 ≠ v.ownBlock := fun h e => by have := (h.lt q0 e.symm).1; omega
      have bA := allocBelow wc (.cells #[] 62)
      have bAB := allocBelow (wc.alloc (.cells #[] 62)) (.cells #[.string x0, .int .i64 x1, .int .i64 x2, .string x3] 62)
      have bC := allocBelow wc (.cells #[.string x0, .int .i64 x1, .int .i64 x2, .string x3] 62)
      have bBA := allocBelow (wc.alloc (.cells #[.string x0, .int .i64 x1, .int .i64 x2, .string x3] 62)) (.cells #[] 62)
      have bA2 : Below wc.heap.size wc ((wc.alloc (.cells #[] 62)).alloc (.cells #[.string x0, .int .i64 x1, .int .i64 x2, .string x3] 62)) := bA.trans (bAB.mono bA.size)
      have bC2 : Below wc.heap.size wc ((wc.alloc (.cells #[.string x0, .int .i64 x1, .int .i64 x2, .string x3] 62)).alloc (.cells #[] 62)) := bC.trans (bBA.mono bC.size)
      have oA0 : (wc.alloc (.cells #[] 62)).ownsRow z 62 4 (.slice (some ⟨z, 0, none⟩) 0 0) 0 [] := by rw [← hzz]; exact World.ownsRow_made wc #[] 0 (Nat.le_refl _) (by unfold maxLen; omega) rfl
      have oA : (wc.alloc (.cells #[] 62)).drew.ownsRow z 62 4 (.slice (some ⟨z, 0, none⟩) 0 0) 0 [] := oA0.drew
      have oAB : ((wc.alloc (.cells #[] 62)).alloc (.cells #[.string x0, .int .i64 x1, .int .i64 x2, .string x3] 62)).drew.ownsRow z 62 4 (.slice (some ⟨z, 0, none⟩) 0 0) 0 [] := (oA0.kept (grownOfBelow bAB none) (blockCases _ _ fun b c1 c2 => by cases c2)).drew
      have oBA : ((wc.alloc (.cells #[.string x0, .int .i64 x1, .int .i64 x2, .string x3] 62)).alloc (.cells #[] 62)).drew.ownsRow z 62 4 (.slice (some ⟨z + 1, 0, none⟩) 0 0) 0 [] := by
        have h9 := World.ownsRow_made (base := z + 1) (e := 62) (size := 4) (wc.alloc (.cells #[.string x0, .int .i64 x1, .int .i64 x2, .string x3] 62)) #[] 0 (by rw [World.size_alloc, hzz]; exact Nat.le_refl _) (by unfold maxLen; omega) rfl
        rw [World.size_alloc, hzz] at h9
        exact (ownMonoF h9 (by omega)).drew
      have zA : z ≤ (wc.alloc (.cells #[] 62)).drew.heap.size := by rw [← hzz]; exact bA.size
      have zAB : z ≤ ((wc.alloc (.cells #[] 62)).alloc (.cells #[.string x0, .int .i64 x1, .int .i64 x2, .string x3] 62)).drew.heap.size := by rw [← hzz]; exact bA2.size
      have zBA : z ≤ ((wc.alloc (.cells #[.string x0, .int .i64 x1, .int .i64 x2, .string x3] 62)).alloc (.cells #[] 62)).drew.heap.size := by rw [← hzz]; exact bC2.size
      have BA : Below q0 w (wc.alloc (.cells #[] 62)).drew := (BW.trans (bA.mono (by omega))).drew
      have BAB : Below q0 w ((wc.alloc (.cells #[] 62)).alloc (.cells #[.string x0, .int .i64 x1, .int .i64 x2, .string x3] 62)).drew := (BW.trans (bA2.mono (by omega))).drew
      have BBA : Below q0 w ((wc.alloc (.cells #[.string x0, .int .i64 x1, .int .i64 x2, .string x3] 62)).alloc (.cells #[] 62)).drew := (BW.trans (bC2.mono (by omega))).drew
      have y0A : (wc.alloc (.cells #[] 62)).drew.cell? ⟨q0, 0, none⟩ = some (.string x0) := zS bA.drew y0
      have y1A : (wc.alloc (.cells #[] 62)).drew.cell? ⟨q0, 1, none⟩ = some (.int .i64 x1) := zS bA.drew y1
      have y2A : (wc.alloc (.cells #[] 62)).drew.cell? ⟨q0, 2, none⟩ = some (.int .i64 x2) := zS bA.drew y2
      have y3A : (wc.alloc (.cells #[] 62)).drew.cell? ⟨q0, 3, none⟩ = some (.string x3) := zS bA.drew y3
      have yD0 : wc.drew.cell? ⟨q0, 0, none⟩ = some (.string x0) := y0
      have yD1 : wc.drew.cell? ⟨q0, 1, none⟩ = some (.int .i64 x1) := y1
      have yD2 : wc.drew.cell? ⟨q0, 2, none⟩ = some (.int .i64 x2) := y2
      have yD3 : wc.drew.cell? ⟨q0, 3, none⟩ = some (.string x3) := y3
      have nA := newsTakeE (OC.below bA.drew) k hkl
      have nAB := newsTakeE (OC.below bA2.drew) k hkl
      have nBA := newsTakeE (OC.below bC2.drew) k hkl
      have cAB : ∀ j u, (ocells [(x0, x1, x2, x3)])[j]? = some u → ((wc.alloc (.cells #[] 62)).alloc (.cells #[.string x0, .int .i64 x1, .int .i64 x2, .string x3] 62)).drew.cell? ((⟨z + 1, 0, none⟩ : Addr).add j) = some u := by
        have h9 := newE (wc.alloc (.cells #[] 62)) (x0, x1, x2, x3)
        rw [World.size_alloc, hzz] at h9
        exact h9
      have cBA : ∀ j u, (ocells [(x0, x1, x2, x3)])[j]? = some u → ((wc.alloc (.cells #[.string x0, .int .i64 x1, .int .i64 x2, .string x3] 62)).alloc (.cells #[] 62)).drew.cell? ((⟨z, 0, none⟩ : Addr).add j) = some u := by
        have h9 := newE wc (x0, x1, x2, x3)
        rw [hzz] at h9
        exact newsBelowE bBA.drew h9
      have hlt : (ocells (T.take k)).length = k * 4 := by rw [ocells_length, List.length_take]; omega
      have hld : (ocells (T.drop k)).length = (T.length - k) * 4 := by rw [ocells_length, List.length_drop]
      by_cases hcc : k = c
      · have e0 : T.drop k = [] := List.drop_eq_nil_of_le (by omega)
        have nD : ∀ (W : World) i u, (ocells (T.drop k))[i]? = some u → W.cell? ((⟨g, 0, none⟩ : Addr).add i) = some u := fun W i u hu => by
          have := ocells_ltE hu
          rw [e0] at this
          simp at this
        have hld0 : (ocells (T.drop k)).length = 0 * 4 := by rw [e0]; rfl
        have nDA := nD (wc.alloc (.cells #[] 62)).drew
        have nDB := nD ((wc.alloc (.cells #[] 62)).alloc (.cells #[.string x0, .int .i64 x1, .int .i64 x2, .string x3] 62)).drew
        have nDC := nD ((wc.alloc (.cells #[.string x0, .int .i64 x1, .int .i64 x2, .string x3] 62)).alloc (.cells #[] 62)).drew
        subst hcc
        clear nD e0 bA bAB bC bBA bA2 bC2 oA0 OC BW
        go_wp2_with fail
        go_region_law (first
            | (have gd := p5; clear gd; refine stepApp rfl (.tmp 52) (.tmp 55) 24 rfl z 62 i0 (.agg #[.string ⟨#[]⟩, .int .i64 0, .int .i64 0, .string ⟨#[]⟩]) 4 48 Tryd.underlying24 hi hz0 hz1 hz2 rfl (by decide) (.slice ua (k + 1) uc) _ _ rfl p5 ⟨g, 0, none⟩ 0 _ (ocells (T.drop k)) rfl hld0 D5 (oneE _) (by unfold maxLen; omega) (by omega) z5 ?_; intro v7 w7 p7 g7 _; have B7 := B5.grown g7 (Nat.le_trans hbz z5) (fun i hi => Nat.le_trans hbz (p5.lt i hi).1))
            | (have gd := mkA; clear gd; refine stepApp rfl (.tmp 49) (.tmp 51) 24 rfl z 62 i0 (.agg #[.string ⟨#[]⟩, .int .i64 0, .int .i64 0, .string ⟨#[]⟩]) 4 48 Tryd.underlying24 hi hz0 hz1 hz2 rfl (by decide) (.slice va k vc) _ _ rfl pB ⟨w3.heap.size, 0, none⟩ 1 _ (ocells [(x0, x1, x2, x3)]) rfl (ocells_length _) nB (oneE _) (by unfold maxLen; omega) (by omega) zB ?_; intro v5 w5 p5 g5 _; obtain ⟨ua, uc, rfl⟩ := shapeK3 p5; have z5 := Nat.le_trans zB g5.size; have B5 := B4.grown g5 (Nat.le_trans hbz zB) (fun i hi => Nat.le_trans hbz (pB.lt i hi).1); have D5 := newsKeepE g5 (neX pB) D4)
            | (have gd := mkB; clear gd; refine stepApp rfl (.tmp 49) (.tmp 51) 24 rfl z 62 i0 (.agg #[.string ⟨#[]⟩, .int .i64 0, .int .i64 0, .string ⟨#[]⟩]) 4 48 Tryd.underlying24 hi hz0 hz1 hz2 rfl (by decide) (.slice va k vc) _ _ rfl p3 ⟨z + 1, 0, none⟩ 1 _ (ocells [(x0, x1, x2, x3)]) rfl (ocells_length _) nC (oneE _) (by unfold maxLen; omega) (by omega) zC ?_; intro v5 w5 p5 g5 _; obtain ⟨ua, uc, rfl⟩ := shapeK3 p5; have z5 := Nat.le_trans zC g5.size; have B5 := B3.grown g5 (Nat.le_trans hbz zC) (fun i hi => Nat.le_trans hbz (p3.lt i hi).1); have D5 := newsKeepE g5 (neX p3) D3)
            | (have gd := mkC; clear gd; refine stepApp rfl (.tmp 49) (.tmp 51) 24 rfl z 62 i0 (.agg #[.string ⟨#[]⟩, .int .i64 0, .int .i64 0, .string ⟨#[]⟩]) 4 48 Tryd.underlying24 hi hz0 hz1 hz2 rfl (by decide) (.slice va k vc) _ _ rfl p3 ⟨z, 0, none⟩ 1 _ (ocells [(x0, x1, x2, x3)]) rfl (ocells_length _) nE (oneE _) (by unfold maxLen; omega) (by omega) zE ?_; intro v5 w5 p5 g5 _; obtain ⟨ua, uc, rfl⟩ := shapeK3 p5; have z5 := Nat.le_trans zE g5.size; have B5 := B3.grown g5 (Nat.le_trans hbz zE) (fun i hi => Nat.le_trans hbz (p3.lt i hi).1); have D5 := newsKeepE g5 (neX p3) D3)
            | (refine stepApp rfl (.tmp 45) (.tmp 48) 24 rfl z 62 i0 (.agg #[.string ⟨#[]⟩, .int .i64 0, .int .i64 0, .string ⟨#[]⟩]) 4 48 Tryd.underlying24 hi hz0 hz1 hz2 rfl (by decide) (.slice (some ⟨z, 0, none⟩) 0 0) _ _ rfl oA ⟨g, 0, none⟩ k _ (ocells (T.take k)) rfl hlt nA (oneE _) (by unfold maxLen; omega) (by omega) zA ?_; intro v3 w3 p3 g3' _; replace p3 := zaddE p3; obtain ⟨va, vc, rfl⟩ := shapeK3 p3; have mkA := p3; have zz3 := g3'.size; have B3 := BA.grown g3' (Nat.le_trans hbz zA) (fun i hi => Nat.le_trans hbz (oA.lt i hi).1); have D3 := newsKeepE g3' (neX oA) nDA; have y0 := g3'.cell y0A (neQ oA); have y1 := g3'.cell y1A (neQ oA); have y2 := g3'.cell y2A (neQ oA); have y3 := g3'.cell y3A (neQ oA); have pB := p3.kept (grownOfBelow (allocBelow w3 (.cells #[.string x0, .int .i64 x1, .int .i64 x2, .string x3] 62)) none) (blockCases _ _ fun b c1 c2 => by cases c2); have nB := newE w3 (x0, x1, x2, x3); have zB : z ≤ (w3.alloc (.cells #[.string x0, .int .i64 x1, .int .i64 x2, .string x3] 62)).heap.size := Nat.le_trans (Nat.le_trans zA zz3) (allocBelow w3 (.cells #[.string x0, .int .i64 x1, .int .i64 x2, .string x3] 62)).size; have B4 := B3.trans ((allocBelow w3 (.cells #[.string x0, .int .i64 x1, .int .i64 x2, .string x3] 62)).mono (Nat.le_trans hbz (Nat.le_trans zA zz3))); have D4 := newsBelowE (allocBelow w3 (.cells #[.string x0, .int .i64 x1, .int .i64 x2, .string x3] 62)) D3)
            | (refine stepApp rfl (.tmp 45) (.tmp 48) 24 rfl z 62 i0 (.agg #[.string ⟨#[]⟩, .int .i64 0, .int .i64 0, .string ⟨#[]⟩]) 4 48 Tryd.underlying24 hi hz0 hz1 hz2 rfl (by decide) (.slice (some ⟨z, 0, none⟩) 0 0) _ _ rfl oAB ⟨g, 0, none⟩ k _ (ocells (T.take k)) rfl hlt nAB (oneE _) (by unfold maxLen; omega) (by omega) zAB ?_; intro v3 w3 p3 g3' _; replace p3 := zaddE p3; obtain ⟨va, vc, rfl⟩ := shapeK3 p3; have mkB := p3; have zz3 := g3'.size; have B3 := BAB.grown g3' (Nat.le_trans hbz zAB) (fun i hi => Nat.le_trans hbz (oAB.lt i hi).1); have D3 := newsKeepE g3' (neX oAB) nDB; have nC := newsKeepE (o := 0) g3' (neSE z) cAB; have zC := Nat.le_trans zAB zz3)
            | (refine stepApp rfl (.tmp 45) (.tmp 48) 24 rfl z 62 i0 (.agg #[.string ⟨#[]⟩, .int .i64 0, .int .i64 0, .string ⟨#[]⟩]) 4 48 Tryd.underlying24 hi hz0 hz1 hz2 rfl (by decide) (.slice (some ⟨z + 1, 0, none⟩) 0 0) _ _ rfl oBA ⟨g, 0, none⟩ k _ (ocells (T.take k)) rfl hlt nBA (oneE _) (by unfold maxLen; omega) (by omega) zBA ?_; intro v3 w3 p3 g3' _; replace p3 := zaddE p3; obtain ⟨va, vc, rfl⟩ := shapeK3 p3; have mkC := p3; have zz3 := g3'.size; have B3 := BBA.grown g3' (Nat.le_trans hbz zBA) (fun i hi => Nat.le_trans hbz (oBA.lt i hi).1); have D3 := newsKeepE g3' (neX oBA) nDC; have nE := newsKeepE (o := 0) g3' (neTE z) cBA; have zE := Nat.le_trans zBA zz3))
        all_goals
          replace p7 : w7.ownsRow z 62 4 v7 (k + 1) _ := p7
          have hpos : 0 < k + 1 := by omega
          obtain ⟨tg, tc, rfl⟩ : ∃ tg tc, v7 = .slice (some ⟨tg, 0, none⟩) (k + 1) tc := by
            rcases p7.2 with ⟨_, h0⟩ | ⟨tg, tc, cur, e, _⟩
            · omega
            · exact ⟨tg, tc, e⟩
          have e1 : T.length + 1 = k + 1 := by omega
          have HQ : Hid (PutP (insL T (pe T (x0, x1, x2, x3)) (x0, x1, x2, x3)) w (.returned (.slice (some ⟨tg, 0, none⟩) (k + 1) tc)) w7) := by
            rw [hK.out]
            refine ⟨tg, tc, by rw [insL_length T k (x0, x1, x2, x3) hkl, e1], ?_, by rw [hq0]; exact B7⟩
            have e2 : ocells (insL T k (x0, x1, x2, x3)) = ocells (T.take k) ++ ocells [(x0, x1, x2, x3)] ++ ocells (T.drop k) := by unfold insL; rw [ocells_app, ocells_app, List.append_assoc]
            rw [insL_length T k (x0, x1, x2, x3) hkl, e1, e2]
            exact ownMonoF p7 (by omega)
          clear p7 g7 p5 g5 p3 g3' B7 B5 B3 e1
          go_wp2
          go_ret
          exact HQ.out
      · have qcc : ¬ (c : Int) = (k : Int) := by omega
        have qcn : ¬ c = k := fun e => hcc e.symm
        have nDA := newsDropE (OC.below bA.drew) k hkl
        have nDB := newsDropE (OC.below bA2.drew) k hkl
        have nDC := newsDropE (OC.below bC2.drew) k hkl
        clear bA bAB bC bBA bA2 bC2 oA0 OC BW
        go_wp2_with fail
        go_region_law (first
            | (have gd := p5; clear gd; refine stepApp rfl (.tmp 52) (.tmp 55) 24 rfl z 62 i0 (.agg #[.string ⟨#[]⟩, .int .i64 0, .int .i64 0, .string ⟨#[]⟩]) 4 48 Tryd.underlying24 hi hz0 hz1 hz2 rfl (by decide) (.slice ua (k + 1) uc) _ _ rfl p5 ⟨g, k * 4, none⟩ (T.length - k) _ (ocells (T.drop k)) rfl hld D5 (oneE _) (by unfold maxLen; omega) (by omega) z5 ?_; intro v7 w7 p7 g7 _; have B7 := B5.grown g7 (Nat.le_trans hbz z5) (fun i hi => Nat.le_trans hbz (p5.lt i hi).1))
            | (have gd := mkA; clear gd; refine stepApp rfl (.tmp 49) (.tmp 51) 24 rfl z 62 i0 (.agg #[.string ⟨#[]⟩, .int .i64 0, .int .i64 0, .string ⟨#[]⟩]) 4 48 Tryd.underlying24 hi hz0 hz1 hz2 rfl (by decide) (.slice va k vc) _ _ rfl pB ⟨w3.heap.size, 0, none⟩ 1 _ (ocells [(x0, x1, x2, x3)]) rfl (ocells_length _) nB (oneE _) (by unfold maxLen; omega) (by omega) zB ?_; intro v5 w5 p5 g5 _; obtain ⟨ua, uc, rfl⟩ := shapeK3 p5; have z5 := Nat.le_trans zB g5.size; have B5 := B4.grown g5 (Nat.le_trans hbz zB) (fun i hi => Nat.le_trans hbz (pB.lt i hi).1); have D5 := newsKeepE g5 (neX pB) D4)
            | (have gd := mkB; clear gd; refine stepApp rfl (.tmp 49) (.tmp 51) 24 rfl z 62 i0 (.agg #[.string ⟨#[]⟩, .int .i64 0, .int .i64 0, .string ⟨#[]⟩]) 4 48 Tryd.underlying24 hi hz0 hz1 hz2 rfl (by decide) (.slice va k vc) _ _ rfl p3 ⟨z + 1, 0, none⟩ 1 _ (ocells [(x0, x1, x2, x3)]) rfl (ocells_length _) nC (oneE _) (by unfold maxLen; omega) (by omega) zC ?_; intro v5 w5 p5 g5 _; obtain ⟨ua, uc, rfl⟩ := shapeK3 p5; have z5 := Nat.le_trans zC g5.size; have B5 := B3.grown g5 (Nat.le_trans hbz zC) (fun i hi => Nat.le_trans hbz (p3.lt i hi).1); have D5 := newsKeepE g5 (neX p3) D3)
            | (have gd := mkC; clear gd; refine stepApp rfl (.tmp 49) (.tmp 51) 24 rfl z 62 i0 (.agg #[.string ⟨#[]⟩, .int .i64 0, .int .i64 0, .string ⟨#[]⟩]) 4 48 Tryd.underlying24 hi hz0 hz1 hz2 rfl (by decide) (.slice va k vc) _ _ rfl p3 ⟨z, 0, none⟩ 1 _ (ocells [(x0, x1, x2, x3)]) rfl (ocells_length _) nE (oneE _) (by unfold maxLen; omega) (by omega) zE ?_; intro v5 w5 p5 g5 _; obtain ⟨ua, uc, rfl⟩ := shapeK3 p5; have z5 := Nat.le_trans zE g5.size; have B5 := B3.grown g5 (Nat.le_trans hbz zE) (fun i hi => Nat.le_trans hbz (p3.lt i hi).1); have D5 := newsKeepE g5 (neX p3) D3)
            | (refine stepApp rfl (.tmp 45) (.tmp 48) 24 rfl z 62 i0 (.agg #[.string ⟨#[]⟩, .int .i64 0, .int .i64 0, .string ⟨#[]⟩]) 4 48 Tryd.underlying24 hi hz0 hz1 hz2 rfl (by decide) (.slice (some ⟨z, 0, none⟩) 0 0) _ _ rfl oA ⟨g, 0, none⟩ k _ (ocells (T.take k)) rfl hlt nA (oneE _) (by unfold maxLen; omega) (by omega) zA ?_; intro v3 w3 p3 g3' _; replace p3 := zaddE p3; obtain ⟨va, vc, rfl⟩ := shapeK3 p3; have mkA := p3; have zz3 := g3'.size; have B3 := BA.grown g3' (Nat.le_trans hbz zA) (fun i hi => Nat.le_trans hbz (oA.lt i hi).1); have D3 := newsKeepE g3' (neX oA) nDA; have y0 := g3'.cell y0A (neQ oA); have y1 := g3'.cell y1A (neQ oA); have y2 := g3'.cell y2A (neQ oA); have y3 := g3'.cell y3A (neQ oA); have pB := p3.kept (grownOfBelow (allocBelow w3 (.cells #[.string x0, .int .i64 x1, .int .i64 x2, .string x3] 62)) none) (blockCases _ _ fun b c1 c2 => by cases c2); have nB := newE w3 (x0, x1, x2, x3); have zB : z ≤ (w3.alloc (.cells #[.string x0, .int .i64 x1, .int .i64 x2, .string x3] 62)).heap.size := Nat.le_trans (Nat.le_trans zA zz3) (allocBelow w3 (.cells #[.string x0, .int .i64 x1, .int .i64 x2, .string x3] 62)).size; have B4 := B3.trans ((allocBelow w3 (.cells #[.string x0, .int .i64 x1, .int .i64 x2, .string x3] 62)).mono (Nat.le_trans hbz (Nat.le_trans zA zz3))); have D4 := newsBelowE (allocBelow w3 (.cells #[.string x0, .int .i64 x1, .int .i64 x2, .string x3] 62)) D3)
            | (refine stepApp rfl (.tmp 45) (.tmp 48) 24 rfl z 62 i0 (.agg #[.string ⟨#[]⟩, .int .i64 0, .int .i64 0, .string ⟨#[]⟩]) 4 48 Tryd.underlying24 hi hz0 hz1 hz2 rfl (by decide) (.slice (some ⟨z, 0, none⟩) 0 0) _ _ rfl oAB ⟨g, 0, none⟩ k _ (ocells (T.take k)) rfl hlt nAB (oneE _) (by unfold maxLen; omega) (by omega) zAB ?_; intro v3 w3 p3 g3' _; replace p3 := zaddE p3; obtain ⟨va, vc, rfl⟩ := shapeK3 p3; have mkB := p3; have zz3 := g3'.size; have B3 := BAB.grown g3' (Nat.le_trans hbz zAB) (fun i hi => Nat.le_trans hbz (oAB.lt i hi).1); have D3 := newsKeepE g3' (neX oAB) nDB; have nC := newsKeepE (o := 0) g3' (neSE z) cAB; have zC := Nat.le_trans zAB zz3)
            | (refine stepApp rfl (.tmp 45) (.tmp 48) 24 rfl z 62 i0 (.agg #[.string ⟨#[]⟩, .int .i64 0, .int .i64 0, .string ⟨#[]⟩]) 4 48 Tryd.underlying24 hi hz0 hz1 hz2 rfl (by decide) (.slice (some ⟨z + 1, 0, none⟩) 0 0) _ _ rfl oBA ⟨g, 0, none⟩ k _ (ocells (T.take k)) rfl hlt nBA (oneE _) (by unfold maxLen; omega) (by omega) zBA ?_; intro v3 w3 p3 g3' _; replace p3 := zaddE p3; obtain ⟨va, vc, rfl⟩ := shapeK3 p3; have mkC := p3; have zz3 := g3'.size; have B3 := BBA.grown g3' (Nat.le_trans hbz zBA) (fun i hi => Nat.le_trans hbz (oBA.lt i hi).1); have D3 := newsKeepE g3' (neX oBA) nDC; have nE := newsKeepE (o := 0) g3' (neTE z) cBA; have zE := Nat.le_trans zBA zz3))
        all_goals
          replace p7 : w7.ownsRow z 62 4 v7 (k + 1 + (T.length - k)) _ := p7
          have hpos : 0 < k + 1 + (T.length - k) := by omega
          obtain ⟨tg, tc, rfl⟩ : ∃ tg tc, v7 = .slice (some ⟨tg, 0, none⟩) (k + 1 + (T.length - k)) tc := by
            rcases p7.2 with ⟨_, h0⟩ | ⟨tg, tc, cur, e, _⟩
            · omega
            · exact ⟨tg, tc, e⟩
          have e1 : T.length + 1 = k + 1 + (T.length - k) := by omega
          have HQ : Hid (PutP (insL T (pe T (x0, x1, x2, x3)) (x0, x1, x2, x3)) w (.returned (.slice (some ⟨tg, 0, none⟩) (k + 1 + (T.length - k)) tc)) w7) := by
            rw [hK.out]
            refine ⟨tg, tc, by rw [insL_length T k (x0, x1, x2, x3) hkl, e1], ?_, by rw [hq0]; exact B7⟩
            have e2 : ocells (insL T k (x0, x1, x2, x3)) = ocells (T.take k) ++ ocells [(x0, x1, x2, x3)] ++ ocells (T.drop k) := by unfold insL; rw [ocells_app, ocells_app, List.append_assoc]
            rw [insL_length T k (x0, x1, x2, x3) hkl, e1, e2]
            exact ownMonoF p7 (by omega)
          clear p7 g7 p5 g5 p3 g3' B7 B5 B3 e1
          go_wp2
          go_ret
          exact HQ.out
end Go.Proofs.YtipdebodanhooaaDoor.En
