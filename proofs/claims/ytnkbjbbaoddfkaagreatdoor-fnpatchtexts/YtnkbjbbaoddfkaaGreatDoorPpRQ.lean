/- spec.l3Read: the hunk at a place of a text. No statement is proved here. -/
import Derived.Test.YtnkbjbbaoddfkaaGreatDoorRows
import Derived.Test.YtnkbjbbaoddfkaaGreatDoorLemQ
import Derived.Test.YtnkbjbbaoddfkaaGreatDoorLFLemQ
import Derived.Test.YtnkbjbbaoddfkaaGreatDoorHkTQ
import Derived.Test.YtnkbjbbaoddfkaaGreatDoorDTabQ
import Derived.Test.YtnkbjbbaoddfkaaGreatDoorHkLQ
import Derived.Test.YtnkbjbbaoddfkaaGreatDoorHkCQ
import Derived.Test.YtnkbjbbaoddfkaaGreatDoorPpMQ
import Derived.WalkKit
import Derived.ProofKit
import Derived.Below
import Derived.WalkSpells
import Derived.Maps.AppendAt
import Derived.Deep.CutRange
import Derived.Test.YtnkbjbbaoddfkaaGreatDoorHfCQ
import Derived.Test.YtnkbjbbaoddfkaaGreatDoorHfIQ
import Derived.Test.YtnkbjbbaoddfkaaGreatDoorHnLQ
import Derived.Test.YtnkbjbbaoddfkaaGreatDoorHrRQ
import Derived.Test.YtnkbjbbaoddfkaaGreatDoorRvLQ
set_option linter.unusedVariables false
namespace Go.Proofs.YtnkbjbbaoddfkaaGreatDoor.Pp
open Go.ChangeShapes Go.WideShapes Go.ChangeAt Go.RowKit

/-- How many bytes stand ahead of the next line feed. -/
def lnM (t : ByteArray) (p : Nat) : Nat := (ended (t.extract p t.size).data.toList).toNat
/-- The line there, and where it ends. -/
def lnQ (t : ByteArray) (p : Nat) : ByteArray × Nat := if 0 < wd t ⟨#[92, 10]⟩ (p + lnM t p + 1) then ((t.extract p (p + lnM t p + 1)).extract 0 (lnM t p), p + lnM t p + 3) else (t.extract p (p + lnM t p + 1), p + lnM t p + 1)
def lnP (t : ByteArray) (p : Nat) : Option (ByteArray × Nat) := if t.size ≤ p + lnM t p then none else if okH (lnQ t p).1 = true then some (lnQ t p) else none
/-- The lines of a hunk: old and new ones that are still to come. -/
def rdL (t : ByteArray) : Nat → Int → Int → Nat → Option (List ByteArray × Nat)
  | 0, _, _, _ => none
  | f + 1, o, n, p => if 0 < o ∨ 0 < n then (lnP t p).bind (fun s => (rdL t f (o - old1 (mark0 s.1)) (n - new1 (mark0 s.1)) s.2).map (fun r => (s.1 :: r.1, r.2))) else if o < 0 ∨ n < 0 then none else some ([], p)
theorem rdL_none {t : ByteArray} {f p : Nat} {o n : Int} (h : 0 < o ∨ 0 < n) (e : lnP t p = none) : rdL t (f + 1) o n p = none := by rw [rdL, if_pos h, e]; rfl
theorem rdL_go {t : ByteArray} {f p q : Nat} {o n : Int} {s : ByteArray} (h : 0 < o ∨ 0 < n) (e : lnP t p = some (s, q)) : rdL t (f + 1) o n p = (rdL t f (o - old1 (mark0 s)) (n - new1 (mark0 s)) q).map (fun r => (s :: r.1, r.2)) := by rw [rdL, if_pos h, e]; rfl
theorem rdL_bad {t : ByteArray} {f p : Nat} {o n : Int} (h : ¬ (0 < o ∨ 0 < n)) (e : o < 0 ∨ n < 0) : rdL t (f + 1) o n p = none := by rw [rdL, if_neg h, if_pos e]
theorem rdL_end {t : ByteArray} {f p : Nat} {o n : Int} (h : ¬ (0 < o ∨ 0 < n)) (e : ¬ (o < 0 ∨ n < 0)) : rdL t (f + 1) o n p = some ([], p) := by rw [rdL, if_neg h, if_neg e]
/-- The hunk there. -/
def hkP (t : ByteArray) (p : Nat) : Option (Hk × Nat) := (fst1 t p).bind fun s => (rdL t (t.size + 1) (s.1.getD 1 0) (s.1.getD 3 0) s.2).map fun r => ((s.1.getD 0 0, s.1.getD 2 0, r.1), r.2)
theorem lnM_bd (t : ByteArray) (p : Nat) (hp : p ≤ t.size) : p + lnM t p ≤ t.size ∧ ended (t.extract p t.size).data.toList = (lnM t p : Int) := by
  have h := ended_bd (t.extract p t.size).data.toList
  have e : ((t.extract p t.size).data.toList.length : Int) = ((t.size - p : Nat) : Int) := by
    have : (t.extract p t.size).data.toList.length = (t.extract p t.size).size := by simp
    rw [this, ext_size]
    simp
  unfold lnM
  omega
theorem lnQ_bd (t : ByteArray) (p : Nat) (hp : p + lnM t p < t.size) : p < (lnQ t p).2 ∧ (lnQ t p).2 ≤ t.size ∧ (lnQ t p).1.size ≤ t.size := by
  unfold lnQ
  split
  · rename_i h
    obtain ⟨q, hq, hqt, hqe⟩ := wd_bd (t := t) (w := ⟨#[92, 10]⟩) (a := p + lnM t p + 1) (by omega) (by omega)
    have e2 : (⟨#[92, 10]⟩ : ByteArray).size = 2 := rfl
    refine ⟨by simp only []; omega, by simp only []; omega, ?_⟩
    simp only []
    rw [ext_size, ext_size]
    omega
  · refine ⟨by simp only []; omega, by simp only []; omega, ?_⟩
    simp only []
    rw [ext_size]
    omega
/-- What l3Read tells. -/
def RdP (t : ByteArray) (p : Nat) (w : World) (e : Ending) (w' : World) : Prop :=
  (hkP t p = none ∧ (∃ x0 x1 a n c, e = .returned (.tuple #[.agg #[.int .i64 x0, .int .i64 x1, .slice a n c], .int .i64 (-1)])) ∧ Below w.heap.size w w') ∨
  (∃ h r v, hkP t p = some (h, r) ∧ e = .returned (.tuple #[.agg #[.int .i64 h.1, .int .i64 h.2.1, v], .int .i64 (r : Nat)]) ∧ w'.ownsRow w.heap.size 9 1 v h.2.2.length (h.2.2.map Value.string) ∧ (∀ s ∈ h.2.2, s.size ≤ t.size) ∧ h.2.2.length ≤ t.size ∧ p < r ∧ r ≤ t.size ∧ Below w.heap.size w w')
theorem setCell_id {w : World} {b i : Nat} {v : Value} (h : w.cell? ⟨b, i, none⟩ = some v) : w.setCell ⟨b, i, none⟩ v = w := by
  have hh : (w.setCell ⟨b, i, none⟩ v).heap = w.heap := by
    apply Array.ext_getElem?
    intro k
    by_cases e : b = k
    · subst e
      cases ho : w.heap[b]? with
      | none => simp [World.setCell, Array.getElem?_modify, ho]
      | some o =>
        cases o with
        | cells c t fr =>
          have hc : c[i]? = some v := by simpa [World.cell?, ho] using h
          have hs : c.setIfInBounds i v = c := by
            apply Array.ext_getElem?
            intro j
            rw [Array.getElem?_setIfInBounds]
            by_cases q : i = j
            · subst q
              rw [if_pos rfl, hc, if_pos (Array.getElem?_eq_some_iff.1 hc).1]
            · rw [if_neg q]
          simp [World.setCell, Array.getElem?_modify, ho, hs]
        | _ => simp [World.setCell, Array.getElem?_modify, ho]
    · simp [World.setCell, Array.getElem?_modify, e]
  cases w
  simp only [World.setCell] at hh ⊢
  rw [hh]
theorem infoStr : (Tryz.prog.info? 9).map (fun i => (i.zero, i.size, i.bytes)) = some (some (.string ⟨#[]⟩), 1, 16) := by kernel_rfl
theorem shapeS' {w : World} {base : Nat} {v : Value} {n : Nat} {xs : List Value} (h : w.ownsRow base 9 1 v n xs) : ∃ a c, v = .slice a n c := by
  rcases h.2 with ⟨rfl, rfl⟩ | ⟨g, cap, cur, rfl, _⟩
  · exact ⟨_, _, rfl⟩
  · exact ⟨_, _, rfl⟩
theorem below3 {b : Nat} {w w' : World} (h : Below b w w') (x0 x1 x2 : Value) : Below b w (((w'.setCell ⟨b, 0, none⟩ x0).setCell ⟨b, 1, none⟩ x1).setCell ⟨b, 2, none⟩ x2) := ((h.setCell (p := ⟨b, 0, none⟩) (Nat.le_refl _) _).setCell (p := ⟨b, 1, none⟩) (Nat.le_refl _) _).setCell (p := ⟨b, 2, none⟩) (Nat.le_refl _) _
theorem ownMonoS {w : World} {base b : Nat} {v : Value} {n : Nat} {xs : List Value} (h : w.ownsRow base 9 1 v n xs) (hb : b ≤ base) : w.ownsRow b 9 1 v n xs := by
  refine ⟨h.1, ?_⟩
  rcases h.2 with hn | ⟨g, cap, cur, hv, hg, r⟩
  · exact .inl hn
  · exact .inr ⟨g, cap, cur, hv, Nat.le_trans hb hg, r⟩
theorem own3 {b : Nat} {w : World} {v : Value} {n : Nat} {xs : List Value} (h : w.ownsRow (b + 2) 9 1 v n xs) (x0 x1 x2 : Value) : (((w.setCell ⟨b, 0, none⟩ x0).setCell ⟨b, 1, none⟩ x1).setCell ⟨b, 2, none⟩ x2).ownsRow b 9 1 v n xs := by
  have g := grownTrans (grownTrans (grownSet w b 0 x0) (grownSet _ b 1 x1)) (grownSet _ b 2 x2)
  exact ownMonoS (h.kept g (blockCases _ _ fun j c1 c2 => by cases c2; have := (h.lt _ c1).1; omega)) (by omega)
theorem okH_mark {s : ByteArray} (h : okH s = true) : mark0 s = 32 ∨ mark0 s = 45 ∨ mark0 s = 43 := by
  unfold okH at h
  rw [Bool.and_eq_true, Bool.and_eq_true] at h
  exact of_decide_eq_true h.2.1
theorem rfA {w : World} {b : Nat} {vs : List Value} {o : Obj} (h : Rf w b vs) (hlt : b < w.heap.size) : Rf (w.alloc o) b vs := h.below hlt (allocBelow _ _)
theorem rfG {w w' : World} {b B : Nat} {vs : List Value} {row : Option Nat} (h : Rf w b vs) (hg : w.grownBy w' row) (hr : ∀ j, row = some j → B ≤ j) (hlt : b < B ∧ b < w.heap.size) : Rf w' b vs := by
  have hne : some b ≠ row := fun e => absurd (hr b e.symm) (by omega)
  exact ⟨fun k v hk => hg.cell (h.at_ k v hk) hne, fun k => by
    have e := hg.block b hlt.2 hne
    have h1 := h.fz k
    unfold World.frozen? at h1 ⊢
    rw [e]; exact h1⟩
theorem fin5 {b : Nat} {w U w5 : World} {x0 x1 : Int} {va ua : Option Addr} {vc uc : Nat} {ss : List ByteArray} {L : ByteArray} {ob : Obj} (Q6 : Rf U (b + 1) [.int .i64 x0, .int .i64 x1, .slice va ss.length vc]) (Q4 : Rf U b [.int .i64 0, .int .i64 0, .slice none 0 0]) (OU : U.ownsRow (b + 2) 9 1 (.slice va ss.length vc) ss.length (ss.map Value.string)) (BU : Below b w U) (zU : b + 2 ≤ U.heap.size)
    (g5 : (U.alloc ob).grownBy w5 (Value.slice va ss.length vc).ownBlock) (o5 : w5.ownsRow (b + 2) 9 1 (.slice ua (ss.length + 1) uc) (ss.length + 1) (ss.map Value.string ++ [.string L])) (hvb : ∀ j, (Value.slice va ss.length vc).ownBlock = some j → b + 2 ≤ j) :
    Rf (w5.setCell ⟨b + 1, 2, none⟩ (.slice ua (ss.length + 1) uc)) (b + 1) [.int .i64 x0, .int .i64 x1, .slice ua (ss.length + 1) uc] ∧ (w5.setCell ⟨b + 1, 2, none⟩ (.slice ua (ss.length + 1) uc)).ownsRow (b + 2) 9 1 (.slice ua (ss.length + 1) uc) (ss ++ [L]).length ((ss ++ [L]).map Value.string) ∧
    Rf (w5.setCell ⟨b + 1, 2, none⟩ (.slice ua (ss.length + 1) uc)) b [.int .i64 0, .int .i64 0, .slice none 0 0] ∧ Below b w (w5.setCell ⟨b + 1, 2, none⟩ (.slice ua (ss.length + 1) uc)) ∧ b + 2 ≤ (w5.setCell ⟨b + 1, 2, none⟩ (.slice ua (ss.length + 1) uc)).heap.size := by
  have zA : U.heap.size < (U.alloc ob).heap.size := by simp
  have A6 := rfG (rfA (o := ob) Q6 (by omega)) g5 hvb ⟨by omega, by omega⟩
  have A4 := rfG (rfA (o := ob) Q4 (by omega)) g5 hvb ⟨by omega, by omega⟩
  have z5 := g5.size
  refine ⟨A6.set (o := 2) (by simp) _, ?_, A4.other (by omega) _, ?_, ?_⟩
  · rw [List.length_append, List.map_append]
    exact o5.kept (grownSet w5 (b + 1) 2 _) (blockCases _ _ fun j c1 c2 => by cases c2; have := (o5.lt _ c1).1; omega)
  · exact (((BU.alloc (by omega) ob).grown g5 (by omega) (fun j hj => by have := hvb j hj; omega)).setCell (p := ⟨b + 1, 2, none⟩) (by show _ ≤ b + 1; omega) _)
  · rw [World.size_setCell]; omega
theorem idRd (x : Option (List ByteArray × Nat)) : Hid (x = x.map (fun r => (([] : List ByteArray) ++ r.1, r.2))) := by
  cases x <;> exact rfl
set_option maxRecDepth 20000 in
set_option maxHeartbeats 8000000 in
theorem l3Read (t : ByteArray) (p : Nat) (w : World) (ht : t.size ≤ 1048576) (hp : p ≤ t.size) :
    Calls Tryz.prog 24 #[.string t, .int .i64 p] w fun e w' => RdP t p w e w' := by
  obtain ⟨i0, hi, hz0, hz1, hz2⟩ := info_parts infoStr
  obtain ⟨b4, hb4⟩ : ∃ b, w.heap.size = b := ⟨_, rfl⟩
  obtain ⟨W1, hW1⟩ : ∃ W, w.alloc (.cells #[.int .i64 0, .int .i64 0, .slice none 0 0] 35) = W := ⟨_, rfl⟩
  have b1 : Below b4 w W1 := by rw [← hW1, ← hb4]; exact allocBelow _ _
  have r1 : Rf W1 b4 [.int .i64 0, .int .i64 0, .slice none 0 0] := by rw [← hW1, ← hb4]; exact Rf.new _ _ _
  have z1 : W1.heap.size = b4 + 1 := by rw [← hW1, ← hb4]; simp
  obtain ⟨W2, hW2⟩ : ∃ W, W1.alloc (.cells #[.int .i64 0, .int .i64 0, .slice none 0 0] 35) = W := ⟨_, rfl⟩
  have b2 : Below W1.heap.size W1 W2 := by rw [← hW2]; exact allocBelow _ _
  have r2 : Rf W2 (b4 + 1) [.int .i64 0, .int .i64 0, .slice none 0 0] := by rw [← hW2, ← z1]; exact Rf.new _ _ _
  have z2 : W2.heap.size = b4 + 2 := by rw [← hW2]; simp [z1]
  have r1' := r1.below (by omega) b2
  have B2 : Below b4 w W2 := b1.trans (b2.mono (by omega))
  have hF := l3First t p W2 ht hp
  have c0 := r2.at_ 0 _ rfl
  have c1 := r2.at_ 1 _ rfl
  have c2 := r2.at_ 2 _ rfl
  have f0 := r2.fz 0
  have f1 := r2.fz 1
  have f2 := r2.fz 2
  have s0 := setCell_id c0
  have s1 := setCell_id c1
  have s2 := setCell_id c2
  clear b1 b2 r1
  go_enter Tryz.func24, Tryz.ntmps24
  go_wp2_with fail
  refine hF.mono ?_
  clear hF s0 s1 s2 c0 c1 c2 f0 f1 f2 hW1 hW2
  rintro e w3 (⟨hn, rfl, b3⟩ | ⟨ns, q, v, hn, rfl, o3, hl4, hB, hpq, hqt, b3⟩)
  · have HR : Hid (hkP t p = none) := by show _ = _; unfold hkP; rw [hn]; rfl
    have R4 := r1'.below (by omega) b3
    have R6 := r2.below (by omega) b3
    have B3 : Below b4 w w3 := B2.trans (b3.mono (by omega))
    have c0 := R6.at_ 0 _ rfl
    have c1 := R6.at_ 1 _ rfl
    have c2 := R6.at_ 2 _ rfl
    have d0 := R4.at_ 0 _ rfl
    have d1 := R4.at_ 1 _ rfl
    have d2 := R4.at_ 2 _ rfl
    have f0 := R4.fz 0
    have f1 := R4.fz 1
    have f2 := R4.fz 2
    have s0 := setCell_id d0
    have s1 := setCell_id d1
    have s2 := setCell_id d2
    clear hn b3 r1' r2 B2 R4 R6
    go_wp2
    refine bodyPost_ret (v := .tuple #[.agg #[.int .i64 0, .int .i64 0, .slice none 0 0], .int .i64 (-1)]) (by simp [results, Tryz.results24, go_sem, d0, d1, d2]) rfl ?_
    refine .inl ⟨HR.out, ⟨0, 0, _, _, _, rfl⟩, ?_⟩
    try rw [hb4]
    exact B3
  obtain ⟨x0, o0, x1, n0, rfl⟩ : ∃ a b c d, ns = [a, b, c, d] := by
    match ns, hl4 with
    | [a, b, c, d], _ => exact ⟨a, b, c, d, rfl⟩
  have HK : Hid (hkP t p = (rdL t (t.size + 1) o0 n0 q).map fun r => ((x0, x1, r.1), r.2)) := by show _ = _; unfold hkP; rw [hn]; rfl
  obtain ⟨bo0, bo1⟩ := hB o0 (by simp)
  obtain ⟨bn0, bn1⟩ := hB n0 (by simp)
  obtain ⟨g, hgm, ⟨cc, rfl⟩, e0, e1, e2, e3⟩ : ∃ g, W2.heap.size ≤ g ∧ (∃ cc, v = .slice (some ⟨g, 0, none⟩) 4 cc) ∧ w3.cell? ⟨g, 0, none⟩ = some (.int .i64 x0) ∧ w3.cell? ⟨g, 1, none⟩ = some (.int .i64 o0) ∧ w3.cell? ⟨g, 2, none⟩ = some (.int .i64 x1) ∧ w3.cell? ⟨g, 3, none⟩ = some (.int .i64 n0) := by
    rcases o3.2 with ⟨_, h0⟩ | ⟨g, cap, cur, hv, hg1, _⟩
    · simp at h0
    · subst hv
      refine ⟨g, hg1, ⟨cap, rfl⟩, ?_, ?_, ?_, ?_⟩
      · exact (o3.cellAt 0 (by simp)).trans rfl
      · exact (o3.cellAt 1 (by simp)).trans rfl
      · exact (o3.cellAt 2 (by simp)).trans rfl
      · exact (o3.cellAt 3 (by simp)).trans rfl
  have gne : ¬ g = b4 + 1 := by omega
  have gne' : ¬ b4 + 1 = g := by omega
  have R4 := r1'.below (by omega) b3
  have R6 := r2.below (by omega) b3
  have B3 : Below b4 w w3 := B2.trans (b3.mono (by omega))
  have z3 : b4 + 2 ≤ w3.heap.size := by have := b3.size; omega
  have c0 := R6.at_ 0 _ rfl
  have c1 := R6.at_ 1 _ rfl
  have f0 := R6.fz 0
  have f1 := R6.fz 1
  obtain ⟨V, hV⟩ : ∃ V, (w3.setCell ⟨b4 + 1, 0, none⟩ (.int .i64 x0)).setCell ⟨b4 + 1, 1, none⟩ (.int .i64 x1) = V := ⟨_, rfl⟩
  have R6V : Rf V (b4 + 1) [.int .i64 x0, .int .i64 x1, .slice none 0 0] := by rw [← hV]; exact (R6.set (o := 0) (by simp) _).set (o := 1) (by simp) _
  have R4V : Rf V b4 [.int .i64 0, .int .i64 0, .slice none 0 0] := by rw [← hV]; exact (R4.other (by omega) _).other (by omega) _
  have BV : Below b4 w V := by rw [← hV]; exact (B3.setCell (p := ⟨b4 + 1, 0, none⟩) (by show _ ≤ b4 + 1; omega) _).setCell (p := ⟨b4 + 1, 1, none⟩) (by show _ ≤ b4 + 1; omega) _
  have zV : b4 + 2 ≤ V.heap.size := by rw [← hV]; simp [World.setCell]; omega
  have HV : Hid ((w3.setCell ⟨b4 + 1, 0, none⟩ (.int .i64 x0)).setCell ⟨b4 + 1, 1, none⟩ (.int .i64 x1) = V) := hV
  clear hV hn o3 hB b3 r1' r2 B2 R4 R6 hl4
  go_wp2
  go_loopw [8, 9, 10] (fun s8 s9 s10 wr => ∃ (p' f : Nat) (o n : Int) (ss : List ByteArray) (vv : Value), s8 = .int .i64 p' ∧ s9 = .int .i64 o ∧ s10 = .int .i64 n ∧ 0 ≤ o + p' ∧ o ≤ 10000 ∧ 0 ≤ n + p' ∧ n ≤ 10000 ∧ t.size < p' + f ∧ p' ≤ t.size ∧ q + ss.length ≤ p' ∧ (∀ s ∈ ss, s.size ≤ t.size) ∧ Hid (rdL t (t.size + 1) o0 n0 q = (rdL t f o n p').map (fun r => (ss ++ r.1, r.2))) ∧ Rf wr (b4 + 1) [.int .i64 x0, .int .i64 x1, vv] ∧ wr.ownsRow (b4 + 2) 9 1 vv ss.length (ss.map Value.string) ∧ Rf wr b4 [.int .i64 0, .int .i64 0, .slice none 0 0] ∧ Below b4 w wr ∧ b4 + 2 ≤ wr.heap.size) (fun s8 _ _ _ => t.size - (intOf s8).toNat)
  case atStart => exact ⟨q, t.size + 1, o0, n0, [], .slice none 0 0, rfl, rfl, rfl, by omega, by omega, by omega, by omega, by omega, hqt, by simp, fun s hs => (by cases hs), idRd _, by rw [HV.out]; exact R6V, World.ownsRow_nil _ _ _ _, by rw [HV.out]; exact R4V, by rw [HV.out]; exact BV, by rw [HV.out]; exact zV⟩
  case round =>
    obtain ⟨p', f, o, n, ss, vv, rfl, rfl, rfl, ho1, ho2, hn1, hn2, hf, hpt, hsl, hss, hRd, Q6, OU, Q4, BU, zU⟩ := hrel
    obtain ⟨U, hU⟩ : ∃ U, U = wr := ⟨_, rfl⟩
    subst hU
    obtain ⟨va, vc, hve⟩ := shapeS' OU
    subst hve
    obtain ⟨f, rfl⟩ : ∃ f', f = f' + 1 := ⟨f - 1, by omega⟩
    clear R6V R4V BV zV HV e0 e1 e2 e3 c0 c1 f0 f1 gne gne' B3 z3
    obtain ⟨D, hD⟩ : ∃ D : Bool, decide (0 < o ∨ 0 < n) = D := ⟨_, rfl⟩
    have HD : Hid (decide (0 < o ∨ 0 < n) = D) := hD
    clear hD
    go_upto_region 9 with fail
    go_cut [42] from 37 to 43 (fun s wx => s = .bool D ∧ U = wx)
    case first =>
      by_cases a1 : 0 < o
      · have HR : Hid (D = true) := HD.out.symm.trans (decide_eq_true (.inl a1))
        have x1 : decide (0 < o) = true := decide_eq_true a1
        clear HD hRd Q6 OU Q4 BU
        go_wp2
        go_meet
        exact ⟨by rw [HR.out], rfl⟩
      · by_cases a2 : 0 < n
        · have HR : Hid (D = true) := HD.out.symm.trans (decide_eq_true (.inr a2))
          have x1 : decide (0 < o) = false := decide_eq_false a1
          have x2 : decide (0 < n) = true := decide_eq_true a2
          clear HD hRd Q6 OU Q4 BU
          go_wp2
          go_meet
          exact ⟨by rw [HR.out], rfl⟩
        · have HR : Hid (D = false) := HD.out.symm.trans (decide_eq_false (fun x => x.elim a1 a2))
          have x1 : decide (0 < o) = false := decide_eq_false a1
          have x2 : decide (0 < n) = false := decide_eq_false a2
          clear HD hRd Q6 OU Q4 BU
          go_wp2
          go_meet
          exact ⟨by rw [HR.out], rfl⟩
    case rest =>
    obtain ⟨rfl, rfl⟩ := hcut
    cases D with
    | false =>
      have hno := of_decide_eq_false HD.out
      by_cases hbad : o < 0 ∨ n < 0
      · have HR : Hid (hkP t p = none) := by show _ = _; rw [HK.out, hRd.out, rdL_bad hno hbad]; rfl
        obtain ⟨G, hG⟩ : ∃ G : Bool, decide (o < 0) = G := ⟨_, rfl⟩
        have x2 : G = false → decide (n < 0) = true := fun e => by
          subst e
          exact decide_eq_true (hbad.elim (fun x => absurd x (of_decide_eq_false hG)) id)
        have d0 := Q4.at_ 0 _ rfl
        have d1 := Q4.at_ 1 _ rfl
        have d2 := Q4.at_ 2 _ rfl
        have y0 := Q4.fz 0
        have y1 := Q4.fz 1
        have y2 := Q4.fz 2
        have h0 := Q6.at_ 0 _ rfl
        have h1 := Q6.at_ 1 _ rfl
        have h2 := Q6.at_ 2 _ rfl
        have HB : Hid (Below b4 w (((U.setCell ⟨b4, 0, none⟩ (.int .i64 x0)).setCell ⟨b4, 1, none⟩ (.int .i64 x1)).setCell ⟨b4, 2, none⟩ (.slice va ss.length vc))) := below3 BU _ _ _
        clear hRd HK HD hno hbad Q6 OU Q4 BU
        cases G with
        | true =>
          clear x2
          go_wp2
          refine bodyPost_ret (v := .tuple #[.agg #[.int .i64 x0, .int .i64 x1, .slice va ss.length vc], .int .i64 (-1)]) (by simp [results, Tryz.results24, go_sem, d0, d1, d2]) rfl ?_
          refine .inl ⟨HR.out, ⟨x0, x1, _, _, _, rfl⟩, ?_⟩
          try rw [hb4]
          exact HB.out
        | false =>
          have x3 := x2 rfl
          clear x2
          go_wp2
          refine bodyPost_ret (v := .tuple #[.agg #[.int .i64 x0, .int .i64 x1, .slice va ss.length vc], .int .i64 (-1)]) (by simp [results, Tryz.results24, go_sem, d0, d1, d2]) rfl ?_
          refine .inl ⟨HR.out, ⟨x0, x1, _, _, _, rfl⟩, ?_⟩
          try rw [hb4]
          exact HB.out
      · have HR : Hid (hkP t p = some ((x0, x1, ss), p')) := by show _ = _; rw [HK.out, hRd.out, rdL_end hno hbad]; simp
        have xb1 : decide (o < 0) = false := decide_eq_false (fun x => hbad (.inl x))
        have xb2 : decide (n < 0) = false := decide_eq_false (fun x => hbad (.inr x))
        have d0 := Q4.at_ 0 _ rfl
        have d1 := Q4.at_ 1 _ rfl
        have d2 := Q4.at_ 2 _ rfl
        have y0 := Q4.fz 0
        have y1 := Q4.fz 1
        have y2 := Q4.fz 2
        have h0 := Q6.at_ 0 _ rfl
        have h1 := Q6.at_ 1 _ rfl
        have h2 := Q6.at_ 2 _ rfl
        have HB : Hid (Below b4 w (((U.setCell ⟨b4, 0, none⟩ (.int .i64 x0)).setCell ⟨b4, 1, none⟩ (.int .i64 x1)).setCell ⟨b4, 2, none⟩ (.slice va ss.length vc))) := below3 BU _ _ _
        have HO : Hid ((((U.setCell ⟨b4, 0, none⟩ (.int .i64 x0)).setCell ⟨b4, 1, none⟩ (.int .i64 x1)).setCell ⟨b4, 2, none⟩ (.slice va ss.length vc)).ownsRow b4 9 1 (.slice va ss.length vc) ss.length (ss.map Value.string)) := own3 OU _ _ _
        clear hRd HK HD hno hbad Q6 OU Q4 BU
        go_wp2
        refine bodyPost_ret (v := .tuple #[.agg #[.int .i64 x0, .int .i64 x1, .slice va ss.length vc], .int .i64 p']) (by simp [results, Tryz.results24, go_sem, d0, d1, d2]) rfl ?_
        refine .inr ⟨(x0, x1, ss), p', _, HR.out, rfl, ?_, hss, by simp only []; omega, by omega, hpt, ?_⟩
        · rw [hb4]; exact HO.out
        · rw [hb4]; exact HB.out
    | true =>
      have hgo := of_decide_eq_true HD.out
      obtain ⟨hm1, hm2⟩ := lnM_bd t p' hpt
      have hE := fun W => l1Ended (t.extract p' t.size) W (by rw [ext_size]; omega)
      rw [hm2] at hE
      have hNone : lnP t p' = none → Hid (hkP t p = none) := fun e => by show _ = _; rw [HK.out, hRd.out, rdL_none hgo e]; rfl
      have hGo : ∀ L Q, lnP t p' = some (L, Q) → Hid (rdL t (t.size + 1) o0 n0 q = (rdL t f (o - old1 (mark0 L)) (n - new1 (mark0 L)) Q).map (fun r => ((ss ++ [L]) ++ r.1, r.2))) := fun L Q e => by
        show _ = _
        rw [hRd.out, rdL_go hgo e, Option.map_map]
        congr 1
        funext r
        simp
      have hQb := lnQ_bd t p'
      have eP : lnP t p' = if t.size ≤ p' + lnM t p' then none else if okH (lnQ t p').1 = true then some (lnQ t p') else none := rfl
      have eQ : lnQ t p' = if 0 < wd t ⟨#[92, 10]⟩ (p' + lnM t p' + 1) then ((t.extract p' (p' + lnM t p' + 1)).extract 0 (lnM t p'), p' + lnM t p' + 3) else (t.extract p' (p' + lnM t p' + 1), p' + lnM t p' + 1) := rfl
      obtain ⟨m, hm⟩ : ∃ m, lnM t p' = m := ⟨_, rfl⟩
      rw [hm] at hE hm1 hQb eP eQ
      clear hm hm2 hRd HD
      go_wp2_with fail
      refine (hE _).mono ?_; rintro e U ⟨rfl, rfl⟩
      clear hE
      by_cases hend : t.size ≤ p' + m
      · have HR := hNone (by rw [eP, if_pos hend])
        have qe : (t.size : Int) ≤ (p' : Int) + (m : Int) := by omega
        have d0 := Q4.at_ 0 _ rfl
        have d1 := Q4.at_ 1 _ rfl
        have d2 := Q4.at_ 2 _ rfl
        have y0 := Q4.fz 0
        have y1 := Q4.fz 1
        have y2 := Q4.fz 2
        have h0 := Q6.at_ 0 _ rfl
        have h1 := Q6.at_ 1 _ rfl
        have h2 := Q6.at_ 2 _ rfl
        have HB : Hid (Below b4 w (((U.setCell ⟨b4, 0, none⟩ (.int .i64 x0)).setCell ⟨b4, 1, none⟩ (.int .i64 x1)).setCell ⟨b4, 2, none⟩ (.slice va ss.length vc))) := below3 BU _ _ _
        clear hNone hGo hQb eP eQ Q6 OU Q4 BU HK
        go_wp2
        refine bodyPost_ret (v := .tuple #[.agg #[.int .i64 x0, .int .i64 x1, .slice va ss.length vc], .int .i64 (-1)]) (by simp [results, Tryz.results24, go_sem, d0, d1, d2]) rfl ?_
        refine .inl ⟨HR.out, ⟨x0, x1, _, _, _, rfl⟩, ?_⟩
        try rw [hb4]
        exact HB.out
      have qe : ¬ (t.size : Int) ≤ (p' : Int) + (m : Int) := by omega
      rw [if_neg hend] at eP
      obtain ⟨hQ1, hQ2, hQ3⟩ := hQb (by omega)
      obtain ⟨LQ, hLQ⟩ : ∃ x, lnQ t p' = x := ⟨_, rfl⟩
      obtain ⟨L, Q⟩ := LQ
      rw [hLQ] at eP eQ hQ1 hQ2 hQ3
      simp only [] at eP hQ1 hQ2 hQ3
      obtain ⟨P1, hP1⟩ : ∃ P1 : Nat, P1 = p' + m + 1 := ⟨_, rfl⟩
      have HP1 : Hid (P1 = p' + m + 1) := hP1
      have ei : (p' : Int) + (m : Int) + 1 = (P1 : Int) := by omega
      rw [← hP1] at eQ
      have hW := fun V => l3Word t ⟨#[92, 10]⟩ P1 V ht (by decide) (by decide) (by omega)
      obtain ⟨D, hD⟩ : ∃ D, wd t ⟨#[92, 10]⟩ P1 = D := ⟨_, rfl⟩
      rw [hD] at hW eQ
      have HQ : Hid ((L, Q) = if 0 < D then ((t.extract p' P1).extract 0 m, p' + m + 3) else (t.extract p' P1, P1)) := by
        show _ = _
        rw [eQ]
      have zl : P1 ≤ t.size := by omega
      have qz : (P1 : Int) ≤ (t.size : Int) := by omega
      have qp : (p' : Int) ≤ (P1 : Int) := by omega
      clear hQb eQ hLQ hD hP1 hm1
      go_wp2_with fail
      refine (hW _).mono ?_; rintro e U ⟨rfl, rfl⟩
      clear hW
      go_upto_if 68 with fail
      go_cut [8, 12] from 69 to 74 (fun s8 s12 wx => s8 = .int .i64 Q ∧ s12 = .string L ∧ U = wx)
      case first =>
        by_cases hd : 0 < D
        · have HQ' : Hid (L = (t.extract p' P1).extract 0 m ∧ Q = p' + m + 3) := by
            have := HQ.out
            rw [if_pos hd] at this
            exact ⟨congrArg Prod.fst this, congrArg Prod.snd this⟩
          have zx : (t.extract p' P1).size = m + 1 := by rw [ext_size]; have := HP1.out; omega
          have qm : (m : Int) ≤ ((t.extract p' P1).size : Int) := by omega
          have e3 : (P1 : Int) + 2 = ((p' + m + 3 : Nat) : Int) := by have := HP1.out; omega
          clear HQ hNone hGo eP Q6 OU Q4 BU HK
          go_wp2
          go_meet
          exact ⟨by rw [HQ'.out.2]; congr 1, by rw [HQ'.out.1], rfl⟩
        · have HQ' : Hid (L = t.extract p' P1 ∧ Q = P1) := by
            have := HQ.out
            rw [if_neg hd] at this
            exact ⟨congrArg Prod.fst this, congrArg Prod.snd this⟩
          clear HQ hNone hGo eP Q6 OU Q4 BU HK
          go_wp2
          go_meet
          exact ⟨by rw [HQ'.out.2], by rw [HQ'.out.1], rfl⟩
      case rest =>
      obtain ⟨rfl, rfl, rfl⟩ := hcut
      have hLn := fun V => l3Line L V (by omega)
      clear HQ HP1 ei zl qz qp qe hend
      go_wp2_with fail
      refine (hLn _).mono ?_; rintro e U ⟨rfl, rfl⟩
      clear hLn
      cases hok : okH L with
      | false =>
        have HR := hNone (by rw [eP, if_neg (by rw [hok]; decide)])
        have el : lnC L = 1 := lnC_no hok
        have d0 := Q4.at_ 0 _ rfl
        have d1 := Q4.at_ 1 _ rfl
        have d2 := Q4.at_ 2 _ rfl
        have y0 := Q4.fz 0
        have y1 := Q4.fz 1
        have y2 := Q4.fz 2
        have h0 := Q6.at_ 0 _ rfl
        have h1 := Q6.at_ 1 _ rfl
        have h2 := Q6.at_ 2 _ rfl
        have HB : Hid (Below b4 w (((U.setCell ⟨b4, 0, none⟩ (.int .i64 x0)).setCell ⟨b4, 1, none⟩ (.int .i64 x1)).setCell ⟨b4, 2, none⟩ (.slice va ss.length vc))) := below3 BU _ _ _
        clear hNone hGo eP Q6 OU Q4 BU HK hok
        go_wp2
        refine bodyPost_ret (v := .tuple #[.agg #[.int .i64 x0, .int .i64 x1, .slice va ss.length vc], .int .i64 (-1)]) (by simp [results, Tryz.results24, go_sem, d0, d1, d2]) rfl ?_
        refine .inl ⟨HR.out, ⟨x0, x1, _, _, _, rfl⟩, ?_⟩
        try rw [hb4]
        exact HB.out
      | true =>
        have HG := hGo L Q (by rw [eP, if_pos hok])
        have el : lnC L = 0 := lnC_ok hok
        have hLp := okH_size hok
        have hmm : mark0 L = 32 ∨ mark0 L = 45 ∨ mark0 L = 43 := okH_mark hok
        have hQt := hQ2
        have hssn : ∀ s ∈ ss ++ [L], s.size ≤ t.size := fun s hs => by
          rcases List.mem_append.1 hs with hs | hs
          · exact hss s hs
          · rw [List.mem_singleton] at hs; subst hs; exact hQ3
        have hvb : ∀ j, (Value.slice va ss.length vc).ownBlock = some j → b4 + 2 ≤ j := fun j hj => (OU.lt j hj).1
        have hq0 : (0 : Int) < (L.size : Int) := by omega
        clear hNone hGo eP HK hok hss
        rcases hmm with hmk | hmk | hmk
        · have hmo : old1 (mark0 L) = old1 32 := by rw [hmk]
          have hmn : new1 (mark0 L) = new1 32 := by rw [hmk]
          rw [mark0_eq L hLp] at hmk
          have m1 : ((L[0].toNat : Int) != 43) = true := by rw [hmk]; rfl
          have m2 : ((L[0].toNat : Int) != 45) = true := by rw [hmk]; rfl
          have HN : Hid (rdL t (t.size + 1) o0 n0 q = (rdL t f (o - 1) (n - 1) Q).map (fun r => ((ss ++ [L]) ++ r.1, r.2))) := by
            show _ = _
            rw [HG.out, hmo, hmn]
            have e1 : old1 (32 : Int) = 1 := by decide
            have e2 : new1 (32 : Int) = 1 := by decide
            rw [e1, e2]
            try simp only [Int.sub_zero]
          clear hmk HG hmo hmn
          have k0 := Q6.at_ 2 _ rfl
          have kf := Q6.fz 2
          go_wp2_with (at_builtin; refine wpList_append_own_at _ rfl (.tmp 89) (.tmp 91) 33 rfl (b4 + 2) 9 i0 (.string ⟨#[]⟩) 1 16 Tryz.underlying33 hi hz0 hz1 hz2 rfl (by decide) _ _ _ rfl (OU.alloc _) ⟨U.heap.size, 0, none⟩ 1 1 [.string L] rfl rfl (cell_one_new _ _ _) (by simp [Value.oneCell']) (by unfold maxLen; omega) (by omega) (by simp; omega) ?_; intro v5 w5 o5 g5 _ k5; obtain ⟨ua, uc, hu⟩ := shapeS' o5; subst hu; have Q65 := rfG (rfA Q6 (by omega)) g5 hvb ⟨by omega, by simp; omega⟩; have k5c := Q65.at_ 2 _ rfl; have k5f := Q65.fz 2)
          have F := fin5 (L := L) Q6 Q4 OU BU zU g5 o5 hvb
          clear Q6 Q4 OU BU k0 kf Q65 k5c k5f g5 o5 k5
          go_wp2
          go_roundw
          case rel => exact ⟨Q, f, o - 1, n - 1, ss ++ [L], _, rfl, by go_num, by go_num, by omega, by omega, by omega, by omega, by omega, hQt, by rw [List.length_append]; simp; omega, hssn, HN, F.1, F.2.1, F.2.2.1, F.2.2.2.1, F.2.2.2.2⟩
          case measure => first | (simp [intOf]; omega) | simp [intOf]
        · have hmo : old1 (mark0 L) = old1 45 := by rw [hmk]
          have hmn : new1 (mark0 L) = new1 45 := by rw [hmk]
          rw [mark0_eq L hLp] at hmk
          have m1 : ((L[0].toNat : Int) != 43) = true := by rw [hmk]; rfl
          have m2 : ((L[0].toNat : Int) != 45) = false := by rw [hmk]; rfl
          have HN : Hid (rdL t (t.size + 1) o0 n0 q = (rdL t f (o - 1) (n) Q).map (fun r => ((ss ++ [L]) ++ r.1, r.2))) := by
            show _ = _
            rw [HG.out, hmo, hmn]
            have e1 : old1 (45 : Int) = 1 := by decide
            have e2 : new1 (45 : Int) = 0 := by decide
            rw [e1, e2]
            try simp only [Int.sub_zero]
          clear hmk HG hmo hmn
          have k0 := Q6.at_ 2 _ rfl
          have kf := Q6.fz 2
          go_wp2_with (at_builtin; refine wpList_append_own_at _ rfl (.tmp 89) (.tmp 91) 33 rfl (b4 + 2) 9 i0 (.string ⟨#[]⟩) 1 16 Tryz.underlying33 hi hz0 hz1 hz2 rfl (by decide) _ _ _ rfl (OU.alloc _) ⟨U.heap.size, 0, none⟩ 1 1 [.string L] rfl rfl (cell_one_new _ _ _) (by simp [Value.oneCell']) (by unfold maxLen; omega) (by omega) (by simp; omega) ?_; intro v5 w5 o5 g5 _ k5; obtain ⟨ua, uc, hu⟩ := shapeS' o5; subst hu; have Q65 := rfG (rfA Q6 (by omega)) g5 hvb ⟨by omega, by simp; omega⟩; have k5c := Q65.at_ 2 _ rfl; have k5f := Q65.fz 2)
          have F := fin5 (L := L) Q6 Q4 OU BU zU g5 o5 hvb
          clear Q6 Q4 OU BU k0 kf Q65 k5c k5f g5 o5 k5
          go_wp2
          go_roundw
          case rel => exact ⟨Q, f, o - 1, n, ss ++ [L], _, rfl, by go_num, by go_num, by omega, by omega, by omega, by omega, by omega, hQt, by rw [List.length_append]; simp; omega, hssn, HN, F.1, F.2.1, F.2.2.1, F.2.2.2.1, F.2.2.2.2⟩
          case measure => first | (simp [intOf]; omega) | simp [intOf]
        · have hmo : old1 (mark0 L) = old1 43 := by rw [hmk]
          have hmn : new1 (mark0 L) = new1 43 := by rw [hmk]
          rw [mark0_eq L hLp] at hmk
          have m1 : ((L[0].toNat : Int) != 43) = false := by rw [hmk]; rfl
          have m2 : ((L[0].toNat : Int) != 45) = true := by rw [hmk]; rfl
          have HN : Hid (rdL t (t.size + 1) o0 n0 q = (rdL t f (o) (n - 1) Q).map (fun r => ((ss ++ [L]) ++ r.1, r.2))) := by
            show _ = _
            rw [HG.out, hmo, hmn]
            have e1 : old1 (43 : Int) = 0 := by decide
            have e2 : new1 (43 : Int) = 1 := by decide
            rw [e1, e2]
            try simp only [Int.sub_zero]
          clear hmk HG hmo hmn
          have k0 := Q6.at_ 2 _ rfl
          have kf := Q6.fz 2
          go_wp2_with (at_builtin; refine wpList_append_own_at _ rfl (.tmp 89) (.tmp 91) 33 rfl (b4 + 2) 9 i0 (.string ⟨#[]⟩) 1 16 Tryz.underlying33 hi hz0 hz1 hz2 rfl (by decide) _ _ _ rfl (OU.alloc _) ⟨U.heap.size, 0, none⟩ 1 1 [.string L] rfl rfl (cell_one_new _ _ _) (by simp [Value.oneCell']) (by unfold maxLen; omega) (by omega) (by simp; omega) ?_; intro v5 w5 o5 g5 _ k5; obtain ⟨ua, uc, hu⟩ := shapeS' o5; subst hu; have Q65 := rfG (rfA Q6 (by omega)) g5 hvb ⟨by omega, by simp; omega⟩; have k5c := Q65.at_ 2 _ rfl; have k5f := Q65.fz 2)
          have F := fin5 (L := L) Q6 Q4 OU BU zU g5 o5 hvb
          clear Q6 Q4 OU BU k0 kf Q65 k5c k5f g5 o5 k5
          go_wp2
          go_roundw
          case rel => exact ⟨Q, f, o, n - 1, ss ++ [L], _, rfl, by go_num, by go_num, by omega, by omega, by omega, by omega, by omega, hQt, by rw [List.length_append]; simp; omega, hssn, HN, F.1, F.2.1, F.2.2.1, F.2.2.2.1, F.2.2.2.2⟩
          case measure => first | (simp [intOf]; omega) | simp [intOf]
end Go.Proofs.YtnkbjbbaoddfkaaGreatDoor.Pp
/- spec.ParsePatch. No statement is proved here. -/
set_option linter.unusedVariables false
namespace Go.Proofs.YtnkbjbbaoddfkaaGreatDoor.Pp
open Go.ChangeShapes Go.WideShapes Go.ChangeAt Go.RowKit

/-- The hunks from a place on, and whether all could be read. -/
def ppL (t : ByteArray) : Nat → Nat → List Hk × Bool
  | 0, _ => ([], false)
  | f + 1, p => if t.size ≤ p then ([], true) else match hkP t p with
    | none => ([], false)
    | some (h, r) => (h :: (ppL t f r).1, (ppL t f r).2)
theorem ppL_end {t : ByteArray} {f p : Nat} (h : t.size ≤ p) : ppL t (f + 1) p = ([], true) := by rw [ppL, if_pos h]
theorem ppL_bad {t : ByteArray} {f p : Nat} (h : ¬ t.size ≤ p) (e : hkP t p = none) : ppL t (f + 1) p = ([], false) := by rw [ppL, if_neg h, e]
theorem ppL_go {t : ByteArray} {f p r : Nat} {x : Hk} (h : ¬ t.size ≤ p) (e : hkP t p = some (x, r)) : ppL t (f + 1) p = (x :: (ppL t f r).1, (ppL t f r).2) := by rw [ppL, if_neg h, e]
def pp (t : ByteArray) : List Hk × Bool := ppL t (t.size + 1) 0
/-- What ParsePatch tells. -/
def ppR (t : ByteArray) : Int := if 8000 < t.size then 2 else if (pp t).2 = false then 5 else hf (pp t).1
def ppA (t : ByteArray) : Int := if 8000 < t.size then 0 else if (pp t).2 = false then (pp t).1.length else 0
def ppH (t : ByteArray) : List Hk := if ppR t = 0 then (pp t).1 else []
theorem pp_many {t : ByteArray} (h : 8000 < t.size) : ppR t = 2 ∧ ppA t = 0 ∧ ppH t = [] := by
  have e : ppR t = 2 := if_pos h
  exact ⟨e, if_pos h, if_neg (by rw [e]; decide)⟩
theorem pp_bad {t : ByteArray} (h : ¬ 8000 < t.size) (k : (pp t).2 = false) : ppR t = 5 ∧ ppA t = (pp t).1.length ∧ ppH t = [] := by
  have e : ppR t = 5 := by unfold ppR; rw [if_neg h, if_pos k]
  exact ⟨e, by unfold ppA; rw [if_neg h, if_pos k], if_neg (by rw [e]; decide)⟩
theorem pp_all {t : ByteArray} (h : ¬ 8000 < t.size) (k : (pp t).2 = true) : ppR t = hf (pp t).1 ∧ ppA t = 0 ∧ ppH t = if hf (pp t).1 = 0 then (pp t).1 else [] := by
  have e : ppR t = hf (pp t).1 := by unfold ppR; rw [if_neg h, if_neg (by rw [k]; decide)]
  exact ⟨e, by unfold ppA; rw [if_neg h, if_neg (by rw [k]; decide)], by unfold ppH; rw [e]⟩
/-- Hunks whose lines are no longer than a text. -/
def Tiny (n : Nat) (l : List Hk) : Prop := ∀ h ∈ l, h.2.2.length ≤ n ∧ ∀ s ∈ h.2.2, s.size ≤ n
theorem Tiny.fits {n : Nat} {l : List Hk} (h : Tiny n l) (hn : n ≤ 1048576) : Fits l ∧ Shortly l := by
  refine ⟨fun x hx k hk => ?_, fun x hx => ?_⟩
  · rw [getD_at _ k hk]
    have := (h x hx).2 _ (List.getElem_mem hk)
    omega
  · have := (h x hx).1; omega
theorem HO.lit {base : Nat} {w : World} {v : Value} (sl : Nat → Value) (h : w.ownsRow base 35 3 v 0 []) : HO base w v [] sl :=
  ⟨h, fun _ h => absurd h (Nat.not_lt_zero _), fun _ _ _ h => absurd h (Nat.not_lt_zero _), fun _ h => absurd h (Nat.not_lt_zero _)⟩
theorem below3' {b : Nat} {w w' : World} (h : Below b w w') (x0 x1 x2 : Value) : Below b w (((w'.setCell ⟨b, 0, none⟩ x0).setCell ⟨b, 1, none⟩ x1).setCell ⟨b, 2, none⟩ x2) := below3 h x0 x1 x2
theorem ret_h {a b c d : Int} {v : Value} (h : a = c) (k : b = d) : Ending.returned (.agg #[.int .i64 a, .int .i64 b, v]) = .returned (.agg #[.int .i64 c, .int .i64 d, v]) := by rw [h, k]
set_option maxRecDepth 20000 in
set_option maxHeartbeats 8000000 in
theorem specParsePatch (t : ByteArray) (w : World) (ht : t.size ≤ 1048576) :
    Calls Tryz.prog 9 #[.string t] w fun e w' => HP (ppR t) (ppA t) (ppH t) w e w' := by
  obtain ⟨i1, hi', hy0, hy1, hy2⟩ := info_parts infoHunk
  obtain ⟨b, hb⟩ : ∃ b, w.heap.size = b := ⟨_, rfl⟩
  obtain ⟨W1, hW1⟩ : ∃ W, w.alloc (.cells #[.int .i64 0, .int .i64 0, .slice none 0 0] 27) = W := ⟨_, rfl⟩
  have b1 : Below b w W1 := by rw [← hW1, ← hb]; exact allocBelow _ _
  have r1 : Rf W1 b [.int .i64 0, .int .i64 0, .slice none 0 0] := by rw [← hW1, ← hb]; exact Rf.new _ _ _
  have z1 : W1.heap.size = b + 1 := by rw [← hW1, ← hb]; simp
  by_cases hbig : 8000 < t.size
  · have q : (8000 : Int) < (t.size : Int) := by omega
    have HR : Hid (ppR t = 2 ∧ ppA t = 0 ∧ ppH t = []) := pp_many hbig
    have d0 := r1.at_ 0 _ rfl
    have d1 := r1.at_ 1 _ rfl
    have d2 := r1.at_ 2 _ rfl
    have f0 := r1.fz 0
    have f1 := r1.fz 1
    have f2 := r1.fz 2
    clear r1
    go_enter Tryz.func9, Tryz.ntmps9
    go_wp2
    refine bodyPost_ret (v := .agg #[.int .i64 2, .int .i64 0, .slice none 0 0]) (by simp [results, Tryz.results9, go_sem, d0, d1, d2]) rfl ?_
    refine ⟨_, fun _ => .slice none 0 0, ret_h HR.out.1.symm HR.out.2.1.symm, ?_, ?_⟩
    · rw [HR.out.2.2]; exact HO.nil _ _ _
    · rw [hb]; exact below3 b1 _ _ _
  have q : ¬ (8000 : Int) < (t.size : Int) := by omega
  have HBig : Hid (¬ 8000 < t.size) := hbig
  have hs8 : t.size ≤ 8000 := by omega
  obtain ⟨W2, hW2⟩ : ∃ W, W1.alloc (.cells #[] 35) = W := ⟨_, rfl⟩
  have b2 : Below W1.heap.size W1 W2 := by rw [← hW2]; exact allocBelow _ _
  have o2 : W2.ownsRow W1.heap.size 35 3 (.slice (some ⟨W1.heap.size, 0, none⟩) 0 0) 0 [] := by rw [← hW2]; exact World.ownsRow_lit W1 #[] 0 (Nat.le_refl _) (Nat.zero_le _) rfl
  have r2 := r1.below (by omega) b2
  have B2 : Below b w W2 := b1.trans (b2.mono (by omega))
  have z2 : b + 1 ≤ W2.heap.size := by have := b2.size; omega
  rw [z1] at o2
  have hz1 : W1.heap.size = b + 1 := z1
  clear r1 b1 b2 hbig z1
  go_enter Tryz.func9, Tryz.ntmps9
  go_wp2
  clear hz1
  go_loopw [3, 4] (fun v s4 wr => ∃ (p f : Nat) (L : List Hk) (sl : Nat → Value), s4 = .int .i64 p ∧ p ≤ t.size ∧ t.size < p + f ∧ L.length ≤ p ∧ Tiny t.size L ∧ Hid (pp t = (L ++ (ppL t f p).1, (ppL t f p).2)) ∧ HO (b + 1) wr v L sl ∧ Rf wr b [.int .i64 0, .int .i64 0, .slice none 0 0] ∧ Below b w wr ∧ b + 1 ≤ wr.heap.size) (fun _ s4 _ => t.size - (intOf s4).toNat)
  case atStart => exact ⟨0, t.size + 1, [], fun _ => .slice none 0 0, rfl, Nat.zero_le _, by omega, Nat.le_refl _, fun h hh => (by cases hh), rfl, HO.lit _ o2, r2, B2, z2⟩
  case round =>
    obtain ⟨p, f, L, sl, rfl, hpt, hfu, hLp, hTi, hP, hO, R, BU, zU⟩ := hrel
    obtain ⟨U, hU⟩ : ∃ U, U = wr := ⟨_, rfl⟩
    subst hU
    obtain ⟨va, vc, hve⟩ := shape3 hO.row
    subst hve
    obtain ⟨f, rfl⟩ : ∃ f', f = f' + 1 := ⟨f - 1, by omega⟩
    clear r2 B2 z2 o2
    by_cases hlt : p < t.size
    · have qp : (p : Int) < (t.size : Int) := by omega
      have hR := l3Read t p U ht hpt
      go_wp2_with fail
      refine hR.mono ?_
      clear hR
      rintro e w3 (⟨hn, ⟨x0, x1, y1, y2, y3, rfl⟩, b3⟩ | ⟨x, r, v3, hn, rfl, o3, hs3, hl3, hpr, hrt, b3⟩)
      · have HPP : Hid (pp t = (L, false)) := by show _ = _; rw [hP.out, ppL_bad (by omega) hn]; simp
        have HR : Hid (ppR t = 5 ∧ ppA t = L.length ∧ ppH t = []) := by
          have := pp_bad HBig.out (by rw [HPP.out])
          rw [HPP.out] at this
          exact this
        have z3 := b3.size
        obtain ⟨W4, hW4⟩ : ∃ W, w3.alloc (.cells #[.int .i64 x0, .int .i64 x1, .slice y1 y2 y3] 35) = W := ⟨_, rfl⟩
        have b4 : Below w3.heap.size w3 W4 := by rw [← hW4]; exact allocBelow _ _
        have R4 := (R.below (by omega) b3).below (by omega) b4
        have B4 : Below b w W4 := (BU.trans (b3.mono (by omega))).trans (b4.mono (by omega))
        have d0 := R4.at_ 0 _ rfl
        have d1 := R4.at_ 1 _ rfl
        have d2 := R4.at_ 2 _ rfl
        have f0 := R4.fz 0
        have f1 := R4.fz 1
        have f2 := R4.fz 2
        clear R R4 BU b3 b4 hO hP hn HPP
        have hL0 : L.length ≤ 8000 := by omega
        go_wp2
        refine bodyPost_ret (v := .agg #[.int .i64 5, .int .i64 L.length, .slice none 0 0]) (by simp [results, Tryz.results9, go_sem, d0, d1, d2]) rfl ?_
        refine ⟨_, fun _ => .slice none 0 0, ret_h HR.out.1.symm HR.out.2.1.symm, ?_, ?_⟩
        · rw [HR.out.2.2]; exact HO.nil _ _ _
        · rw [hb]; exact below3 B4 _ _ _
      · have HPP : Hid (pp t = ((L ++ [x]) ++ (ppL t f r).1, (ppL t f r).2)) := by show _ = _; rw [hP.out, ppL_go (by omega) hn, List.append_assoc]; rfl
        have z3 := b3.size
        have H3 := hO.below b3
        have R3 := R.below (by omega) b3
        have B3 : Below b w w3 := BU.trans (b3.mono (by omega))
        have hvl : ∀ j, (Value.slice va L.length vc).ownBlock = some j → j < U.heap.size := fun j hj => (hO.row.lt j hj).2
        have hel : ∀ k, k < L.length → ∀ j, (sl k).ownBlock = some j → j < U.heap.size := fun k hk j hj => ((hO.each k hk).lt j hj).2
        have hub : ∀ j, v3.ownBlock = some j → U.heap.size ≤ j := fun j hj => (o3.lt j hj).1
        obtain ⟨ua, uc, eu⟩ := shapeS' o3
        subst eu
        have hTi' : Hid (Tiny t.size (L ++ [x])) := by
          intro y hy
          rcases List.mem_append.1 hy with h | h
          · exact hTi y h
          · rw [List.mem_singleton.1 h]; exact ⟨hl3, hs3⟩
        have hL0 : L.length ≤ 8000 := by omega
        have hr0 : ¬ ((r : Nat) : Int) < 0 := by omega
        have hr1 : r ≤ 8000 := by omega
        obtain ⟨W4, hW4⟩ : ∃ W, w3.alloc (.cells #[.int .i64 x.1, .int .i64 x.2.1, .slice ua x.2.2.length uc] 35) = W := ⟨_, rfl⟩
        have z4 : W4.heap.size = w3.heap.size + 1 := by rw [← hW4]; simp
        have h40 : W4.cell? ⟨w3.heap.size, 0, none⟩ = some (.int .i64 x.1) := by rw [← hW4]; exact Rs.new w3 _ _ 0 _ rfl
        have h41 : W4.cell? ⟨w3.heap.size, 1, none⟩ = some (.int .i64 x.2.1) := by rw [← hW4]; exact Rs.new w3 _ _ 1 _ rfl
        have h42 : W4.cell? ⟨w3.heap.size, 2, none⟩ = some (.slice ua x.2.2.length uc) := by rw [← hW4]; exact Rs.new w3 _ _ 2 _ rfl
        have b4 : Below w3.heap.size w3 W4 := by rw [← hW4]; exact allocBelow _ _
        have R4 := R3.below (by omega) b4
        have B4 : Below b w W4 := B3.trans (b4.mono (by omega))
        have H4 := H3.below b4
        have o4 := ownMonoS ((Fr.ofBelow (lo := 0) (hi := 0) b4).own o3 (fun _ _ => .inr (Nat.zero_le _))) (b := b + 1) (by omega)
        have hPU := fun (W5 : World) (v' : Value) o p5 g5 k5 => HO.push (w6 := W5) (v' := v') (o := o) (h := x) H4 o4 (fun j c1 c2 => by have := hub j c1; have := hvl j c2; omega) (fun k hk j c1 c2 => by have := hub j c1; have := hel k hk j c2; omega) p5 g5 k5
        have hrow := H4.row
        have hvb : ∀ j, (Value.slice va L.length vc).ownBlock = some j → b + 1 ≤ j := fun j hj => (hrow.lt j hj).1
        clear hO hP hn R BU hTi hs3 hl3 o3 hvl hel hub b3 H3 H4 o4 R3 B3 b4
        go_wp2_with ((at_builtin; refine wpList_append_own_at _ rfl (.tmp 28) (.tmp 30) 25 rfl (b + 1) 35 i1 (.agg #[.int .i64 0, .int .i64 0, .slice none 0 0]) 3 40 Tryz.underlying25 hi' hy0 hy1 hy2 rfl (by decide) _ _ _ rfl (hrow.alloc _) ⟨W4.heap.size, 0, none⟩ 1 1 [.int .i64 x.1, .int .i64 x.2.1, .slice ua x.2.2.length uc] (by rw [z4]; rfl) rfl (newsRow W4 #[.int .i64 x.1, .int .i64 x.2.1, .slice ua x.2.2.length uc] 35) (by simp [Value.oneCell']) (by unfold maxLen; omega) (by omega) (by simp; omega) ?_; intro v' W5 p5 g5 _ k5))
        have HH := hPU W5 v' _ p5 g5 k5
        have zA : W4.heap.size < (W4.alloc (.cells #[.int .i64 x.1, .int .i64 x.2.1, .slice ua x.2.2.length uc] 35)).heap.size := by simp
        have RR := rfG (rfA (o := .cells #[.int .i64 x.1, .int .i64 x.2.1, .slice ua x.2.2.length uc] 35) R4 (by omega)) g5 hvb ⟨by omega, by omega⟩
        have z5 := g5.size
        have BB : Below b w W5 := (B4.alloc (by omega) _).grown g5 (by omega) (fun j hj => by have := hvb j hj; omega)
        refine ⟨⟨r, f, L ++ [x], _, rfl, hrt, by omega, by rw [List.length_append, List.length_singleton]; omega, hTi'.out, HPP, HH, RR, BB, by omega⟩, ?_⟩
        simp [intOf]; omega
    · have HPP : Hid (pp t = (L, true)) := by show _ = _; rw [hP.out, ppL_end (by omega)]; simp
      obtain ⟨e1, e2, e3⟩ := pp_all HBig.out (by rw [HPP.out])
      rw [HPP.out] at e1 e3
      obtain ⟨tf, ts⟩ := hTi.fits (by omega)
      have hHB := hO.read tf
      have hF := specHunksFault va vc L U hHB (by omega) ts
      have qp : ¬ (p : Int) < (t.size : Int) := by omega
      have EE : Hid (ppR t = hf L ∧ ppA t = 0 ∧ ppH t = if hf L = 0 then L else []) := ⟨e1, e2, e3⟩
      clear e1 e2 e3 tf ts hHB HPP hTi hP
      go_wp2_with fail
      refine hF.mono ?_
      clear hF
      rintro e w3 ⟨rfl, b3⟩
      have z3 := b3.size
      have H3 := hO.below b3
      have R3 := R.below (by omega) b3
      have B3 : Below b w w3 := BU.trans (b3.mono (by omega))
      have d0 := R3.at_ 0 _ rfl
      have d1 := R3.at_ 1 _ rfl
      have d2 := R3.at_ 2 _ rfl
      have f0 := R3.fz 0
      have f1 := R3.fz 1
      have f2 := R3.fz 2
      clear R R3 BU b3 hO
      by_cases h0 : hf L = 0
      · have ER : Hid (ppR t = 0 ∧ ppA t = 0 ∧ ppH t = L) := ⟨EE.out.1.trans h0, EE.out.2.1, EE.out.2.2.trans (if_pos h0)⟩
        have HB := below_set3 B3 (Nat.le_refl b) (.int .i64 0) (.int .i64 0) (.slice va L.length vc)
        have HH : Hid (HO b (((w3.setCell ⟨b, 0, none⟩ (.int .i64 0)).setCell ⟨b, 1, none⟩ (.int .i64 0)).setCell ⟨b, 2, none⟩ (.slice va L.length vc)) (.slice va L.length vc) L sl) :=
          (H3.grown (grownSet3 w3 b _ _ _) (by omega)).mono (by omega)
        clear EE H3 B3
        go_wp2
        refine bodyPost_ret (v := .agg #[.int .i64 0, .int .i64 0, .slice va L.length vc]) (by simp [results, Tryz.results9, go_sem, d0, d1, d2]) rfl ?_
        refine ⟨_, sl, ret_h ER.out.1.symm ER.out.2.1.symm, ?_, ?_⟩
        · rw [ER.out.2.2, hb]; exact HH.out
        · rw [hb]; exact HB
      · have ER : Hid (ppR t = hf L ∧ ppA t = 0 ∧ ppH t = []) := ⟨EE.out.1, EE.out.2.1, EE.out.2.2.trans (if_neg h0)⟩
        clear EE H3
        go_wp2
        refine bodyPost_ret (v := .agg #[.int .i64 (hf L), .int .i64 0, .slice none 0 0]) (by simp [results, Tryz.results9, go_sem, d0, d1, d2]) rfl ?_
        refine ⟨_, fun _ => .slice none 0 0, ret_h ER.out.1.symm ER.out.2.1.symm, ?_, ?_⟩
        · rw [ER.out.2.2]; exact HO.nil _ _ _
        · rw [hb]; exact below3 B3 _ _ _
end Go.Proofs.YtnkbjbbaoddfkaaGreatDoor.Pp
