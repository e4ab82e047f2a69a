/- spec.ParsePatch. No statement is proved here. -/
import Derived.Test.YtbghdelpnodijaaDoorRows
import Derived.Test.YtbghdelpnodijaaDoorLem
import Derived.Test.YtbghdelpnodijaaDoorStrs
import Derived.Test.YtbghdelpnodijaaDoorDTab
import Derived.Test.YtbghdelpnodijaaDoorOwn
import Derived.Test.YtbghdelpnodijaaDoorFr
import Derived.Test.YtbghdelpnodijaaDoorHkL
import Derived.Test.YtbghdelpnodijaaDoorHkT
import Derived.Test.YtbghdelpnodijaaDoorHfL
import Derived.Test.YtbghdelpnodijaaDoorHfC
import Derived.Test.YtbghdelpnodijaaDoorHfS
import Derived.Test.YtbghdelpnodijaaDoorHnL
import Derived.Test.YtbghdelpnodijaaDoorHnT
import Derived.Test.YtbghdelpnodijaaDoorHrP
import Derived.Test.YtbghdelpnodijaaDoorRvL
import Derived.Test.YtbghdelpnodijaaDoorPpM
import Derived.Test.YtbghdelpnodijaaDoorPpF
import Derived.Test.YtbghdelpnodijaaDoorPpR
import Derived.WalkKit
import Derived.ProofKit
import Derived.Below
import Derived.WalkSpells
import Derived.Maps.AppendAt
set_option linter.unusedVariables false
namespace Go.Proofs.YtbghdelpnodijaaDoor.Pp
open Go.ChangeShapes Go.WideShapes Go.ChangeAt Go.RowKit

/-- The hunks from a place on, and whether all could be read. -/
def ppL (t : ByteArray) : Nat → Nat → List Hk × Bool
  | 0, _ => ([], false)
  | f + 1, p => if t.size ≤ p then ([], true) else match hkP t p with
    | none => ([], false)
    | some (h, r) => (h :: (ppL t f r).1, (ppL t f r).2)
theorem ppL_end {t : ByteArray} {f p : Nat} (h : t.size ≤ p) : ppL t (f + 1) p = ([], true) := by rw [ppL, if_pos h]
theorem ppL_bad {t : ByteArray} {f p : Nat} (h : ¬ t.size ≤ p) (e : hkP t p = none) : ppL t (f + 1) p = ([], false) := by rw [ppL, if_neg h, e]
theorem ppL_go {t : ByteArray} {f p r : Nat} {x : Hk} (h : ¬ t.size ≤ p) (e : hkP t p = some (x, r)) : ppL t (f + 1) p = (x :: (ppL t f r).1, (ppL t f r).2) := by rw [ppL, if_neg h, e]
def pp (t : ByteArray) : List Hk × Bool := ppL t (t.size + 1) 0
/-- What ParsePatch tells. -/
def ppR (t : ByteArray) : Int := if 8000 < t.size then 2 else if (pp t).2 = false then 5 else hf (pp t).1
def ppA (t : ByteArray) : Int := if 8000 < t.size then 0 else if (pp t).2 = false then (pp t).1.length else 0
def ppH (t : ByteArray) : List Hk := if ppR t = 0 then (pp t).1 else []
theorem pp_many {t : ByteArray} (h : 8000 < t.size) : ppR t = 2 ∧ ppA t = 0 ∧ ppH t = [] := by
  have e : ppR t = 2 := if_pos h
  exact ⟨e, if_pos h, if_neg (by rw [e]; decide)⟩
theorem pp_bad {t : ByteArray} (h : ¬ 8000 < t.size) (k : (pp t).2 = false) : ppR t = 5 ∧ ppA t = (pp t).1.length ∧ ppH t = [] := by
  have e : ppR t = 5 := by unfold ppR; rw [if_neg h, if_pos k]
  exact ⟨e, by unfold ppA; rw [if_neg h, if_pos k], if_neg (by rw [e]; decide)⟩
theorem pp_all {t : ByteArray} (h : ¬ 8000 < t.size) (k : (pp t).2 = true) : ppR t = hf (pp t).1 ∧ ppA t = 0 ∧ ppH t = if hf (pp t).1 = 0 then (pp t).1 else [] := by
  have e : ppR t = hf (pp t).1 := by unfold ppR; rw [if_neg h, if_neg (by rw [k]; decide)]
  exact ⟨e, by unfold ppA; rw [if_neg h, if_neg (by rw [k]; decide)], by unfold ppH; rw [e]⟩
/-- Hunks whose lines are no longer than a text. -/
def Tiny (n : Nat) (l : List Hk) : Prop := ∀ h ∈ l, h.2.2.length ≤ n ∧ ∀ s ∈ h.2.2, s.size ≤ n
theorem Tiny.fits {n : Nat} {l : List Hk} (h : Tiny n l) (hn : n ≤ 1048576) : Fits l ∧ Shortly l := by
  refine ⟨fun x hx k hk => ?_, fun x hx => ?_⟩
  · rw [getD_at _ k hk]
    have := (h x hx).2 _ (List.getElem_mem hk)
    omega
  · have := (h x hx).1; omega
theorem HO.lit {base : Nat} {w : World} {v : Value} (sl : Nat → Value) (h : w.ownsRow base 44 3 v 0 []) : HO base w v [] sl :=
  ⟨h, fun _ h => absurd h (Nat.not_lt_zero _), fun _ _ _ h => absurd h (Nat.not_lt_zero _), fun _ h => absurd h (Nat.not_lt_zero _)⟩
theorem below3' {b : Nat} {w w' : World} (h : Below b w w') (x0 x1 x2 : Value) : Below b w (((w'.setCell ⟨b, 0, none⟩ x0).setCell ⟨b, 1, none⟩ x1).setCell ⟨b, 2, none⟩ x2) := below3 h x0 x1 x2
theorem ret_h {a b c d : Int} {v : Value} (h : a = c) (k : b = d) : Ending.returned (.agg #[.int .i64 a, .int .i64 b, v]) = .returned (.agg #[.int .i64 c, .int .i64 d, v]) := by rw [h, k]
set_option maxRecDepth 20000 in
set_option maxHeartbeats 8000000 in
theorem specParsePatch (t : ByteArray) (w : World) (ht : t.size ≤ 1048576) :
    Calls Tryd.prog 11 #[.string t] w fun e w' => HP (ppR t) (ppA t) (ppH t) w e w' := by
  obtain ⟨i1, hi', hy0, hy1, hy2⟩ := info_parts infoHunk
  obtain ⟨b, hb⟩ : ∃ b, w.heap.size = b := ⟨_, rfl⟩
  obtain ⟨W1, hW1⟩ : ∃ W, w.alloc (.cells #[.int .i64 0, .int .i64 0, .slice none 0 0] 33) = W := ⟨_, rfl⟩
  have b1 : Below b w W1 := by rw [← hW1, ← hb]; exact allocBelow _ _
  have r1 : Rf W1 b [.int .i64 0, .int .i64 0, .slice none 0 0] := by rw [← hW1, ← hb]; exact Rf.new _ _ _
  have z1 : W1.heap.size = b + 1 := by rw [← hW1, ← hb]; simp
  by_cases hbig : 8000 < t.size
  · have q : (8000 : Int) < (t.size : Int) := by omega
    have HR : Hid (ppR t = 2 ∧ ppA t = 0 ∧ ppH t = []) := pp_many hbig
    have d0 := r1.at_ 0 _ rfl
    have d1 := r1.at_ 1 _ rfl
    have d2 := r1.at_ 2 _ rfl
    have f0 := r1.fz 0
    have f1 := r1.fz 1
    have f2 := r1.fz 2
    clear r1
    go_enter Tryd.func11, Tryd.ntmps11
    go_wp2
    refine bodyPost_ret (v := .agg #[.int .i64 2, .int .i64 0, .slice none 0 0]) (by simp [results, Tryd.results11, go_sem, d0, d1, d2]) rfl ?_
    refine ⟨_, fun _ => .slice none 0 0, ret_h HR.out.1.symm HR.out.2.1.symm, ?_, ?_⟩
    · rw [HR.out.2.2]; exact HO.nil _ _ _
    · rw [hb]; exact below3 b1 _ _ _
  have q : ¬ (8000 : Int) < (t.size : Int) := by omega
  have HBig : Hid (¬ 8000 < t.size) := hbig
  have hs8 : t.size ≤ 8000 := by omega
  obtain ⟨W2, hW2⟩ : ∃ W, W1.alloc (.cells #[] 44) = W := ⟨_, rfl⟩
  have b2 : Below W1.heap.size W1 W2 := by rw [← hW2]; exact allocBelow _ _
  have o2 : W2.ownsRow W1.heap.size 44 3 (.slice (some ⟨W1.heap.size, 0, none⟩) 0 0) 0 [] := by rw [← hW2]; exact World.ownsRow_lit W1 #[] 0 (Nat.le_refl _) (Nat.zero_le _) rfl
  have r2 := r1.below (by omega) b2
  have B2 : Below b w W2 := b1.trans (b2.mono (by omega))
  have z2 : b + 1 ≤ W2.heap.size := by have := b2.size; omega
  rw [z1] at o2
  have hz1 : W1.heap.size = b + 1 := z1
  clear r1 b1 b2 hbig z1
  go_enter Tryd.func11, Tryd.ntmps11
  go_wp2
  clear hz1
  go_loopw [3, 4] (fun v s4 wr => ∃ (p f : Nat) (L : List Hk) (sl : Nat → Value), s4 = .int .i64 p ∧ p ≤ t.size ∧ t.size < p + f ∧ L.length ≤ p ∧ Tiny t.size L ∧ Hid (pp t = (L ++ (ppL t f p).1, (ppL t f p).2)) ∧ HO (b + 1) wr v L sl ∧ Rf wr b [.int .i64 0, .int .i64 0, .slice none 0 0] ∧ Below b w wr ∧ b + 1 ≤ wr.heap.size) (fun _ s4 _ => t.size - (intOf s4).toNat)
  case atStart => exact ⟨0, t.size + 1, [], fun _ => .slice none 0 0, rfl, Nat.zero_le _, by omega, Nat.le_refl _, fun h hh => (by cases hh), rfl, HO.lit _ o2, r2, B2, z2⟩
  case round =>
    obtain ⟨p, f, L, sl, rfl, hpt, hfu, hLp, hTi, hP, hO, R, BU, zU⟩ := hrel
    obtain ⟨U, hU⟩ : ∃ U, U = wr := ⟨_, rfl⟩
    subst hU
    obtain ⟨va, vc, hve⟩ := shape3 hO.row
    subst hve
    obtain ⟨f, rfl⟩ : ∃ f', f = f' + 1 := ⟨f - 1, by omega⟩
    clear r2 B2 z2 o2
    by_cases hlt : p < t.size
    · have qp : (p : Int) < (t.size : Int) := by omega
      have hR := l3Read t p U ht hpt
      go_wp2_with fail
      refine hR.mono ?_
      clear hR
      rintro e w3 (⟨hn, ⟨x0, x1, y1, y2, y3, rfl⟩, b3⟩ | ⟨x, r, v3, hn, rfl, o3, hs3, hl3, hpr, hrt, b3⟩)
      · have HPP : Hid (pp t = (L, false)) := by show _ = _; rw [hP.out, ppL_bad (by omega) hn]; simp
        have HR : Hid (ppR t = 5 ∧ ppA t = L.length ∧ ppH t = []) := by
          have := pp_bad HBig.out (by rw [HPP.out])
          rw [HPP.out] at this
          exact this
        have z3 := b3.size
        obtain ⟨W4, hW4⟩ : ∃ W, w3.alloc (.cells #[.int .i64 x0, .int .i64 x1, .slice y1 y2 y3] 44) = W := ⟨_, rfl⟩
        have b4 : Below w3.heap.size w3 W4 := by rw [← hW4]; exact allocBelow _ _
        have R4 := (R.below (by omega) b3).below (by omega) b4
        have B4 : Below b w W4 := (BU.trans (b3.mono (by omega))).trans (b4.mono (by omega))
        have d0 := R4.at_ 0 _ rfl
        have d1 := R4.at_ 1 _ rfl
        have d2 := R4.at_ 2 _ rfl
        have f0 := R4.fz 0
        have f1 := R4.fz 1
        have f2 := R4.fz 2
        clear R R4 BU b3 b4 hO hP hn HPP
        have hL0 : L.length ≤ 8000 := by omega
        go_wp2
        refine bodyPost_ret (v := .agg #[.int .i64 5, .int .i64 L.length, .slice none 0 0]) (by simp [results, Tryd.results11, go_sem, d0, d1, d2]) rfl ?_
        refine ⟨_, fun _ => .slice none 0 0, ret_h HR.out.1.symm HR.out.2.1.symm, ?_, ?_⟩
        · rw [HR.out.2.2]; exact HO.nil _ _ _
        · rw [hb]; exact below3 B4 _ _ _
      · have HPP : Hid (pp t = ((L ++ [x]) ++ (ppL t f r).1, (ppL t f r).2)) := by show _ = _; rw [hP.out, ppL_go (by omega) hn, List.append_assoc]; rfl
        have z3 := b3.size
        have H3 := hO.below b3
        have R3 := R.below (by omega) b3
        have B3 : Below b w w3 := BU.trans (b3.mono (by omega))
        have hvl : ∀ j, (Value.slice va L.length vc).ownBlock = some j → j < U.heap.size := fun j hj => (hO.row.lt j hj).2
        have hel : ∀ k, k < L.length → ∀ j, (sl k).ownBlock = some j → j < U.heap.size := fun k hk j hj => ((hO.each k hk).lt j hj).2
        have hub : ∀ j, v3.ownBlock = some j → U.heap.size ≤ j := fun j hj => (o3.lt j hj).1
        obtain ⟨ua, uc, eu⟩ := shapeS' o3
        subst eu
        have hTi' : Hid (Tiny t.size (L ++ [x])) := by
          intro y hy
          rcases List.mem_append.1 hy with h | h
          · exact hTi y h
          · rw [List.mem_singleton.1 h]; exact ⟨hl3, hs3⟩
        have hL0 : L.length ≤ 8000 := by omega
        have hr0 : ¬ ((r : Nat) : Int) < 0 := by omega
        have hr1 : r ≤ 8000 := by omega
        obtain ⟨W4, hW4⟩ : ∃ W, w3.alloc (.cells #[.int .i64 x.1, .int .i64 x.2.1, .slice ua x.2.2.length uc] 44) = W := ⟨_, rfl⟩
        have z4 : W4.heap.size = w3.heap.size + 1 := by rw [← hW4]; simp
        have h40 : W4.cell? ⟨w3.heap.size, 0, none⟩ = some (.int .i64 x.1) := by rw [← hW4]; exact Rs.new w3 _ _ 0 _ rfl
        have h41 : W4.cell? ⟨w3.heap.size, 1, none⟩ = some (.int .i64 x.2.1) := by rw [← hW4]; exact Rs.new w3 _ _ 1 _ rfl
        have h42 : W4.cell? ⟨w3.heap.size, 2, none⟩ = some (.slice ua x.2.2.length uc) := by rw [← hW4]; exact Rs.new w3 _ _ 2 _ rfl
        have b4 : Below w3.heap.size w3 W4 := by rw [← hW4]; exact allocBelow _ _
        have R4 := R3.below (by omega) b4
        have B4 : Below b w W4 := B3.trans (b4.mono (by omega))
        have H4 := H3.below b4
        have o4 := ownMonoS ((Fr.ofBelow (lo := 0) (hi := 0) b4).own o3 (fun _ _ => .inr (Nat.zero_le _))) (b := b + 1) (by omega)
        have hPU := fun (W5 : World) (v' : Value) o p5 g5 k5 => HO.push (w6 := W5) (v' := v') (o := o) (h := x) H4 o4 (fun j c1 c2 => by have := hub j c1; have := hvl j c2; omega) (fun k hk j c1 c2 => by have := hub j c1; have := hel k hk j c2; omega) p5 g5 k5
        have hrow := H4.row
        have hvb : ∀ j, (Value.slice va L.length vc).ownBlock = some j → b + 1 ≤ j := fun j hj => (hrow.lt j hj).1
        clear hO hP hn R BU hTi hs3 hl3 o3 hvl hel hub b3 H3 H4 o4 R3 B3 b4
        go_wp2_with ((at_builtin; refine wpList_append_own_at _ rfl (.tmp 28) (.tmp 30) 27 rfl (b + 1) 44 i1 (.agg #[.int .i64 0, .int .i64 0, .slice none 0 0]) 3 40 Tryd.underlying27 hi' hy0 hy1 hy2 rfl (by decide) _ _ _ rfl (hrow.alloc _) ⟨W4.heap.size, 0, none⟩ 1 1 [.int .i64 x.1, .int .i64 x.2.1, .slice ua x.2.2.length uc] (by rw [z4]; rfl) rfl (newsRow W4 #[.int .i64 x.1, .int .i64 x.2.1, .slice ua x.2.2.length uc] 44) (by simp [Value.oneCell']) (by unfold maxLen; omega) (by omega) (by simp; omega) ?_; intro v' W5 p5 g5 _ k5))
        have HH := hPU W5 v' _ p5 g5 k5
        have zA : W4.heap.size < (W4.alloc (.cells #[.int .i64 x.1, .int .i64 x.2.1, .slice ua x.2.2.length uc] 44)).heap.size := by simp
        have RR := rfG (rfA (o := .cells #[.int .i64 x.1, .int .i64 x.2.1, .slice ua x.2.2.length uc] 44) R4 (by omega)) g5 hvb ⟨by omega, by omega⟩
        have z5 := g5.size
        have BB : Below b w W5 := (B4.alloc (by omega) _).grown g5 (by omega) (fun j hj => by have := hvb j hj; omega)
        refine ⟨⟨r, f, L ++ [x], _, rfl, hrt, by omega, by rw [List.length_append, List.length_singleton]; omega, hTi'.out, HPP, HH, RR, BB, by omega⟩, ?_⟩
        simp [intOf]; omega
    · have HPP : Hid (pp t = (L, true)) := by show _ = _; rw [hP.out, ppL_end (by omega)]; simp
      obtain ⟨e1, e2, e3⟩ := pp_all HBig.out (by rw [HPP.out])
      rw [HPP.out] at e1 e3
      obtain ⟨tf, ts⟩ := hTi.fits (by omega)
      have hHB := hO.read tf
      have hF := specHunksFault va vc L U hHB (by omega) ts
      have qp : ¬ (p : Int) < (t.size : Int) := by omega
      have EE : Hid (ppR t = hf L ∧ ppA t = 0 ∧ ppH t = if hf L = 0 then L else []) := ⟨e1, e2, e3⟩
      clear e1 e2 e3 tf ts hHB HPP hTi hP
      go_wp2_with fail
      refine hF.mono ?_
      clear hF
      rintro e w3 ⟨rfl, b3⟩
      have z3 := b3.size
      have H3 := hO.below b3
      have R3 := R.below (by omega) b3
      have B3 : Below b w w3 := BU.trans (b3.mono (by omega))
      have d0 := R3.at_ 0 _ rfl
      have d1 := R3.at_ 1 _ rfl
      have d2 := R3.at_ 2 _ rfl
      have f0 := R3.fz 0
      have f1 := R3.fz 1
      have f2 := R3.fz 2
      clear R R3 BU b3 hO
      by_cases h0 : hf L = 0
      · have ER : Hid (ppR t = 0 ∧ ppA t = 0 ∧ ppH t = L) := ⟨EE.out.1.trans h0, EE.out.2.1, EE.out.2.2.trans (if_pos h0)⟩
        have HB := below_set3 B3 (Nat.le_refl b) (.int .i64 0) (.int .i64 0) (.slice va L.length vc)
        have HH : Hid (HO b (((w3.setCell ⟨b, 0, none⟩ (.int .i64 0)).setCell ⟨b, 1, none⟩ (.int .i64 0)).setCell ⟨b, 2, none⟩ (.slice va L.length vc)) (.slice va L.length vc) L sl) :=
          (H3.grown (grownSet3 w3 b _ _ _) (by omega)).mono (by omega)
        clear EE H3 B3
        go_wp2
        refine bodyPost_ret (v := .agg #[.int .i64 0, .int .i64 0, .slice va L.length vc]) (by simp [results, Tryd.results11, go_sem, d0, d1, d2]) rfl ?_
        refine ⟨_, sl, ret_h ER.out.1.symm ER.out.2.1.symm, ?_, ?_⟩
        · rw [ER.out.2.2, hb]; exact HH.out
        · rw [hb]; exact HB
      · have ER : Hid (ppR t = hf L ∧ ppA t = 0 ∧ ppH t = []) := ⟨EE.out.1, EE.out.2.1, EE.out.2.2.trans (if_neg h0)⟩
        clear EE H3
        go_wp2
        refine bodyPost_ret (v := .agg #[.int .i64 (hf L), .int .i64 0, .slice none 0 0]) (by simp [results, Tryd.results11, go_sem, d0, d1, d2]) rfl ?_
        refine ⟨_, fun _ => .slice none 0 0, ret_h ER.out.1.symm ER.out.2.1.symm, ?_, ?_⟩
        · rw [ER.out.2.2]; exact HO.nil _ _ _
        · rw [hb]; exact below3 B3 _ _ _
end Go.Proofs.YtbghdelpnodijaaDoor.Pp
