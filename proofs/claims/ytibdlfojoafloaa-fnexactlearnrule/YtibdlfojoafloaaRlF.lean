/- A rule is forgotten: the program. No statement is proved here. -/
import Derived.Test.YtibdlfojoafloaaRows
import Derived.Test.YtibdlfojoafloaaLem
import Derived.Test.YtibdlfojoafloaaStrs
import Derived.Test.YtibdlfojoafloaaLFLem
import Derived.Test.YtibdlfojoafloaaDTab
import Derived.Test.YtibdlfojoafloaaOwn
import Derived.Test.YtibdlfojoafloaaFr
import Derived.Test.YtibdlfojoafloaaHkT
import Derived.Test.YtibdlfojoafloaaRuL
import Derived.Test.YtibdlfojoafloaaRuF
import Derived.Test.YtibdlfojoafloaaFrC
import Derived.Test.YtibdlfojoafloaaRlB
import Derived.Test.YtibdlfojoafloaaRlC
import Derived.Test.YtibdlfojoafloaaRlD
import Derived.Test.YtibdlfojoafloaaRlE
import Derived.WalkKit
import Derived.ProofKit
import Derived.Below
import Derived.WalkSpells
import Derived.Maps.AppendAt
import Derived.Deep.QuietTactic
import Derived.BigQuiet
import Derived.Deep.RegionWith
import Derived.Deep.RegionHeld
import Derived.Deep.CutRange
set_option linter.unusedVariables false
namespace Go.Proofs.Ytibdlfojoafloaa.Ru
open Go.ChangeShapes Go.WideShapes Go.ChangeAt Go.RowKit

/-- The place that fd tells. -/
theorem fdF_at {l : List Ob} {p : ByteArray} : ∀ n k j : Nat, fdF l p n k = (j : Int) → (l.getD j onil).1 = p := by
  intro n
  induction n with
  | zero => intro k j h; simp only [fdF] at h; omega
  | succ n ih =>
    intro k j h
    by_cases e : (l.getD k onil).1 = p
    · rw [fdF_hit e] at h
      have : k = j := by omega
      rw [← this]; exact e
    · rw [fdF_miss e] at h
      exact ih _ _ h
theorem fd_at {l : List Ob} {p : ByteArray} {j : Nat} (h : fd l p = (j : Int)) : (l.getD j onil).1 = p := fdF_at _ _ _ h
/-- No rule behind it has the same text: rules rise. -/
theorem fd_only {l : List Ob} {p : ByteArray} {j : Nat} (h0 : rf l = 0) (h : fd l p = (j : Int)) : ∀ k, j < k → k < l.length → ¬ (l.getD k onil).1 = p := by
  intro k hk hl e
  have h1 := rises h0 j k hk hl
  rw [fd_at h, e, bl_irr] at h1
  cases h1
set_option maxRecDepth 20000 in
set_option maxHeartbeats 4000000 in
theorem dropC (b P : Nat) (l : List Ob) (v : Value) (p : ByteArray) (at_ : Nat) (w : World) (h : SL w b l v) (hn : l.length ≤ 1048576) (hP : w.cell? ⟨P, 0, none⟩ = some (.string p)) (hPb : P < b)
    (ha : at_ < l.length) (hf : fd l p = (at_ : Int)) (hne : ∀ k, at_ < k → k < l.length → ¬ (l.getD k onil).1 = p) :
    Calls Try.prog 42 #[.pointer (some ⟨b, 0, none⟩), .func (.func 43) #[] #[.pointer (some ⟨P, 0, none⟩)]] w fun e w' => AD b (l.eraseIdx at_) w e w' := by
  obtain ⟨r, c, rfl⟩ : ∃ r c, v = .slice (some ⟨r, 0, none⟩) l.length c := by
    rcases h.own.2 with ⟨_, h0⟩ | ⟨g, c, cur, e, _⟩
    · omega
    · exact ⟨g, c, e⟩
  have hr := (h.own.lt r rfl).1
  have hD := deleteFuncC (b + 1) r c P l p at_ w h.own hn hP (by omega) ha hf hne
  have k1 := h.rf.at_ 1 _ rfl
  have zV := h.lt
  have R3 := h.rf
  have f1 := h.rf.fz 1
  clear h hf hne hP
  go_enter Try.func42, Try.ntmps42
  go_wp2_with fail
  refine hD.mono ?_
  rintro e w5 ⟨v5, rfl, o5, g5⟩
  obtain ⟨ua, uc, rfl⟩ := shapeK3 o5
  have hne : some b ≠ (Value.slice (some ⟨r, 0, none⟩) l.length c).ownBlock := fun e => by
    have : b = r := Option.some.inj e
    omega
  have R5 := rfGrew R3 g5 hne zV
  have c5 := R5.at_ 1 _ rfl
  have z5 := R5.fz 1
  have z6 : b < w5.heap.size := Nat.lt_of_lt_of_le zV g5.size
  have R6 : Rf (w5.setCell ⟨b, 1, none⟩ (.slice ua (l.eraseIdx at_).length uc)) b [.func (.func 63) #[] #[], .slice ua (l.eraseIdx at_).length uc] := R5.set (o := 1) (by simp) _
  have o6 := o5.kept (grownSet w5 b 1 (.slice ua (l.eraseIdx at_).length uc)) (blockCases _ _ fun j c1 c2 => by cases c2; have := (o5.lt _ c1).1; omega)
  have B6 : Below b w (w5.setCell ⟨b, 1, none⟩ (.slice ua (l.eraseIdx at_).length uc)) := ((Below.refl b w).grown g5 (Nat.le_of_lt zV) (fun j hj => by have : r = j := Option.some.inj hj; omega)).setCell (p := ⟨b, 1, none⟩) (Nat.le_refl _) _
  have HF : Hid (AD b (l.eraseIdx at_) w (.returned (.tuple #[])) (w5.setCell ⟨b, 1, none⟩ (.slice ua (l.eraseIdx at_).length uc))) := ⟨rfl, ⟨_, R6, o6, by rw [World.size_setCell]; exact z6⟩, B6⟩
  generalize (l.eraseIdx at_).length = M at *
  clear R6 o6 B6 R5 o5 g5 R3 hD hne
  go_wp2
  refine bodyPost_end (results_none rfl _ _ _) rfl ?_
  exact HF.out
/-- What ForgetRule answers. -/
def fgC (l : List Ob) (p : ByteArray) : Int := if rf l = 0 then (if fd l p = -1 then 4 else 0) else rf l
def fgL (l : List Ob) (p : ByteArray) : List Ob := if rf l = 0 ∧ fd l p ≠ -1 then l.eraseIdx (fd l p).toNat else []
/-- An answer that is a list of rules. -/
def RQ (r : Int) (L : List Ob) (w : World) (e : Ending) (w' : World) : Prop := ∃ v, e = .returned (.agg #[.int .i64 r, v]) ∧ w'.ownsRow w.heap.size 36 2 v L.length (ocells L) ∧ Below w.heap.size w w'
theorem rq0 {r : Int} {w w' : World} (h : Below w.heap.size w w') : RQ r [] w (.returned (.agg #[.int .i64 r, .slice none 0 0])) w' := ⟨_, rfl, ⟨rfl, .inl ⟨rfl, rfl⟩⟩, h⟩
theorem ownMonoR {w : World} {b b' : Nat} {v : Value} {n : Nat} {xs : List Value} (h : w.ownsRow b 36 2 v n xs) (hb : b' ≤ b) : w.ownsRow b' 36 2 v n xs := by
  refine ⟨h.1, ?_⟩
  rcases h.2 with h' | ⟨g, c, cur, h1, h2, h3⟩
  · exact .inl h'
  · exact .inr ⟨g, c, cur, h1, Nat.le_trans hb h2, h3⟩
set_option maxRecDepth 20000 in
set_option maxHeartbeats 4000000 in
theorem implForgetRule (a : Option Addr) (c : Nat) (l : List Ob) (p : ByteArray) (w : World) (h : OB w.heap.size w a l) (hs : SmallO l) (hn : l.length ≤ 1048576) :
    Calls Try.prog 12 #[.slice a l.length c, .string p] w fun e w' => RQ (fgC l p) (fgL l p) w e w' := by
  obtain ⟨b, hb⟩ : ∃ b, w.heap.size = b := ⟨_, rfl⟩
  obtain ⟨W1, hW1⟩ : ∃ W, (w.alloc (.cells #[.string p] 9)).alloc (.cells #[.int .i64 0, .slice none 0 0] 28) = W := ⟨_, rfl⟩
  have za : (w.alloc (.cells #[.string p] 9)).heap.size = b + 1 := by rw [← hb]; simp
  have b1 : Below b w W1 := by rw [← hW1, ← hb]; exact ((Below.refl _ _).alloc (Nat.le_refl _) _).alloc (by simp) _
  have r1 : Rf W1 (b + 1) [.int .i64 0, .slice none 0 0] := by rw [← hW1, ← za]; exact Rf.new _ #[.int .i64 0, .slice none 0 0] _
  have p1 : Rf W1 b [.string p] := by rw [← hW1, ← hb]; exact (Rf.new w #[.string p] _).below (by simp) (allocBelow _ _)
  have z1 : W1.heap.size = b + 2 := by rw [← hW1, ← hb]; simp
  have h1 := (h.below (by rw [hb]; exact b1)).mono (B' := W1.heap.size) (by omega)
  have hR := implRulesFault a c l W1 h1 hs hn
  by_cases h0 : rf l = 0
  · rw [h0] at hR
    have hl40 := (rf_zero h0).1
    go_enter Try.func12, Try.ntmps12
    go_wp2_with fail
    refine hR.mono ?_
    clear hR hW1
    rintro e w2 ⟨rfl, b2⟩
    have B2 : Below b w w2 := b1.trans (b2.mono (by omega))
    have z2 := b2.size
    have r2 := r1.below (by omega) b2
    have p2 := p1.below (by omega) b2
    have h2 := (h1.below b2).mono (B' := w2.heap.size) (by omega)
    have hF := ruleAt a c l p w2 h2 hn
    have k0 := p2.at_ 0 _ rfl
    clear h1 b2 b1 r1 p1
    rcases fd_bd l p with hf | ⟨j, hf, hj⟩
    · have HR : Hid (fgC l p = 4 ∧ fgL l p = []) := ⟨by unfold fgC; rw [if_pos h0, if_pos hf], by unfold fgL; rw [if_neg (fun c => c.2 hf)]⟩
      rw [hf] at hF
      have d0 := r2.at_ 0 _ rfl
      have d1 := r2.at_ 1 _ rfl
      have f0 := r2.fz 0
      have f1 := r2.fz 1
      clear r2 h2 hf p2
      go_wp2_with fail
      refine hF.mono ?_
      rintro e w3 ⟨rfl, rfl⟩
      go_wp2
      refine bodyPost_ret (v := .agg #[.int .i64 4, .slice none 0 0]) (by simp [results, Try.results12, go_sem, d0, d1]) rfl ?_
      rw [HR.out.1, HR.out.2]
      exact rq0 (by rw [hb]; exact below_sets B2 (by omega) _ _)
    · have HR : Hid (fgC l p = 0 ∧ fgL l p = l.eraseIdx j) := ⟨by unfold fgC; rw [if_pos h0, if_neg (by rw [hf]; omega)], by unfold fgL; rw [if_pos ⟨h0, by rw [hf]; omega⟩, hf]; rfl⟩
      have hD := fun W B v (x : SL W B l v) (y : W.cell? ⟨b, 0, none⟩ = some (.string p)) (z : b < B) => dropC B b l v p j W x hn y z hj hf (fd_only h0 hf)
      have hO := rulesOfC a c l w2 h2 hs (by omega) h0
      rw [hf] at hF
      have qe : ((j : Int) == -1) = false := beq_eq_false_iff_ne.2 (by omega)
      clear h2 hf
      go_wp2_with fail
      refine hF.mono ?_
      rintro e w3 ⟨rfl, rfl⟩
      clear hF
      go_wp2_with fail
      refine hO.mono ?_
      clear hO
      rintro e w4 ⟨rfl, ⟨v4, S4⟩, b4⟩
      obtain ⟨q, hq⟩ : ∃ q, w3.heap.size = q := ⟨_, rfl⟩
      have r4 := r2.below (by omega) b4
      have p4 := (p2.below (by omega) b4).at_ 0 _ rfl
      have B4 : Below b w w4 := B2.trans (b4.mono (by omega))
      rw [hq] at S4
      have hD4 := hD w4 q v4 S4 p4 (by omega)
      have z4 := S4.lt
      clear hD p2 r2 B2 b4 S4 k0
      go_wp2_with fail
      refine hD4.mono ?_
      clear hD4
      rintro e w5 ⟨rfl, ⟨v5, S5⟩, b5⟩
      obtain ⟨ua, uc, rfl⟩ := shapeK3 S5.own
      have B5 : Below b w w5 := B4.trans (b5.mono (by omega))
      have r5 : Rf w5 (b + 1) [.int .i64 0, .slice none 0 0] := ⟨fun k v hk => (b5.cell (p := ⟨b + 1, k, none⟩) (show b + 1 < q by omega)).trans (r4.at_ k v hk), fun k => (b5.frozen (p := ⟨b + 1, k, none⟩) (show b + 1 < q by omega)).trans (r4.fz k)⟩
      have c5 := S5.rf.at_ 1 _ rfl
      have d0 := r5.at_ 0 _ rfl
      have d1 := r5.at_ 1 _ rfl
      have f0 := r5.fz 0
      have f1 := r5.fz 1
      have HQ : Hid (RQ 0 (l.eraseIdx j) w (.returned (.agg #[.int .i64 0, .slice ua (l.eraseIdx j).length uc])) ((w5.setCell ⟨b + 1, 0, none⟩ (.int .i64 0)).setCell ⟨b + 1, 1, none⟩ (.slice ua (l.eraseIdx j).length uc))) := by
        have o1 := S5.own.kept (grownSet w5 (b + 1) 0 (.int .i64 0)) (blockCases _ _ fun i c1 c2 => by cases c2; have := (S5.own.lt _ c1).1; omega)
        have o2 := o1.kept (grownSet _ (b + 1) 1 (.slice ua (l.eraseIdx j).length uc)) (blockCases _ _ fun i c1 c2 => by cases c2; have := (S5.own.lt _ c1).1; omega)
        exact ⟨_, rfl, ownMonoR o2 (by omega), by rw [hb]; exact below_sets B5 (by omega) _ _⟩
      generalize (l.eraseIdx j).length = M at *
      clear S5 r5 r4 B4 B5 b5 hq
      go_wp2
      refine bodyPost_ret (v := .agg #[.int .i64 0, .slice ua M uc]) (by simp [results, Try.results12, go_sem, d0, d1]) rfl ?_
      rw [HR.out.1, HR.out.2]
      exact HQ.out
  · have HR : Hid (fgC l p = rf l ∧ fgL l p = []) := ⟨by unfold fgC; rw [if_neg h0], by unfold fgL; rw [if_neg (fun c => h0 c.1)]⟩
    have q : (rf l != 0) = true := by simpa using h0
    obtain ⟨R, hRe⟩ : ∃ R, rf l = R := ⟨_, rfl⟩
    rw [hRe] at hR q HR
    clear h0 hRe
    go_enter Try.func12, Try.ntmps12
    go_wp2_with fail
    refine hR.mono ?_
    clear hR hW1
    rintro e w2 ⟨rfl, b2⟩
    have B2 : Below b w w2 := b1.trans (b2.mono (by omega))
    have r2 := r1.below (by omega) b2
    have d0 := r2.at_ 0 _ rfl
    have d1 := r2.at_ 1 _ rfl
    have f0 := r2.fz 0
    have f1 := r2.fz 1
    clear r2 r1 p1 b2 b1 h1
    go_wp2
    refine bodyPost_ret (v := .agg #[.int .i64 R, .slice none 0 0]) (by simp [results, Try.results12, go_sem, d0, d1]) rfl ?_
    rw [HR.out.1, HR.out.2]
    exact rq0 (by rw [hb]; exact below_sets B2 (by omega) _ _)
end Go.Proofs.Ytibdlfojoafloaa.Ru
