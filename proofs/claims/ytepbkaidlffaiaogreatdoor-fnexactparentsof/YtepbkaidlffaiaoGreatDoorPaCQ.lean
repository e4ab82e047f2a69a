/- A commit of a store: the contracts of the program's commitOf and ParentsOf, of the specification's l9Commit and ParentsOf. No statement is proved here. -/
import Derived.Test.YtepbkaidlffaiaoGreatDoorRows
import Derived.Test.YtepbkaidlffaiaoGreatDoorLemQ
import Derived.Test.YtepbkaidlffaiaoGreatDoorComQ
import Derived.Test.YtepbkaidlffaiaoGreatDoorHkTQ
import Derived.Test.YtepbkaidlffaiaoGreatDoorTFQ
import Derived.Test.YtepbkaidlffaiaoGreatDoorAsCQ
import Derived.Test.YtepbkaidlffaiaoGreatDoorFiCQ
import Derived.Test.YtepbkaidlffaiaoGreatDoorIdMQ
import Derived.Test.YtepbkaidlffaiaoGreatDoorObLQ
import Derived.Test.YtepbkaidlffaiaoGreatDoorSfCQ
import Derived.Test.YtepbkaidlffaiaoGreatDoorGtSQ
import Derived.Test.YtepbkaidlffaiaoGreatDoorShMQ
import Derived.Test.YtepbkaidlffaiaoGreatDoorShQQ
import Derived.Test.YtepbkaidlffaiaoGreatDoorGoCQ
import Derived.Test.YtepbkaidlffaiaoGreatDoorDcLQ
import Derived.Test.YtepbkaidlffaiaoGreatDoorDcVQ
import Derived.Test.YtepbkaidlffaiaoGreatDoorDcWQ
import Derived.Test.YtepbkaidlffaiaoGreatDoorRcHQ
import Derived.Test.YtepbkaidlffaiaoGreatDoorRcCQ
import Derived.Test.YtepbkaidlffaiaoGreatDoorDcDQ
import Derived.WalkKit
import Derived.ProofKit
import Derived.Below
import Derived.WalkSpells
import Derived.Test.YtepbkaidlffaiaoGreatDoorTrGQ
import Derived.ChangeSame
import Derived.ChangeVars
import Derived.JoinedOf
import Derived.RowKit
import Derived.RowKitTokens
import Derived.LaidLaws
import Derived.LaidHandle
import Derived.LaidMore
import Derived.OpenShut
import Derived.OpenVars
import Derived.Lib.LaidTab
import Derived.Stop.Joined
set_option linter.unusedVariables false
namespace Go.Proofs.YtepbkaidlffaiaoGreatDoor.Dc
open Go.ChangeShapes Go.WideShapes Go.ChangeAt Go.RowKit

/-- What the laid variables hold, and that they lie below B. -/
structure Gs (B : Nat) (w : World) : Prop where
  ta : TaG w
  of_ : OfG w
  pe : PeG w
  er : ErrG w
  b1 : 6 < B
  b2 : 0 < B
  b3 : 2 < B
  b4 : 3 < B
theorem Gs.below {B C : Nat} {w w' : World} (h : Gs B w) (hb : Below C w w') (hC : B ≤ C) (hz : C ≤ w.heap.size) (he : 1 < C) : Gs B w' := by
  refine ⟨h.ta.below hb (Nat.lt_of_lt_of_le h.b1 hC), h.of_.below hb (Nat.lt_of_lt_of_le h.b2 hC), h.pe.below hb (Nat.lt_of_lt_of_le h.b3 hC) (Nat.lt_of_lt_of_le h.b4 hC), ?_, h.b1, h.b2, h.b3, h.b4⟩
  have := h.er
  unfold ErrG at this ⊢
  exact (hb.cell (p := ⟨1, 0, none⟩) he).trans this
theorem Gs.step {B : Nat} {w w' : World} (h : Gs B w) (hb : Below w.heap.size w w') (hB : B ≤ w.heap.size) : Gs B w' := h.below hb hB (Nat.le_refl _) h.er.lt

/-- A commit of a store: its code, and what is told of it. -/
def cmC (l : List Ob) (id : ByteArray) : Int := match gt l 3 id with
  | none => 4
  | some D => dcC D
def cmV (l : List Ob) (id : ByteArray) : Cm4 := match gt l 3 id with
  | none => (⟨#[]⟩, [], 0, ⟨#[]⟩)
  | some D => dcK D
theorem cm_none {l : List Ob} {id : ByteArray} (h : gt l 3 id = none) : cmC l id = 4 ∧ cmV l id = (⟨#[]⟩, [], 0, ⟨#[]⟩) := by unfold cmC cmV; rw [h]; exact ⟨rfl, rfl⟩
theorem cm_some {l : List Ob} {id D : ByteArray} (h : gt l 3 id = some D) : cmC l id = dcC D ∧ cmV l id = dcK D := by unfold cmC cmV; rw [h]; exact ⟨rfl, rfl⟩
def CO (r : Int) (c : Cm4) (w : World) (e : Ending) (w' : World) : Prop := ∃ v, e = .returned (.tuple #[.agg #[.string c.1, v, .int .i64 c.2.2.1, .string c.2.2.2], .int .i64 r]) ∧ w'.ownsRow w.heap.size 9 1 v c.2.1.length (c.2.1.map Value.string) ∧ Below w.heap.size w w'
theorem own4 {b n : Nat} {w : World} {e : TypeId} {s : Nat} {v : Value} {xs : List Value} (h : w.ownsRow (b + 1) e s v n xs) (x0 x1 x2 x3 : Value) : ((((w.setCell ⟨b, 0, none⟩ x0).setCell ⟨b, 1, none⟩ x1).setCell ⟨b, 2, none⟩ x2).setCell ⟨b, 3, none⟩ x3).ownsRow b e s v n xs :=
  rowDown (ownSet (ownSet (ownSet (ownSet h (by omega)) (by omega)) (by omega)) (by omega)) (by omega)
theorem rf4 {b : Nat} {w : World} {vs : List Value} (h : Rf w b vs) (hl : vs.length = 4) (x0 x1 x2 x3 : Value) : Rf ((((w.setCell ⟨b, 0, none⟩ x0).setCell ⟨b, 1, none⟩ x1).setCell ⟨b, 2, none⟩ x2).setCell ⟨b, 3, none⟩ x3) b [x0, x1, x2, x3] := by
  match vs, hl with
  | [_, _, _, _], _ => exact (((h.set (o := 0) (by simp) x0).set (o := 1) (by simp) x1).set (o := 2) (by simp) x2).set (o := 3) (by simp) x3
theorem gt_small {l : List Ob} {k : Int} {id D : ByteArray} (hs : SmallO l) (g : gt l k id = some D) : D.size ≤ 1048576 := by
  rcases fz_cases l id with e | ⟨i, e, hk, e2⟩
  · rw [gt_less e] at g; cases g
  · by_cases hkd : (l.getD i onil).2.1 = k
    · rw [gt_yes e hkd] at g
      have := hs _ (ob_mem l i hk)
      cases g
      exact this.2
    · rw [gt_no e hkd] at g; cases g
theorem shapeR {w : World} {base : Nat} {e : TypeId} {s : Nat} {v : Value} {n : Nat} {xs : List Value} (h : w.ownsRow base e s v n xs) : ∃ a c, v = .slice a n c := by
  rcases h.2 with ⟨h', h0'⟩ | ⟨g, c, cur, h', _⟩
  · exact ⟨none, 0, by rw [h', h0']⟩
  · exact ⟨_, _, h'⟩

set_option maxRecDepth 20000 in
set_option maxHeartbeats 2000000 in
theorem l9CommitC (a : Option Addr) (c : Nat) (l : List Ob) (id : ByteArray) (w : World) (h : OB w.heap.size w a l) (hs : SmallO l) (hn : l.length ≤ 1048576) :
    Calls Tryz.prog 24 #[.slice a l.length c, .string id] w fun e w' => CO (cmC l id) (cmV l id) w e w' := by
  obtain ⟨b, hb⟩ : ∃ b, w.heap.size = b := ⟨_, rfl⟩
  obtain ⟨W1, hW1⟩ : ∃ W1, w.alloc (.cells #[.string ⟨#[]⟩, .slice none 0 0, .int .i64 0, .string ⟨#[]⟩] 43) = W1 := ⟨_, rfl⟩
  have b1 : Below b w W1 := by rw [← hW1, ← hb]; exact allocBelow _ _
  have z1 : b < W1.heap.size := by rw [← hW1, ← hb]; simp
  have r1 : Rf W1 b [.string ⟨#[]⟩, .slice none 0 0, .int .i64 0, .string ⟨#[]⟩] := by rw [← hW1, ← hb]; exact Rf.new _ _ _
  rw [hb] at h
  have A1 : OB W1.heap.size W1 a l := (h.below (show Below w.heap.size w W1 by rw [hb]; exact b1)).mono (Nat.le_of_lt z1)
  have hG := l5Get a c l 3 id W1 A1 hn
  clear A1 h
  cases g : gt l 3 id with
  | none =>
    have HC : Hid _ := cm_none g
    rw [g] at hG
    have hG' : Calls Tryz.prog 45 #[.slice a l.length c, .int .i64 3, .string id] W1 fun e w' => e = .returned (.tuple #[.string ⟨#[]⟩, .bool false]) ∧ w' = W1 := hG
    have d0 := r1.at_ 0 _ rfl
    have d1 := r1.at_ 1 _ rfl
    have d2 := r1.at_ 2 _ rfl
    have d3 := r1.at_ 3 _ rfl
    have f0 := r1.fz 0
    have f1 := r1.fz 1
    have f2 := r1.fz 2
    have f3 := r1.fz 3
    have HR := fun x0 x1 x2 x3 => rf4 r1 rfl x0 x1 x2 x3
    clear hG r1 g
    go_enter Tryz.func24, Tryz.ntmps24
    go_wp2_with fail
    refine hG'.mono ?_; rintro e W1 ⟨rfl, rfl⟩
    go_wp2
    have R4 := HR (.string ⟨#[]⟩) (.slice none 0 0) (.int .i64 0) (.string ⟨#[]⟩)
    have g0 := R4.at_ 0 _ rfl
    have g1 := R4.at_ 1 _ rfl
    have g2 := R4.at_ 2 _ rfl
    have g3 := R4.at_ 3 _ rfl
    refine bodyPost_ret (v := .tuple #[.agg #[.string ⟨#[]⟩, .slice none 0 0, .int .i64 0, .string ⟨#[]⟩], .int .i64 4]) (by simp [results, Tryz.results24, go_sem, g0, g1, g2, g3]) rfl ?_
    unfold CO
    rw [HC.out.1, HC.out.2, hb]
    exact ⟨_, rfl, World.ownsRow_nil _ _ _ _, below_sets4 b1 (Nat.le_refl _) _ _ _ _⟩
  | some D =>
    have HC : Hid _ := cm_some g
    have hD := gt_small hs g
    rw [g] at hG
    have hG' : Calls Tryz.prog 45 #[.slice a l.length c, .int .i64 3, .string id] W1 fun e w' => e = .returned (.tuple #[.string D, .bool true]) ∧ w' = W1 := hG
    have hU := fun W => l6UncommitC D W hD
    clear hG g hs
    go_enter Tryz.func24, Tryz.ntmps24
    go_wp2_with fail
    refine hG'.mono ?_; rintro e W1 ⟨rfl, rfl⟩
    go_wp2_with fail
    refine (hU _).mono ?_
    rintro e w2 ⟨b2, he⟩
    have r2 := r1.below z1 b2
    have B2 : Below b w w2 := b1.trans (b2.mono (Nat.le_of_lt z1))
    have hz : b < w2.heap.size := Nat.lt_of_lt_of_le z1 b2.size
    clear hU r1 hW1 b1 hG'
    rcases he with ⟨hy, v, rfl, hrow⟩ | ⟨hy, t, la, ln, lc, tm, no, rfl⟩
    · have HY : Hid _ := dc_some (spec_yes hy)
      obtain ⟨la, lc, rfl⟩ := shapeR hrow
      obtain ⟨⟨t, ps, tm, no⟩, hC⟩ : ∃ c, sCm tI (spl D.data.toList) = c := ⟨_, rfl⟩
      rw [hC] at hrow HY ⊢
      have hrow1 := rowDown hrow (show b + 1 ≤ W1.heap.size from z1)
      obtain ⟨W3, hW3⟩ : ∃ W, w2.alloc (.cells #[.string t, .slice la ps.length lc, .int .i64 tm, .string no] 43) = W := ⟨_, rfl⟩
      have b3 : Below w2.heap.size w2 W3 := by rw [← hW3]; exact allocBelow _ _
      have R3 : Rs W3 w2.heap.size [.string t, .slice la ps.length lc, .int .i64 tm, .string no] := by rw [← hW3]; exact Rs.new _ _ _
      have r3 := r2.below hz b3
      have B3 : Below b w W3 := B2.trans (b3.mono (Nat.le_of_lt hz))
      have o3 : W3.ownsRow (b + 1) 9 1 (.slice la ps.length lc) ps.length (ps.map Value.string) := by rw [← hW3]; exact hrow1.alloc _
      have m0 := R3 0 _ rfl
      have m1 := R3 1 _ rfl
      have m2 := R3 2 _ rfl
      have m3 := R3 3 _ rfl
      have d0 := r3.at_ 0 _ rfl
      have d1 := r3.at_ 1 _ rfl
      have d2 := r3.at_ 2 _ rfl
      have d3 := r3.at_ 3 _ rfl
      have f0 := r3.fz 0
      have f1 := r3.fz 1
      have f2 := r3.fz 2
      have f3 := r3.fz 3
      have HR := fun x0 x1 x2 x3 => rf4 r3 rfl x0 x1 x2 x3
      clear hC hy hrow hrow1 b3 R3 r2 r3 B2
      go_wp2
      have R4 := HR (.string t) (.slice la ps.length lc) (.int .i64 tm) (.string no)
      have g0 := R4.at_ 0 _ rfl
      have g1 := R4.at_ 1 _ rfl
      have g2 := R4.at_ 2 _ rfl
      have g3 := R4.at_ 3 _ rfl
      refine bodyPost_ret (v := .tuple #[.agg #[.string t, .slice la ps.length lc, .int .i64 tm, .string no], .int .i64 0]) (by simp [results, Tryz.results24, go_sem, g0, g1, g2, g3]) rfl ?_
      unfold CO
      rw [HC.out.1, HC.out.2, HY.out.1, HY.out.2, hb]
      exact ⟨_, rfl, own4 o3 _ _ _ _, below_sets4 B3 (Nat.le_refl _) _ _ _ _⟩
    · have HY : Hid _ := dc_none (spec_no hy)
      obtain ⟨W3, hW3⟩ : ∃ W, w2.alloc (.cells #[.string t, .slice la ln lc, .int .i64 tm, .string no] 43) = W := ⟨_, rfl⟩
      have b3 : Below w2.heap.size w2 W3 := by rw [← hW3]; exact allocBelow _ _
      have r3 := r2.below hz b3
      have B3 : Below b w W3 := B2.trans (b3.mono (Nat.le_of_lt hz))
      have d0 := r3.at_ 0 _ rfl
      have d1 := r3.at_ 1 _ rfl
      have d2 := r3.at_ 2 _ rfl
      have d3 := r3.at_ 3 _ rfl
      have f0 := r3.fz 0
      have f1 := r3.fz 1
      have f2 := r3.fz 2
      have f3 := r3.fz 3
      have HR := fun x0 x1 x2 x3 => rf4 r3 rfl x0 x1 x2 x3
      clear hy b3 r2 r3 B2
      go_wp2
      have R4 := HR (.string ⟨#[]⟩) (.slice none 0 0) (.int .i64 0) (.string ⟨#[]⟩)
      have g0 := R4.at_ 0 _ rfl
      have g1 := R4.at_ 1 _ rfl
      have g2 := R4.at_ 2 _ rfl
      have g3 := R4.at_ 3 _ rfl
      refine bodyPost_ret (v := .tuple #[.agg #[.string ⟨#[]⟩, .slice none 0 0, .int .i64 0, .string ⟨#[]⟩], .int .i64 5]) (by simp [results, Tryz.results24, go_sem, g0, g1, g2, g3]) rfl ?_
      unfold CO
      rw [HC.out.1, HC.out.2, HY.out.1, HY.out.2, hb]
      exact ⟨_, rfl, World.ownsRow_nil _ _ _ _, below_sets4 B3 (Nat.le_refl _) _ _ _ _⟩
theorem fo_none {l : List Ob} {k : Int} {id : ByteArray} (h : gt l k id = none) : fo l k id = onil := by unfold fo; rw [h]
theorem fo_some {l : List Ob} {k : Int} {id D : ByteArray} (h : gt l k id = some D) : fo l k id = (id, k, D) := by unfold fo; rw [h]

set_option maxRecDepth 20000 in
set_option maxHeartbeats 2000000 in
theorem commitOfC (B p m : Nat) (l : List Ob) (x : Value) (id : ByteArray) (w : World) (hf : sf l = 0) (hR : Rf w p [.map (some m), x]) (hp : p < w.heap.size) (hS : Sh w m l) (hs : SmallO l) (hG : Gs B w) (hB : B ≤ w.heap.size) :
    Calls Tryz.prog 28 #[.pointer (some ⟨p, 0, none⟩), .string id] w fun e w' => CO (cmC l id) (cmV l id) w e w' := by
  obtain ⟨b, hb⟩ : ∃ b, w.heap.size = b := ⟨_, rfl⟩
  obtain ⟨W1, hW1⟩ : ∃ W1, w.alloc (.cells #[.string ⟨#[]⟩, .slice none 0 0, .int .i64 0, .string ⟨#[]⟩] 43) = W1 := ⟨_, rfl⟩
  have b1w : Below w.heap.size w W1 := by rw [← hW1]; exact allocBelow _ _
  have b1 : Below b w W1 := by rw [← hb]; exact b1w
  have z1 : b < W1.heap.size := by rw [← hW1, ← hb]; simp
  have r1 : Rf W1 b [.string ⟨#[]⟩, .slice none 0 0, .int .i64 0, .string ⟨#[]⟩] := by rw [← hW1, ← hb]; exact Rf.new _ _ _
  have G1 := hG.step b1w hB
  have hF := findC p m l x 3 id W1 hf (hR.below hp b1w) (by omega) (hS.below b1w)
  clear hR hS hG b1w
  cases g : gt l 3 id with
  | none =>
    have HC : Hid _ := cm_none g
    rw [fo_none g, g] at hF
    have hF' : Calls Tryz.prog 49 #[.pointer (some ⟨p, 0, none⟩), .int .i64 3, .string id] W1 fun e w' => e = .returned (.tuple #[.agg #[.string ⟨#[]⟩, .int .i64 0, .string ⟨#[]⟩], .bool false]) ∧ Below W1.heap.size W1 w' := hF
    clear hF g G1 hs hf
    go_enter Tryz.func28, Tryz.ntmps28
    go_wp2_with fail
    refine hF'.mono ?_; rintro e w2 ⟨rfl, b2⟩
    obtain ⟨W3, hW3⟩ : ∃ W, w2.alloc (.cells #[.string ⟨#[]⟩, .int .i64 0, .string ⟨#[]⟩] 46) = W := ⟨_, rfl⟩
    have b3 : Below w2.heap.size w2 W3 := by rw [← hW3]; exact allocBelow _ _
    have hz : b < w2.heap.size := Nat.lt_of_lt_of_le z1 b2.size
    have r2 := r1.below z1 b2
    have B2 : Below b w w2 := b1.trans (b2.mono (Nat.le_of_lt z1))
    have d0 := r2.at_ 0 _ rfl
    have d1 := r2.at_ 1 _ rfl
    have d2 := r2.at_ 2 _ rfl
    have d3 := r2.at_ 3 _ rfl
    have f0 := r2.fz 0
    have f1 := r2.fz 1
    have f2 := r2.fz 2
    have f3 := r2.fz 3
    have HR := fun x0 x1 x2 x3 (o : Obj) => (rf4 r2 rfl x0 x1 x2 x3).below (by simpa using hz) (allocBelow _ o)
    clear hF' r1 r2 b1 b2 b3 hW1 hW3
    go_wp2
    have R4 := HR (.string ⟨#[]⟩) (.slice none 0 0) (.int .i64 0) (.string ⟨#[]⟩) (.cells #[.string ⟨#[]⟩, .int .i64 0, .string ⟨#[]⟩] 46)
    have g0 := R4.at_ 0 _ rfl
    have g1 := R4.at_ 1 _ rfl
    have g2 := R4.at_ 2 _ rfl
    have g3 := R4.at_ 3 _ rfl
    refine bodyPost_ret (v := .tuple #[.agg #[.string ⟨#[]⟩, .slice none 0 0, .int .i64 0, .string ⟨#[]⟩], .int .i64 4]) (by simp [results, Tryz.results28, go_sem, g0, g1, g2, g3]) rfl ?_
    unfold CO
    rw [HC.out.1, HC.out.2, hb]
    exact ⟨_, rfl, World.ownsRow_nil _ _ _ _, (below_sets4 B2 (Nat.le_refl _) _ _ _ _).alloc (by simpa using Nat.le_of_lt hz) _⟩
  | some D =>
    have HC : Hid _ := cm_some g
    have hD := gt_small hs g
    rw [fo_some g, g] at hF
    have hF' : Calls Tryz.prog 49 #[.pointer (some ⟨p, 0, none⟩), .int .i64 3, .string id] W1 fun e w' => e = .returned (.tuple #[.agg #[.string id, .int .i64 3, .string D], .bool true]) ∧ Below W1.heap.size W1 w' := hF
    clear hF g hs hf
    go_enter Tryz.func28, Tryz.ntmps28
    go_wp2_with fail
    refine hF'.mono ?_; rintro e w2 ⟨rfl, b2⟩
    obtain ⟨W3, hW3⟩ : ∃ W, w2.alloc (.cells #[.string id, .int .i64 3, .string D] 46) = W := ⟨_, rfl⟩
    have b3 : Below w2.heap.size w2 W3 := by rw [← hW3]; exact allocBelow _ _
    have R3 : Rs W3 w2.heap.size [.string id, .int .i64 3, .string D] := by rw [← hW3]; exact Rs.new _ _ _
    have hz : b < w2.heap.size := Nat.lt_of_lt_of_le z1 b2.size
    have G2 := G1.step b2 (by omega)
    have G3 := G2.step b3 (by omega)
    have r3 := (r1.below z1 b2).below hz b3
    have B3 : Below b w W3 := (b1.trans (b2.mono (Nat.le_of_lt z1))).trans (b3.mono (Nat.le_of_lt hz))
    have hz3 : b < W3.heap.size := Nat.lt_of_lt_of_le hz b3.size
    have hB3 : B ≤ W3.heap.size := by omega
    have hRc := readCommitC D W3 hD G3.ta (Nat.lt_of_lt_of_le G3.b1 hB3) G3.of_ (Nat.lt_of_lt_of_le G3.b2 hB3) G3.pe (Nat.lt_of_lt_of_le G3.b3 hB3) (Nat.lt_of_lt_of_le G3.b4 hB3)
    have m2 := R3 2 _ rfl
    clear hF' r1 b1 b2 b3 hW1 R3 G1 G2 hD
    go_wp2_with fail
    refine hRc.mono ?_
    rintro e w4 ⟨b4, he⟩
    have r4 := r3.below hz3 b4
    have B4 : Below b w w4 := B3.trans (b4.mono (Nat.le_of_lt hz3))
    have hz4 : b < w4.heap.size := Nat.lt_of_lt_of_le hz3 b4.size
    have G4 := G3.step b4 hB3
    clear hRc r3 B3 hW3 m2 G3
    rcases he with ⟨t, ps, tm, no, v, hy, rfl, hrow⟩ | ⟨hy, t, la, ln, lc, tm, no, T, u, rfl⟩
    · have HY : Hid _ := dc_some hy
      obtain ⟨la, lc, rfl⟩ := shapeR hrow
      have hrow1 := rowDown hrow (show b + 1 ≤ W3.heap.size + 2 by omega)
      obtain ⟨W5, hW5⟩ : ∃ W, w4.alloc (.cells #[.string t, .slice la ps.length lc, .int .i64 tm, .string no] 43) = W := ⟨_, rfl⟩
      have b5 : Below w4.heap.size w4 W5 := by rw [← hW5]; exact allocBelow _ _
      have R5 : Rs W5 w4.heap.size [.string t, .slice la ps.length lc, .int .i64 tm, .string no] := by rw [← hW5]; exact Rs.new _ _ _
      have r5 := r4.below hz4 b5
      have B5 : Below b w W5 := B4.trans (b5.mono (Nat.le_of_lt hz4))
      have o5 : W5.ownsRow (b + 1) 9 1 (.slice la ps.length lc) ps.length (ps.map Value.string) := by rw [← hW5]; exact hrow1.alloc _
      have m0 := R5 0 _ rfl
      have m1 := R5 1 _ rfl
      have m2 := R5 2 _ rfl
      have m3 := R5 3 _ rfl
      have d0 := r5.at_ 0 _ rfl
      have d1 := r5.at_ 1 _ rfl
      have d2 := r5.at_ 2 _ rfl
      have d3 := r5.at_ 3 _ rfl
      have f0 := r5.fz 0
      have f1 := r5.fz 1
      have f2 := r5.fz 2
      have f3 := r5.fz 3
      have HR := fun x0 x1 x2 x3 => rf4 r5 rfl x0 x1 x2 x3
      clear hy hrow hrow1 b5 R5 r4 r5 B4 b4 G4
      go_wp2
      have R4 := HR (.string t) (.slice la ps.length lc) (.int .i64 tm) (.string no)
      have g0 := R4.at_ 0 _ rfl
      have g1 := R4.at_ 1 _ rfl
      have g2 := R4.at_ 2 _ rfl
      have g3 := R4.at_ 3 _ rfl
      refine bodyPost_ret (v := .tuple #[.agg #[.string t, .slice la ps.length lc, .int .i64 tm, .string no], .int .i64 0]) (by simp [results, Tryz.results28, go_sem, g0, g1, g2, g3]) rfl ?_
      unfold CO
      rw [HC.out.1, HC.out.2, HY.out.1, HY.out.2, hb]
      exact ⟨_, rfl, own4 o5 _ _ _ _, below_sets4 B5 (Nat.le_refl _) _ _ _ _⟩
    · have HY : Hid _ := dc_none hy
      obtain ⟨W5, hW5⟩ : ∃ W, w4.alloc (.cells #[.string t, .slice la ln lc, .int .i64 tm, .string no] 43) = W := ⟨_, rfl⟩
      have b5 : Below w4.heap.size w4 W5 := by rw [← hW5]; exact allocBelow _ _
      have r5 := r4.below hz4 b5
      have B5 : Below b w W5 := B4.trans (b5.mono (Nat.le_of_lt hz4))
      have hz5 : b < W5.heap.size := Nat.lt_of_lt_of_le hz4 b5.size
      have G5 := G4.step b5 (by omega)
      have hD := codeOf_read T u W5 G5.er
      clear hy b5 r4 B4 b4 G4 G5
      go_wp2_with fail
      refine hD.mono ?_
      rintro e w6 ⟨rfl, b6⟩
      have r6 := r5.below hz5 b6
      have B6 : Below b w w6 := B5.trans (b6.mono (Nat.le_of_lt hz5))
      have d0 := r6.at_ 0 _ rfl
      have d1 := r6.at_ 1 _ rfl
      have d2 := r6.at_ 2 _ rfl
      have d3 := r6.at_ 3 _ rfl
      have f0 := r6.fz 0
      have f1 := r6.fz 1
      have f2 := r6.fz 2
      have f3 := r6.fz 3
      have HR := fun x0 x1 x2 x3 => rf4 r6 rfl x0 x1 x2 x3
      clear hD r5 r6 b6 B5 hW5
      go_wp2
      have R4 := HR (.string ⟨#[]⟩) (.slice none 0 0) (.int .i64 0) (.string ⟨#[]⟩)
      have g0 := R4.at_ 0 _ rfl
      have g1 := R4.at_ 1 _ rfl
      have g2 := R4.at_ 2 _ rfl
      have g3 := R4.at_ 3 _ rfl
      refine bodyPost_ret (v := .tuple #[.agg #[.string ⟨#[]⟩, .slice none 0 0, .int .i64 0, .string ⟨#[]⟩], .int .i64 5]) (by simp [results, Tryz.results28, go_sem, g0, g1, g2, g3]) rfl ?_
      unfold CO
      rw [HC.out.1, HC.out.2, HY.out.1, HY.out.2, hb]
      exact ⟨_, rfl, World.ownsRow_nil _ _ _ _, below_sets4 B6 (Nat.le_refl _) _ _ _ _⟩
end Go.Proofs.YtepbkaidlffaiaoGreatDoor.Dc
/- The contracts of ParentsOf, the program's and the specification's. No statement is proved here. -/
set_option linter.unusedVariables false
namespace Go.Proofs.YtepbkaidlffaiaoGreatDoor.Dc
open Go.ChangeShapes Go.WideShapes Go.ChangeAt Go.RowKit

theorem cm_bad {l : List Ob} {id : ByteArray} (h : ¬ cmC l id = 0) : (cmV l id).2.1 = [] := by
  cases g : gt l 3 id with
  | none => rw [(cm_none g).2]
  | some D =>
    rw [(cm_some g).1] at h
    rw [(cm_some g).2]
    cases e : dcI pI D with
    | none => rw [(dc_none e).2]
    | some c => exact absurd (dc_some e).1 h
theorem cmV_ok (l : List Ob) (id : ByteArray) : (cmV l id).2.1.length ≤ 3 ∧ ∀ k, k < (cmV l id).2.1.length → ((cmV l id).2.1.getD k ByteArray.empty).size ≤ 9223372036854775807 := by
  cases g : gt l 3 id with
  | none => rw [(cm_none g).2]; exact ⟨by simp, fun k hk => by simp at hk⟩
  | some D => rw [(cm_some g).2]; exact dcK_ok D
/-- What ParentsOf answers. -/
def paR (l : List Ob) (id : ByteArray) : Int := if sf l = 0 then cmC l id else sf l
def paL (l : List Ob) (id : ByteArray) : List ByteArray := if sf l = 0 then (cmV l id).2.1 else []
theorem paL_ok (l : List Ob) (id : ByteArray) : (paL l id).length ≤ 3 ∧ ∀ k, k < (paL l id).length → ((paL l id).getD k ByteArray.empty).size ≤ 9223372036854775807 := by
  unfold paL
  split
  · exact cmV_ok l id
  · exact ⟨by simp, fun k hk => by simp at hk⟩
theorem lp_ret {r r' : Int} {L L' : List ByteArray} {w w' : World} {e : Ending} (h : LP r L w e w') (h1 : r = r') (h2 : L = L') : LP r' L' w e w' := by subst h1 h2; exact h
theorem own2 {b n : Nat} {w : World} {e : TypeId} {s : Nat} {v : Value} {xs : List Value} (h : w.ownsRow (b + 1) e s v n xs) (x0 x1 : Value) : ((w.setCell ⟨b, 0, none⟩ x0).setCell ⟨b, 1, none⟩ x1).ownsRow b e s v n xs :=
  rowDown (ownSet (ownSet h (by omega)) (by omega)) (by omega)
theorem rf2 {b : Nat} {w : World} {vs : List Value} (h : Rf w b vs) (hl : vs.length = 2) (x0 x1 : Value) : Rf ((w.setCell ⟨b, 0, none⟩ x0).setCell ⟨b, 1, none⟩ x1) b [x0, x1] := by
  match vs, hl with
  | [_, _], _ => exact (h.set (o := 0) (by simp) x0).set (o := 1) (by simp) x1
theorem below2 {b : Nat} {w w' : World} (h : Below b w w') (x0 x1 : Value) : Below b w ((w'.setCell ⟨b, 0, none⟩ x0).setCell ⟨b, 1, none⟩ x1) := setBelow (setBelow h (Nat.le_refl _)) (Nat.le_refl _)

set_option maxRecDepth 20000 in
set_option maxHeartbeats 2000000 in
theorem specParentsOf (a : Option Addr) (c : Nat) (l : List Ob) (id : ByteArray) (w : World) (h : OB w.heap.size w a l) (hs : SmallO l) (hn : l.length ≤ 1048576) :
    Calls Tryz.prog 8 #[.slice a l.length c, .string id] w fun e w' => LP (paR l id) (paL l id) w e w' := by
  obtain ⟨b, hb⟩ : ∃ b, w.heap.size = b := ⟨_, rfl⟩
  obtain ⟨W1, hW1⟩ : ∃ W1, w.alloc (.cells #[.int .i64 0, .slice none 0 0] 26) = W1 := ⟨_, rfl⟩
  have b1w : Below w.heap.size w W1 := by rw [← hW1]; exact allocBelow _ _
  have b1 : Below b w W1 := by rw [← hb]; exact b1w
  have z1 : b < W1.heap.size := by rw [← hW1, ← hb]; simp
  have r1 : Rf W1 b [.int .i64 0, .slice none 0 0] := by rw [← hW1, ← hb]; exact Rf.new _ _ _
  have A1 : OB W1.heap.size W1 a l := (h.below b1w).mono b1w.size
  have hA := specStoreFault a c l W1 A1 hs hn
  have hC := fun W h => l9CommitC a c l id W h hs hn
  clear h b1w
  go_enter Tryz.func8, Tryz.ntmps8
  go_wp2_with fail
  refine hA.mono ?_; rintro e w2 ⟨rfl, b2⟩
  have r2 := r1.below z1 b2
  have B2 : Below b w w2 := b1.trans (b2.mono (Nat.le_of_lt z1))
  have hz2 : b < w2.heap.size := Nat.lt_of_lt_of_le z1 b2.size
  have A2 : OB w2.heap.size w2 a l := (A1.below b2).mono b2.size
  clear hA r1 b1 b2 hW1 A1
  by_cases e0 : sf l = 0
  · have HP : Hid (cmC l id = paR l id ∧ (cmV l id).2.1 = paL l id) := ⟨by unfold paR; rw [if_pos e0], by unfold paL; rw [if_pos e0]⟩
    rw [e0]
    clear e0
    go_wp2_with fail
    refine (hC _ A2).mono ?_; rintro e w3 ⟨v, rfl, hrow, b3⟩
    obtain ⟨la, lc, rfl⟩ := shapeR hrow
    obtain ⟨R, hR⟩ : ∃ R, cmC l id = R := ⟨_, rfl⟩
    obtain ⟨⟨t, ps, tm, no⟩, hV⟩ : ∃ V, cmV l id = V := ⟨_, rfl⟩
    rw [hR, hV] at HP ⊢
    rw [hV] at hrow
    have hrow1 := rowDown hrow (show b + 1 ≤ w2.heap.size from hz2)
    have r3 := r2.below hz2 b3
    have B3 : Below b w w3 := B2.trans (b3.mono (Nat.le_of_lt hz2))
    have hz3 : b < w3.heap.size := Nat.lt_of_lt_of_le hz2 b3.size
    obtain ⟨W4, hW4⟩ : ∃ W, w3.alloc (.cells #[.string t, .slice la ps.length lc, .int .i64 tm, .string no] 43) = W := ⟨_, rfl⟩
    have b4 : Below w3.heap.size w3 W4 := by rw [← hW4]; exact allocBelow _ _
    have R4 : Rs W4 w3.heap.size [.string t, .slice la ps.length lc, .int .i64 tm, .string no] := by rw [← hW4]; exact Rs.new _ _ _
    have r4 := r3.below hz3 b4
    have B4 : Below b w W4 := B3.trans (b4.mono (Nat.le_of_lt hz3))
    have o4 : W4.ownsRow (b + 1) 9 1 (.slice la ps.length lc) ps.length (ps.map Value.string) := by rw [← hW4]; exact hrow1.alloc _
    have m1 := R4 1 _ rfl
    have d0 := r4.at_ 0 _ rfl
    have d1 := r4.at_ 1 _ rfl
    have f0 := r4.fz 0
    have f1 := r4.fz 1
    have HR := fun x0 x1 => rf2 r4 rfl x0 x1
    clear hC r2 r3 r4 B2 B3 b3 b4 R4 hrow hrow1 hR hV A2
    go_wp2
    have R5 := HR (.int .i64 R) (.slice la ps.length lc)
    have g0 := R5.at_ 0 _ rfl
    have g1 := R5.at_ 1 _ rfl
    refine bodyPost_ret (v := .agg #[.int .i64 R, .slice la ps.length lc]) (by simp [results, Tryz.results8, go_sem, g0, g1]) rfl ?_
    refine lp_ret ?_ HP.out.1 HP.out.2
    unfold LP
    rw [hb]
    exact ⟨_, rfl, own2 o4 _ _, below2 B4 _ _⟩
  · have HP : Hid (sf l = paR l id ∧ [] = paL l id) := ⟨by unfold paR; rw [if_neg e0], by unfold paL; rw [if_neg e0]⟩
    have q0 : (sf l != 0) = true := ne_beq e0
    have d0 := r2.at_ 0 _ rfl
    have d1 := r2.at_ 1 _ rfl
    have f0 := r2.fz 0
    have f1 := r2.fz 1
    have HR := fun x0 x1 => rf2 r2 rfl x0 x1
    clear hC r2 A2 e0
    go_wp2
    have R5 := HR (.int .i64 (sf l)) (.slice none 0 0)
    have g0 := R5.at_ 0 _ rfl
    have g1 := R5.at_ 1 _ rfl
    refine bodyPost_ret (v := .agg #[.int .i64 (sf l), .slice none 0 0]) (by simp [results, Tryz.results8, go_sem, g0, g1]) rfl ?_
    refine lp_ret ?_ HP.out.1 HP.out.2
    unfold LP
    rw [hb]
    exact ⟨_, rfl, World.ownsRow_nil _ _ _ _, below2 B2 _ _⟩

set_option maxRecDepth 20000 in
set_option maxHeartbeats 2000000 in
theorem implParentsOf (B : Nat) (a : Option Addr) (c : Nat) (l : List Ob) (id : ByteArray) (w : World) (h : OB w.heap.size w a l) (hs : SmallO l) (hn : l.length ≤ 1048576) (hG : Gs B w) (hB : B ≤ w.heap.size) :
    Calls Tryz.prog 10 #[.slice a l.length c, .string id] w fun e w' => LP (paR l id) (paL l id) w e w' := by
  obtain ⟨b, hb⟩ : ∃ b, w.heap.size = b := ⟨_, rfl⟩
  obtain ⟨W1, hW1⟩ : ∃ W1, w.alloc (.cells #[.int .i64 0, .slice none 0 0] 26) = W1 := ⟨_, rfl⟩
  have b1w : Below w.heap.size w W1 := by rw [← hW1]; exact allocBelow _ _
  have b1 : Below b w W1 := by rw [← hb]; exact b1w
  have z1 : b < W1.heap.size := by rw [← hW1, ← hb]; simp
  have r1 : Rf W1 b [.int .i64 0, .slice none 0 0] := by rw [← hW1, ← hb]; exact Rf.new _ _ _
  have A1 : OB W1.heap.size W1 a l := (h.below b1w).mono b1w.size
  have G1 := hG.step b1w hB
  have hA := implStoreFault a c l W1 A1 hs hn
  have hSh := fun w h (hf : sf l = 0) => shelfOfC a c l w h hf
  have hBb : B ≤ b := by omega
  clear h b1w hG
  go_enter Tryz.func10, Tryz.ntmps10
  go_wp2_with fail
  refine hA.mono ?_; rintro e w2 ⟨rfl, b2⟩
  have r2 := r1.below z1 b2
  have B2 : Below b w w2 := b1.trans (b2.mono (Nat.le_of_lt z1))
  have hz2 : b < w2.heap.size := Nat.lt_of_lt_of_le z1 b2.size
  have A2 : OB w2.heap.size w2 a l := (A1.below b2).mono b2.size
  have G2 := G1.step b2 (by omega)
  clear hA r1 b1 b2 hW1 A1 G1
  by_cases e0 : sf l = 0
  · have HP : Hid (cmC l id = paR l id ∧ (cmV l id).2.1 = paL l id) := ⟨by unfold paR; rw [if_pos e0], by unfold paL; rw [if_pos e0]⟩
    have HZ : Hid (¬ cmC l id = 0 → (cmV l id).2.1 = []) := fun h => cm_bad h
    have hCo := fun B p m x w => commitOfC B p m l x id w e0
    have hSh := fun w h => hSh w h e0
    rw [e0]
    clear e0
    go_wp2_with fail
    refine (hSh _ A2).mono ?_; rintro e w3 ⟨rfl, sR, sS, b3, z3⟩
    have r3 := r2.below hz2 b3
    have B3 : Below b w w3 := B2.trans (b3.mono (Nat.le_of_lt hz2))
    have hz3 : b < w3.heap.size := Nat.lt_of_lt_of_le hz2 b3.size
    have G3 := G2.step b3 (by omega)
    clear hSh r2 B2 b3 A2 G2
    go_wp2_with fail
    refine (hCo B _ _ _ _ sR z3 sS hs G3 (by omega)).mono ?_; rintro e w4 ⟨v, rfl, hrow, b4⟩
    obtain ⟨la, lc, rfl⟩ := shapeR hrow
    obtain ⟨R, hR⟩ : ∃ R, cmC l id = R := ⟨_, rfl⟩
    obtain ⟨⟨t, ps, tm, no⟩, hV⟩ : ∃ V, cmV l id = V := ⟨_, rfl⟩
    rw [hR, hV] at HP HZ ⊢
    rw [hV] at hrow
    have hrow1 := rowDown hrow (show b + 1 ≤ w3.heap.size from hz3)
    have r4 := r3.below hz3 b4
    have B4 : Below b w w4 := B3.trans (b4.mono (Nat.le_of_lt hz3))
    have hz4 : b < w4.heap.size := Nat.lt_of_lt_of_le hz3 b4.size
    obtain ⟨W5, hW5⟩ : ∃ W, w4.alloc (.cells #[.string t, .slice la ps.length lc, .int .i64 tm, .string no] 43) = W := ⟨_, rfl⟩
    have b5 : Below w4.heap.size w4 W5 := by rw [← hW5]; exact allocBelow _ _
    have R5 : Rs W5 w4.heap.size [.string t, .slice la ps.length lc, .int .i64 tm, .string no] := by rw [← hW5]; exact Rs.new _ _ _
    have r5 := r4.below hz4 b5
    have B5 : Below b w W5 := B4.trans (b5.mono (Nat.le_of_lt hz4))
    have o5 : W5.ownsRow (b + 1) 9 1 (.slice la ps.length lc) ps.length (ps.map Value.string) := by rw [← hW5]; exact hrow1.alloc _
    have m1 := R5 1 _ rfl
    have d0 := r5.at_ 0 _ rfl
    have d1 := r5.at_ 1 _ rfl
    have f0 := r5.fz 0
    have f1 := r5.fz 1
    have HR := fun x0 x1 => rf2 r5 rfl x0 x1
    clear hCo r3 r4 r5 B3 B4 b4 b5 R5 hrow hrow1 hR hV G3 sR sS
    by_cases eR : R = 0
    · subst eR
      clear HZ
      go_wp2
      have R6 := HR (.int .i64 0) (.slice la ps.length lc)
      have g0 := R6.at_ 0 _ rfl
      have g1 := R6.at_ 1 _ rfl
      refine bodyPost_ret (v := .agg #[.int .i64 0, .slice la ps.length lc]) (by simp [results, Tryz.results10, go_sem, g0, g1]) rfl ?_
      refine lp_ret ?_ HP.out.1 HP.out.2
      unfold LP
      rw [hb]
      exact ⟨_, rfl, own2 o5 _ _, below2 B5 _ _⟩
    · have HZ' : Hid (ps = []) := HZ.out eR
      have q0 : (R != 0) = true := ne_beq eR
      clear HZ eR
      go_wp2
      have R6 := HR (.int .i64 R) (.slice none 0 0)
      have g0 := R6.at_ 0 _ rfl
      have g1 := R6.at_ 1 _ rfl
      refine bodyPost_ret (v := .agg #[.int .i64 R, .slice none 0 0]) (by simp [results, Tryz.results10, go_sem, g0, g1]) rfl ?_
      refine lp_ret (L := []) ?_ HP.out.1 (by rw [← HP.out.2, HZ'.out])
      unfold LP
      rw [hb]
      exact ⟨_, rfl, World.ownsRow_nil _ _ _ _, below2 B5 _ _⟩
  · have HP : Hid (sf l = paR l id ∧ [] = paL l id) := ⟨by unfold paR; rw [if_neg e0], by unfold paL; rw [if_neg e0]⟩
    have q0 : (sf l != 0) = true := ne_beq e0
    have d0 := r2.at_ 0 _ rfl
    have d1 := r2.at_ 1 _ rfl
    have f0 := r2.fz 0
    have f1 := r2.fz 1
    have HR := fun x0 x1 => rf2 r2 rfl x0 x1
    clear hSh r2 A2 e0 G2
    go_wp2
    have R5 := HR (.int .i64 (sf l)) (.slice none 0 0)
    have g0 := R5.at_ 0 _ rfl
    have g1 := R5.at_ 1 _ rfl
    refine bodyPost_ret (v := .agg #[.int .i64 (sf l), .slice none 0 0]) (by simp [results, Tryz.results10, go_sem, g0, g1]) rfl ?_
    refine lp_ret ?_ HP.out.1 HP.out.2
    unfold LP
    rw [hb]
    exact ⟨_, rfl, World.ownsRow_nil _ _ _ _, below2 B2 _ _⟩
end Go.Proofs.YtepbkaidlffaiaoGreatDoor.Dc
/- What the laid variables of the laws over a store with commits give a walk. No statement is proved here. -/
namespace Go.Proofs.YtepbkaidlffaiaoGreatDoor.Dc
open Go.ChangeShapes Go.WideShapes Go.ChangeAt Go.RowKit

theorem gOf : Tryz.prog.globalNamed "loop.example/g00172/impl.errOtherForm" = some 0 := by kernel_rfl
theorem tOf : (Tryz.prog.globals[0]?).map (·.type) = some 83 := by kernel_rfl
theorem gSy : Tryz.prog.globalNamed "strconv.ErrSyntax" = some 2 := by kernel_rfl
theorem tSy : (Tryz.prog.globals[2]?).map (·.type) = some 83 := by kernel_rfl
theorem gRa : Tryz.prog.globalNamed "strconv.ErrRange" = some 3 := by kernel_rfl
theorem tRa : (Tryz.prog.globals[3]?).map (·.type) = some 83 := by kernel_rfl
theorem err_of1 {W : World} {cs : Array Value} {name : String} {g fuel : Nat} {p : List MemPlace} (hg : Tryz.prog.globalNamed name = some g) (hv : W.var? Tryz.prog name = some cs) (hd : DataW.trod (fun _ => ()) Tryz.prog W 0 (fun _ => true) false fuel 83 cs.toList = some (Rows.laid_strconv_ErrSyntax, p)) : ∃ (T : TypeId) (u : Value), W.cell? ⟨g, 0, none⟩ = some (.iface T u) := by
  obtain ⟨f1, u, v, e, _, _⟩ := iface_of_trod Tryz.underlying83 hd
  have e' : cs = #[.iface u v] := by cases cs; simpa using e
  subst e'
  have k0 := World.var?_cell hg hv 0
  exact ⟨u, v, by simpa using k0⟩
theorem err_of2 {W : World} {cs : Array Value} {name : String} {g fuel : Nat} {p : List MemPlace} (hg : Tryz.prog.globalNamed name = some g) (hv : W.var? Tryz.prog name = some cs) (hd : DataW.trod (fun _ => ()) Tryz.prog W 0 (fun _ => true) false fuel 83 cs.toList = some (Rows.laid_strconv_ErrRange, p)) : ∃ (T : TypeId) (u : Value), W.cell? ⟨g, 0, none⟩ = some (.iface T u) := by
  obtain ⟨f1, u, v, e, _, _⟩ := iface_of_trod Tryz.underlying83 hd
  have e' : cs = #[.iface u v] := by cases cs; simpa using e
  subst e'
  have k0 := World.var?_cell hg hv 0
  exact ⟨u, v, by simpa using k0⟩
theorem err_of3 {W : World} {cs : Array Value} {name : String} {g fuel : Nat} {p : List MemPlace} (hg : Tryz.prog.globalNamed name = some g) (hv : W.var? Tryz.prog name = some cs) (hd : DataW.trod (fun _ => ()) Tryz.prog W 0 (fun _ => true) false fuel 83 cs.toList = some (Rows.laid_loop_example_g00172_impl_errOtherForm, p)) : ∃ (T : TypeId) (u : Value), W.cell? ⟨g, 0, none⟩ = some (.iface T u) := by
  obtain ⟨f1, u, v, e, _, _⟩ := iface_of_trod Tryz.underlying83 hd
  have e' : cs = #[.iface u v] := by cases cs; simpa using e
  subst e'
  have k0 := World.var?_cell hg hv 0
  exact ⟨u, v, by simpa using k0⟩
theorem pa_laid {W : World} (h : laidMetH Tryz.prog Rows.fnExactParentsOfRow.laid W) : TaG W ∧ OfG W ∧ PeG W ∧ ErrG W := by
  have h' : laidMet Tryz.prog [("math/bits.deBruijn32tab", Rows.laid_math_bits_deBruijn32tab), ("math/bits.deBruijn64tab", Rows.laid_math_bits_deBruijn64tab), ("internal/strconv.uint64pow10", Lib.tabData .u64 Lib.pow10Tab), ("strconv.ErrRange", Rows.laid_strconv_ErrRange), ("strconv.ErrSyntax", Rows.laid_strconv_ErrSyntax), ("loop.example/g00172/impl.modeWords", Rows.laid_loop_example_g00172_impl_modeWords), ("loop.example/g00172/impl.errOtherForm", Rows.laid_loop_example_g00172_impl_errOtherForm)] W ∧ handlesMet Tryz.prog [("errors.errorType", Rows.laid_errors_errorType)] W := h
  obtain ⟨ps, ⟨_, _, _, _, _, _, _, _, _, _, ⟨_, _, _, _, _, _, _, _, _, _, ⟨gpow, tpow, cspow, fpow, ppow, qpow, hgpow, htpow, hvpow, hdpow, ⟨grng, trng, csrng, frng, prng, qrng, hgrng, htrng, hvrng, hdrng, ⟨gsyn, tsyn, cssyn, fsyn, psyn, qsyn, hgsyn, htsyn, hvsyn, hdsyn, ⟨_, _, _, _, _, _, _, _, _, _, ⟨gof, tof, csof, fof, pof, qof, hgof, htof, hvof, hdof, _, _⟩, _⟩, _⟩, _⟩, _⟩, _⟩, _⟩, _, _⟩ := h'.1
  obtain rfl := Option.some.inj (gTa.symm.trans hgpow)
  obtain rfl := Option.some.inj (Cm.tTa.symm.trans htpow)
  obtain rfl := Option.some.inj (gRa.symm.trans hgrng)
  obtain rfl := Option.some.inj (tRa.symm.trans htrng)
  obtain rfl := Option.some.inj (gSy.symm.trans hgsyn)
  obtain rfl := Option.some.inj (tSy.symm.trans htsyn)
  obtain rfl := Option.some.inj (gOf.symm.trans hgof)
  obtain rfl := Option.some.inj (tOf.symm.trans htof)
  exact ⟨Cm.tab_of Tryz.underlying240 Tryz.underlying169 (by kernel_rfl) (by kernel_rfl) hvpow hdpow, err_of3 gOf hvof hdof, ⟨err_of1 gSy hvsyn hdsyn, err_of2 gRa hvrng hdrng⟩, Te.errG_of h'.2⟩
theorem pa_met (os : Os) (args : Array Value) : laidMetH Tryz.prog Rows.fnExactParentsOfRow.laid ((World.doorLaid Tryz.prog 400 os).forCall (fun _ _ => 0) ⟨#[], args, []⟩).memory :=
  laidMetH_of_parts3 (fuel := 8) (laidMet_of_run' 8 (by kernel_rfl) (by kernel_rfl)) (by kernel_rfl) (by kernel_rfl)
end Go.Proofs.YtepbkaidlffaiaoGreatDoor.Dc
