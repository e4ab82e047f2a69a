/- Proved: at every []byte FnDeltas returns true (the deltas of two lists of files make the second of the first; a list of files has no deltas to itself; both sides answer the same codes and as many deltas). Its condition: the laid variables hold what the row says (the tied card FnDeltasCardSaid). -/
import Derived.Test.YtkgcpndnlefkoaaGreatDoorRows
import Derived.Test.YtkgcpndnlefkoaaGreatDoorLemQ
import Derived.Test.YtkgcpndnlefkoaaGreatDoorLFLemQ
import Derived.Test.YtkgcpndnlefkoaaGreatDoorDTabQ
import Derived.Test.YtkgcpndnlefkoaaGreatDoorInQ
import Derived.Test.YtkgcpndnlefkoaaGreatDoorFfCQ
import Derived.Test.YtkgcpndnlefkoaaGreatDoorDfMQ
import Derived.Test.YtkgcpndnlefkoaaGreatDoorDfBQ
import Derived.Test.YtkgcpndnlefkoaaGreatDoorDfPQ
import Derived.Test.YtkgcpndnlefkoaaGreatDoorDlLQ
import Derived.Test.YtkgcpndnlefkoaaGreatDoorDfGQ
import Derived.Test.YtkgcpndnlefkoaaGreatDoorApMQ
import Derived.Test.YtkgcpndnlefkoaaGreatDoorApQQ
import Derived.Test.YtkgcpndnlefkoaaGreatDoorDfSQ
import Derived.Test.YtkgcpndnlefkoaaGreatDoorDfKQ
import Derived.Test.YtkgcpndnlefkoaaGreatDoorFbIQ
import Derived.Test.YtkgcpndnlefkoaaGreatDoorFaIQ
import Derived.Test.YtkgcpndnlefkoaaGreatDoorLwEQ
import Derived.Test.YtkgcpndnlefkoaaGreatDoorDrawQ
import Derived.Test.YtkgcpndnlefkoaaGreatDoorDraw40Q
import Derived.Test.YtkgcpndnlefkoaaGreatDoorDraw41Q
import Derived.Test.YtkgcpndnlefkoaaGreatDoorDraw44Q
import Derived.Test.YtkgcpndnlefkoaaGreatDoorTie
import Derived.Test.YtkgcpndnlefkoaaGreatDoorCards
import Derived.WalkKit
import Derived.ProofKit
import Derived.OpenShut
import Derived.Below
import Derived.Carry
import Derived.ChangeVars
import Derived.OpenVars
import Derived.LaidMore
import Derived.Lay
import Derived.SevenTiedAt
import Derived.Stop.Joined
import Derived.JoinedOf
import Derived.WalkSpells
import Derived.Deep.QuietTactic
import Derived.BigQuiet
import Derived.Deep.RegionWith
import Derived.Deep.RegionHeld
import Derived.Deep.Cut
import Derived.Deep.CutRange
import Derived.Maps.AppendAt
namespace Go.Proofs.YtkgcpndnlefkoaaGreatDoor.FdF
open Go.ChangeShapes Go.WideShapes Go.ChangeAt Go.RowKit
open Go.Proofs.YtkgcpndnlefkoaaGreatDoor.En
set_option linter.unusedVariables false
theorem takeD {P : Program} {md : Region.Mode} {ops : Array Oper} {Q : Exit → Act → World → Prop} {S : World → Prop} {i d : Nat} {oi : Oper} {v : Value} {fuel : Nat} {listed listed' : Array Bool} {a : Act} {w : World} (hi : ops[i]? = some oi)
    (hs : Region.noSelect ops = true) (hf : Region.free md ops listed i = true) (hr : (Region.ready md ops listed).contains i = true)
    (hQ : ∀ c a w, Q (.panic c) (a.put oi.dst v) w → Q (.panic c) a w) (hy : YieldsIf P ops S oi v a) (hS : S w) (hd : oi.dst = some d) (hl : listed.setIfInBounds i true = listed')
    (h : wpAnyH P md ops Q S fuel listed' (a.put (some d) v) w) : wpAnyH P md ops Q S (fuel + 1) listed a w := by
  subst hl
  exact wpAnyH_take hi hs hf hr hQ hy hS (by rw [hd]; exact h)
theorem lwBig (a : Option Addr) (n cap : Nat) (w : World) : Calls Tryz.prog 4 #[.slice a n cap] w fun e w' => e = .returned (.bool (decide ((1048576 : Int) < (n : Int)))) ∧ w' = w := by
  go_enter Tryz.func4, Tryz.ntmps4
  go_wp2
  go_ret
  exact ⟨rfl, rfl⟩
theorem enterDf : ∀ vs w, (callFunc 7 vs).run Tryz.prog w = .ok (.enter 7 vs) w := fun vs w => by
  have h1 : (Tryz.f7.name == "runtime.NumGoroutine") = false := by kernel_rfl
  have hb : Tryz.f7.body.isNone = false := by kernel_rfl
  have h2 : ¬ Tryz.f7.name = "runtime.NumGoroutine" := by simpa using h1
  have h3 : ¬ Tryz.f7.body = none := fun e => by rw [e] at hb; cases hb
  simp [callFunc, Tryz.func7, h2, h3]
theorem belowN9 {W : World} (n : Nat) : Below W.heap.size W (W.drewN n) := ⟨rfl, rfl, rfl, Nat.le_refl _, fun _ _ => rfl⟩
theorem smOf {z : Nat} {l : List Fl.Ob} (h : SmF z l) (hz : z ≤ 1048576) : Fl.SmallO l := fun o ho => ⟨Nat.le_trans (h o ho).1 hz, Nat.le_trans (h o ho).2 hz⟩
theorem smD {a b : List Fl.Ob} (ha : Fl.SmallO a) (hb : Fl.SmallO b) : Dl.SmallO (Fl.dfL a b) := fun d hd => by
  unfold Fl.dfL at hd
  split at hd
  · obtain ⟨h0, _, h1, h2⟩ := Fl.dfA_mem hd
    have hp : d.1.size ≤ 1048576 := Fl.ps_small ha hb d.1 h0
    rw [h1, h2]
    exact ⟨hp, (Fl.fa_small ha _).1, (Fl.fa_small ha _).2, (Fl.fa_small hb _).1, (Fl.fa_small hb _).2⟩
  · cases hd
theorem lenD (a b : List Fl.Ob) : (Fl.dfL a b).length ≤ a.length + b.length := by
  unfold Fl.dfL
  split
  · have h1 := Fl.dfA_len a b (Fl.ps (Fl.pths a b))
    have h2 := Fl.ps_len (Fl.pths a b)
    have h3 : (Fl.pths a b).length = a.length + b.length := by simp [Fl.pths]
    omega
  · simp
theorem fvBel {q g c m z : Nat} {w w' : World} {l : List Fl.Ob} (h : FV q g c m z w l) (b : Below w.heap.size w w') : FV q g c m z w' l := h.kept (grown_of_below b _)
set_option maxRecDepth 20000 in
set_option maxHeartbeats 16000000 in
theorem walk (a0 : Option Addr) (n cap : Nat) (w : World) (h : Bts w a0 n) (hm : n ≤ 9223372036854775807) :
    Calls Tryz.prog 3 #[.slice a0 n cap] w fun e w' => e = .returned (.bool true) ∧ Below w.heap.size w w' := by
  by_cases hbig : (1048576 : Int) < (n : Int)
  · go_enter Tryz.func3, Tryz.ntmps3
    go_wp2_with (go_at_call 4; refine (lwBig _ _ _ _).mono ?_; rintro e w' ⟨rfl, rfl⟩)
    go_ret
    exact ⟨rfl, Below.refl _ _⟩
  have hn : n ≤ 1048576 := by omega
  go_enter Tryz.func3, Tryz.ntmps3
  go_wp2_with fail
  refine (lwBig _ _ _ _).mono ?_; rintro e w ⟨rfl, rfl⟩
  go_wp2_with fail
  refine (drawDiffFiles a0 n cap _ h (by omega)).mono ?_; rintro e w1 ⟨g1, c1, a, g2, c2, b, rfl, F1, F2, b1⟩
  have sA := smOf F1.sm (by omega)
  have sB := smOf F2.sm (by omega)
  have lA := F1.len
  have lB := F2.len
  have hSp := fun W (hb : Below w1.heap.size w1 W) => Fl.specDiffFiles (some ⟨g1, 0, none⟩) (some ⟨g2, 0, none⟩) c1 c2 a b W (fvBel F1 hb).ob (fvBel F2 hb).ob (fun h => by cases h) (fun h => by cases h) sA sB (by omega) (by omega)
  have hIm := Fl.implDiffFiles (some ⟨g1, 0, none⟩) (some ⟨g2, 0, none⟩) c1 c2 a b w1 F1.ob F2.ob (fun h => by cases h) (fun h => by cases h) sA sB (by omega) (by omega)
  have hSa := fun W (hb : Below w1.heap.size w1 W) => Fl.implDiffFiles (some ⟨g1, 0, none⟩) (some ⟨g1, 0, none⟩) c1 c1 a a W (fvBel F1 hb).ob (fvBel F1 hb).ob (fun h => by cases h) (fun h => by cases h) sA sA (by omega) (by omega)
  have hAp := fun (da : Option Addr) (dc : Nat) W (hb : Below w1.heap.size w1 W) (hd : Dl.OB W.heap.size W da (Fl.dfL a b)) => Fl.implApplyDeltas g1 da c1 dc a (Fl.dfL a b) W (fvBel F1 hb).ob hd F1.cap sA (smD sA sB) (by have := lenD a b; omega)
  have hLaw := fun h => Fl.fd_law (a := a) (b := b) h
  have hLL0 : (Fl.dfL a b).length ≤ 1048576 := by have := lenD a b; omega
  unfold Fl.DE at hSp hIm hSa
  unfold Fl.FE at hAp
  obtain ⟨L, hL⟩ : ∃ L, Fl.dfL a b = L := ⟨_, rfl⟩
  obtain ⟨R, hR⟩ : ∃ R, Fl.dfR a b = R := ⟨_, rfl⟩
  simp only [hL, hR] at hSp hIm hAp hLaw hLL0
  clear hL hR h hbig hm sA sB
  go_wp2_with fail
  refine hIm.mono ?_; rintro e w2 ⟨vD, rfl, oD, b2⟩
  obtain ⟨da, dc, rfl⟩ := Fl.shapeK3 oD
  obtain ⟨p5, hp5⟩ : ∃ p, w2.heap.size = p := ⟨_, rfl⟩
  obtain ⟨W3, hW3⟩ : ∃ W, w2.alloc (.cells #[.int .i64 R, .slice da L.length dc] 29) = W := ⟨_, rfl⟩
  have b3 : Below w2.heap.size w2 W3 := by rw [← hW3]; exact allocBelow _ _
  have r5 : Rf W3 p5 [.int .i64 R, .slice da L.length dc] := by rw [← hW3, ← hp5]; exact Rf.new _ _ _
  have z5 : p5 < W3.heap.size := by rw [← hW3, ← hp5]; simp
  have B3 : Below w1.heap.size w1 W3 := b2.trans (b3.mono b2.size)
  have oD3 := oD.kept (grownOfBelow b3 none) (blockCases _ _ fun b c1 c2 => by cases c2)
  have HW3 : Hid (_ = W3) := hW3
  have HP5 : Hid (_ = p5) := hp5
  clear hIm oD b2 b3 hW3 hp5
  go_upto_region 5 with fail
  rw [HW3.out, HP5.out]
  clear HW3
  have k0 := r5.at_ 0 _ rfl
  by_cases h0 : R = 0
  rotate_left
  · have qn : (R != 0) = true := by simpa using h0
    have hRR : (R == R) = true := by simp
    have Bd : Below W3.heap.size W3 W3.drew := belowN9 1
    have r5d := r5.below z5 Bd
    have B3d := B3.trans (Bd.mono B3.size)
    have m0 := r5d.at_ 0 _ rfl
    have hS1 := hSp W3.drew B3d
    have z5d : p5 < W3.drew.heap.size := z5
    clear hSp hSa hAp hLaw oD3 F1 F2 h0
    go_wp2_with fail
    go_region_law (first
      | (refine Fl.step_callE rfl 7 enterDf (.tmp 21) (.tmp 22) _ rfl _ _ rfl rfl hS1 ?_; rintro e w8 ⟨vv, rfl, ov, b8⟩; refine ⟨_, rfl, ?_⟩; obtain ⟨va, vc, rfl⟩ := Fl.shapeK3 ov; have e1 := (r5d.below z5d b8).at_ 0 _ rfl; have fl1 : ∀ W : World, (Instr.field 29 (.agg #[.int .i64 R, .slice va L.length vc]) 0).run Tryz.prog W = .ok (.int .i64 R) W := (fun W => by kernel_rfl)))
    all_goals
      have B8 : Below w.heap.size w w8 := (b1.trans (B3d.mono b1.size)).trans (b8.mono (b1.trans (B3d.mono b1.size)).size)
      have HB8 : Hid (Below w.heap.size w w8) := B8
      clear B8 b8 ov e1 fl1 hS1 r5d B3d Bd r5 B3 k0 m0
      go_wp2_with fail
      go_ret
      first | exact ⟨rfl, HB8.out⟩ | exact ⟨by simp [hRR], HB8.out⟩ | (refine ⟨?_, HB8.out⟩; show Ending.returned (Value.bool (R == R)) = _; rw [hRR])
  subst h0
  obtain ⟨e6, e7, e8, e9⟩ := hLaw rfl
  simp only [e6, e7] at hAp
  simp only [e8, e9] at hSa
  have k1 := r5.at_ 1 _ rfl
  clear hLaw e6 e7 e8 e9
  have hAp3 := hAp da dc W3 B3 (Dl.OB.of oD3)
  clear hAp
  go_wp2_with fail
  refine hAp3.mono ?_; rintro e w4 ⟨vR, rfl, oR, b4⟩
  obtain ⟨ra, rc, rfl⟩ := Fl.shapeK3 oR
  obtain ⟨p6, hp6⟩ : ∃ p, w4.heap.size = p := ⟨_, rfl⟩
  obtain ⟨W5, hW5⟩ : ∃ W, w4.alloc (.cells #[.int .i64 0, .slice ra b.length rc] 32) = W := ⟨_, rfl⟩
  have b5 : Below w4.heap.size w4 W5 := by rw [← hW5]; exact allocBelow _ _
  have r6 : Rf W5 p6 [.int .i64 0, .slice ra b.length rc] := by rw [← hW5, ← hp6]; exact Rf.new _ _ _
  have z6 : p6 < W5.heap.size := by rw [← hW5, ← hp6]; simp
  have b35 : Below W3.heap.size W3 W5 := b4.trans (b5.mono b4.size)
  have r55 := r5.below z5 b35
  have z55 : p5 < W5.heap.size := Nat.lt_of_lt_of_le z5 b35.size
  have B5 : Below w1.heap.size w1 W5 := B3.trans (b35.mono B3.size)
  have oR5 := oR.kept (grownOfBelow b5 none) (blockCases _ _ fun b c1 c2 => by cases c2)
  have hSa5 := hSa W5 B5
  have HW5 : Hid (_ = W5) := hW5
  have HP6 : Hid (_ = p6) := hp6
  clear hAp3 oR b4 b5 hW5 hp6 hSa oD3 k0 k1 r5 b35 B3 z5
  go_upto_region 8 with fail
  rw [HW5.out, HP6.out]
  clear HW5
  go_wp2_with fail
  refine hSa5.mono ?_; rintro e w6 ⟨vS, rfl, oS, b6⟩
  obtain ⟨sa, sc, rfl⟩ := Fl.shapeK3 oS
  obtain ⟨p7, hp7⟩ : ∃ p, w6.heap.size = p := ⟨_, rfl⟩
  obtain ⟨W9, hW9⟩ : ∃ W, w6.alloc (.cells #[.int .i64 0, .slice sa 0 sc] 29) = W := ⟨_, rfl⟩
  have b7 : Below w6.heap.size w6 W9 := by rw [← hW9]; exact allocBelow _ _
  have r7 : Rf W9 p7 [.int .i64 0, .slice sa 0 sc] := by rw [← hW9, ← hp7]; exact Rf.new _ _ _
  have z7 : p7 < W9.heap.size := by rw [← hW9, ← hp7]; simp
  have b59 : Below W5.heap.size W5 W9 := b6.trans (b7.mono b6.size)
  have r69 := r6.below z6 b59
  have z69 : p6 < W9.heap.size := Nat.lt_of_lt_of_le z6 b59.size
  have r59 := r55.below z55 b59
  have z59 : p5 < W9.heap.size := Nat.lt_of_lt_of_le z55 b59.size
  have B19 : Below w1.heap.size w1 W9 := B5.trans (b59.mono B5.size)
  have B9 : Below w.heap.size w W9 := b1.trans (B19.mono b1.size)
  have hBd : Below W9.heap.size W9 W9.drew := belowN9 1
  have oR9 := (oR5.kept (grownOfBelow b59 none) (blockCases _ _ fun b c1 c2 => by cases c2)).kept (grownOfBelow hBd none) (blockCases _ _ fun b c1 c2 => by cases c2)
  have F2d := (fvBel F2 B19).kept (grown_of_below hBd _)
  have hS9 : ∀ W, Below W9.heap.size W9 W → (fun u => u.cell? ⟨p6, 0, none⟩ = some (.int .i64 0) ∧ u.cell? ⟨p6, 1, none⟩ = some (.slice ra b.length rc) ∧ u.cell? ⟨p7, 0, none⟩ = some (.int .i64 0) ∧ u.cell? ⟨p7, 1, none⟩ = some (.slice sa 0 sc) ∧ u.cell? ⟨p5, 0, none⟩ = some (.int .i64 0) ∧ u.cell? ⟨p5, 1, none⟩ = some (.slice da L.length dc)) W := fun W bW => ⟨(bW.cell (p := ⟨p6, 0, none⟩) z69).trans (r69.at_ 0 _ rfl), (bW.cell (p := ⟨p6, 1, none⟩) z69).trans (r69.at_ 1 _ rfl), (bW.cell (p := ⟨p7, 0, none⟩) z7).trans (r7.at_ 0 _ rfl), (bW.cell (p := ⟨p7, 1, none⟩) z7).trans (r7.at_ 1 _ rfl), (bW.cell (p := ⟨p5, 0, none⟩) z59).trans (r59.at_ 0 _ rfl), (bW.cell (p := ⟨p5, 1, none⟩) z59).trans (r59.at_ 1 _ rfl)⟩
  obtain ⟨m0, m1, m2, m3, m4, m5⟩ := hS9 W9.drew hBd
  have hLL : ((L.length : Int) == (L.length : Int)) = true := by simp
  replace hSp := fun W (hb : Below W9.heap.size W9 W) => hSp W (B19.trans (hb.mono B19.size))
  have HW9 : Hid (_ = W9) := hW9
  have HP7 : Hid (_ = p7) := hp7
  clear hSa5 oS b6 b7 hW9 hp7 r6 r55 r7 r69 r59 oR5 b59 B5 F1 F2
  go_upto_region 9 with fail
  rw [HW9.out, HP7.out]
  go_cut [2] from 35 to 66 (fun s wx => s = .bool true ∧ Below w.heap.size w wx)
  case first =>
    refine wp_region_held_drew (S := (fun u => u.cell? ⟨p6, 0, none⟩ = some (.int .i64 0) ∧ u.cell? ⟨p6, 1, none⟩ = some (.slice ra b.length rc) ∧ u.cell? ⟨p7, 0, none⟩ = some (.int .i64 0) ∧ u.cell? ⟨p7, 1, none⟩ = some (.slice sa 0 sc) ∧ u.cell? ⟨p5, 0, none⟩ = some (.int .i64 0) ∧ u.cell? ⟨p5, 1, none⟩ = some (.slice da L.length dc))) (by kernel_rfl) ⟨m0, m1, m2, m3, m4, m5⟩ (fun hHeld => ?_)
    refine takeD (i := 0) (d := 35) (oi := _) (v := ?_) (listed' := #[true, false, false, false, false, false, false, false, false, false, false, false, false, false, false, false, false, false, false, false, false, false, false, false, false, false, false, false, false, false, false, false]) rfl (by kernel_rfl) (by kernel_rfl) (by kernel_rfl) (fun _ _ _ h => h) (Or.inl ⟨by rfl, ?_⟩) hHeld (by kernel_rfl) (by kernel_rfl) ?_
    rotate_left
    · intro w hSw
      try dsimp only at hSw
      first
        | (go_simp; done)
        | (go_simp; with_reducible rfl)
        | (go_simp; simp [hLL])
        | (go_simp; simp)
    simp only [Act.put, List.setIfInBounds_toArray, List.set_cons_zero, List.set_cons_succ]
    refine takeD (i := 1) (d := 36) (oi := _) (v := ?_) (listed' := #[true, true, false, false, false, false, false, false, false, false, false, false, false, false, false, false, false, false, false, false, false, false, false, false, false, false, false, false, false, false, false, false]) rfl (by kernel_rfl) (by kernel_rfl) (by kernel_rfl) (fun _ _ _ h => h) (Or.inl ⟨by rfl, ?_⟩) hHeld (by kernel_rfl) (by kernel_rfl) ?_
    rotate_left
    · intro w hSw
      try dsimp only at hSw
      first
        | (go_simp; done)
        | (go_simp; with_reducible rfl)
        | (go_simp; simp [hLL])
        | (go_simp; simp)
    simp only [Act.put, List.setIfInBounds_toArray, List.set_cons_zero, List.set_cons_succ]
    refine takeD (i := 2) (d := 37) (oi := _) (v := .bool true) (listed' := #[true, true, true, false, false, false, false, false, false, false, false, false, false, false, false, false, false, false, false, false, false, false, false, false, false, false, false, false, false, false, false, false]) rfl (by kernel_rfl) (by kernel_rfl) (by kernel_rfl) (fun _ _ _ h => h) (Or.inl ⟨by rfl, ?_⟩) hHeld (by kernel_rfl) (by kernel_rfl) ?_
    · intro w hSw
      try dsimp only at hSw
      first
        | (go_simp; done)
        | (go_simp; with_reducible rfl)
        | (go_simp; simp [hLL])
        | (go_simp; simp)
    simp only [Act.put, List.setIfInBounds_toArray, List.set_cons_zero, List.set_cons_succ]
    refine takeD (i := 3) (d := 38) (oi := _) (v := .bool true) (listed' := #[true, true, true, true, false, false, false, false, false, false, false, false, false, false, false, false, false, false, false, false, false, false, false, false, false, false, false, false, false, false, false, false]) rfl (by kernel_rfl) (by kernel_rfl) (by kernel_rfl) (fun _ _ _ h => h) (Or.inl ⟨by rfl, ?_⟩) hHeld (by kernel_rfl) (by kernel_rfl) ?_
    · intro w hSw
      try dsimp only at hSw
      first
        | (go_simp; done)
        | (go_simp; with_reducible rfl)
        | (go_simp; simp [hLL])
        | (go_simp; simp)
    simp only [Act.put, List.setIfInBounds_toArray, List.set_cons_zero, List.set_cons_succ]
    refine takeD (i := 4) (d := 39) (oi := _) (v := ?_) (listed' := #[true, true, true, true, true, false, false, false, false, false, false, false, false, false, false, false, false, false, false, false, false, false, false, false, false, false, false, false, false, false, false, false]) rfl (by kernel_rfl) (by kernel_rfl) (by kernel_rfl) (fun _ _ _ h => h) (Or.inl ⟨by rfl, ?_⟩) hHeld (by kernel_rfl) (by kernel_rfl) ?_
    rotate_left
    · intro w hSw
      try dsimp only at hSw
      first
        | (go_simp; done)
        | (go_simp; with_reducible rfl)
        | (go_simp; simp [hLL])
        | (go_simp; simp)
    simp only [Act.put, List.setIfInBounds_toArray, List.set_cons_zero, List.set_cons_succ]
    refine takeD (i := 5) (d := 40) (oi := _) (v := ?_) (listed' := #[true, true, true, true, true, true, false, false, false, false, false, false, false, false, false, false, false, false, false, false, false, false, false, false, false, false, false, false, false, false, false, false]) rfl (by kernel_rfl) (by kernel_rfl) (by kernel_rfl) (fun _ _ _ h => h) (Or.inl ⟨by rfl, ?_⟩) hHeld (by kernel_rfl) (by kernel_rfl) ?_
    rotate_left
    · intro w hSw
      try dsimp only at hSw
      first
        | (go_simp; done)
        | (go_simp; with_reducible rfl)
        | (go_simp; simp [hLL])
        | (go_simp; simp)
    simp only [Act.put, List.setIfInBounds_toArray, List.set_cons_zero, List.set_cons_succ]
    refine takeD (i := 6) (d := 41) (oi := _) (v := ?_) (listed' := #[true, true, true, true, true, true, true, false, false, false, false, false, false, false, false, false, false, false, false, false, false, false, false, false, false, false, false, false, false, false, false, false]) rfl (by kernel_rfl) (by kernel_rfl) (by kernel_rfl) (fun _ _ _ h => h) (Or.inl ⟨by rfl, ?_⟩) hHeld (by kernel_rfl) (by kernel_rfl) ?_
    rotate_left
    · intro w hSw
      try dsimp only at hSw
      first
        | (go_simp; done)
        | (go_simp; with_reducible rfl)
        | (go_simp; simp [hLL])
        | (go_simp; simp)
    simp only [Act.put, List.setIfInBounds_toArray, List.set_cons_zero, List.set_cons_succ]
    refine wpAnyH_ready (rs := [7]) (by kernel_rfl) (by simp) ?_
    refine AllReadyH.cons (o := _) rfl (fun K' hK' => ?_) AllReadyH.nil
    go_simp
    refine (lwFilesC ra (some ⟨g2, 0, none⟩) rc c2 b _ (Fl.OB.of oR9) F2d.ob (by omega)).mono ?_
    rintro e wb ⟨rfl, nb, hwb⟩
    have bb : Below W9.drew.heap.size W9.drew wb := (by rw [hwb]; exact belowN9 nb)
    clear hwb
    refine hK'.out _ _ (hS9 _ (hBd.trans (bb.mono (Nat.le_refl _)))) (fun hS4 => ?_)
    clear hK' K'
    simp only [List.setIfInBounds_toArray, List.set_cons_zero, List.set_cons_succ]
    refine takeD (i := 8) (d := 43) (oi := _) (v := .bool true) (listed' := #[true, true, true, true, true, true, true, true, true, false, false, false, false, false, false, false, false, false, false, false, false, false, false, false, false, false, false, false, false, false, false, false]) rfl (by kernel_rfl) (by kernel_rfl) (by kernel_rfl) (fun _ _ _ h => h) (Or.inl ⟨by rfl, ?_⟩) hS4 (by kernel_rfl) (by kernel_rfl) ?_
    · intro w hSw
      try dsimp only at hSw
      first
        | (go_simp; done)
        | (go_simp; with_reducible rfl)
        | (go_simp; simp [hLL])
        | (go_simp; simp)
    simp only [Act.put, List.setIfInBounds_toArray, List.set_cons_zero, List.set_cons_succ]
    refine takeD (i := 9) (d := 44) (oi := _) (v := .bool true) (listed' := #[true, true, true, true, true, true, true, true, true, true, false, false, false, false, false, false, false, false, false, false, false, false, false, false, false, false, false, false, false, false, false, false]) rfl (by kernel_rfl) (by kernel_rfl) (by kernel_rfl) (fun _ _ _ h => h) (Or.inl ⟨by rfl, ?_⟩) hS4 (by kernel_rfl) (by kernel_rfl) ?_
    · intro w hSw
      try dsimp only at hSw
      first
        | (go_simp; done)
        | (go_simp; with_reducible rfl)
        | (go_simp; simp [hLL])
        | (go_simp; simp)
    simp only [Act.put, List.setIfInBounds_toArray, List.set_cons_zero, List.set_cons_succ]
    refine takeD (i := 10) (d := 45) (oi := _) (v := ?_) (listed' := #[true, true, true, true, true, true, true, true, true, true, true, false, false, false, false, false, false, false, false, false, false, false, false, false, false, false, false, false, false, false, false, false]) rfl (by kernel_rfl) (by kernel_rfl) (by kernel_rfl) (fun _ _ _ h => h) (Or.inl ⟨by rfl, ?_⟩) hS4 (by kernel_rfl) (by kernel_rfl) ?_
    rotate_left
    · intro w hSw
      try dsimp only at hSw
      first
        | (go_simp; done)
        | (go_simp; with_reducible rfl)
        | (go_simp; simp [hLL])
        | (go_simp; simp)
    simp only [Act.put, List.setIfInBounds_toArray, List.set_cons_zero, List.set_cons_succ]
    refine takeD (i := 11) (d := 46) (oi := _) (v := ?_) (listed' := #[true, true, true, true, true, true, true, true, true, true, true, true, false, false, false, false, false, false, false, false, false, false, false, false, false, false, false, false, false, false, false, false]) rfl (by kernel_rfl) (by kernel_rfl) (by kernel_rfl) (fun _ _ _ h => h) (Or.inl ⟨by rfl, ?_⟩) hS4 (by kernel_rfl) (by kernel_rfl) ?_
    rotate_left
    · intro w hSw
      try dsimp only at hSw
      first
        | (go_simp; done)
        | (go_simp; with_reducible rfl)
        | (go_simp; simp [hLL])
        | (go_simp; simp)
    simp only [Act.put, List.setIfInBounds_toArray, List.set_cons_zero, List.set_cons_succ]
    refine takeD (i := 12) (d := 47) (oi := _) (v := .bool true) (listed' := #[true, true, true, true, true, true, true, true, true, true, true, true, true, false, false, false, false, false, false, false, false, false, false, false, false, false, false, false, false, false, false, false]) rfl (by kernel_rfl) (by kernel_rfl) (by kernel_rfl) (fun _ _ _ h => h) (Or.inl ⟨by rfl, ?_⟩) hS4 (by kernel_rfl) (by kernel_rfl) ?_
    · intro w hSw
      try dsimp only at hSw
      first
        | (go_simp; done)
        | (go_simp; with_reducible rfl)
        | (go_simp; simp [hLL])
        | (go_simp; simp)
    simp only [Act.put, List.setIfInBounds_toArray, List.set_cons_zero, List.set_cons_succ]
    refine takeD (i := 13) (d := 48) (oi := _) (v := .bool true) (listed' := #[true, true, true, true, true, true, true, true, true, true, true, true, true, true, false, false, false, false, false, false, false, false, false, false, false, false, false, false, false, false, false, false]) rfl (by kernel_rfl) (by kernel_rfl) (by kernel_rfl) (fun _ _ _ h => h) (Or.inl ⟨by rfl, ?_⟩) hS4 (by kernel_rfl) (by kernel_rfl) ?_
    · intro w hSw
      try dsimp only at hSw
      first
        | (go_simp; done)
        | (go_simp; with_reducible rfl)
        | (go_simp; simp [hLL])
        | (go_simp; simp)
    simp only [Act.put, List.setIfInBounds_toArray, List.set_cons_zero, List.set_cons_succ]
    refine takeD (i := 14) (d := 49) (oi := _) (v := .bool true) (listed' := #[true, true, true, true, true, true, true, true, true, true, true, true, true, true, true, false, false, false, false, false, false, false, false, false, false, false, false, false, false, false, false, false]) rfl (by kernel_rfl) (by kernel_rfl) (by kernel_rfl) (fun _ _ _ h => h) (Or.inl ⟨by rfl, ?_⟩) hS4 (by kernel_rfl) (by kernel_rfl) ?_
    · intro w hSw
      try dsimp only at hSw
      first
        | (go_simp; done)
        | (go_simp; with_reducible rfl)
        | (go_simp; simp [hLL])
        | (go_simp; simp)
    simp only [Act.put, List.setIfInBounds_toArray, List.set_cons_zero, List.set_cons_succ]
    refine takeD (i := 15) (d := 50) (oi := _) (v := ?_) (listed' := #[true, true, true, true, true, true, true, true, true, true, true, true, true, true, true, true, false, false, false, false, false, false, false, false, false, false, false, false, false, false, false, false]) rfl (by kernel_rfl) (by kernel_rfl) (by kernel_rfl) (fun _ _ _ h => h) (Or.inl ⟨by rfl, ?_⟩) hS4 (by kernel_rfl) (by kernel_rfl) ?_
    rotate_left
    · intro w hSw
      try dsimp only at hSw
      first
        | (go_simp; done)
        | (go_simp; with_reducible rfl)
        | (go_simp; simp [hLL])
        | (go_simp; simp)
    simp only [Act.put, List.setIfInBounds_toArray, List.set_cons_zero, List.set_cons_succ]
    refine takeD (i := 16) (d := 51) (oi := _) (v := ?_) (listed' := #[true, true, true, true, true, true, true, true, true, true, true, true, true, true, true, true, true, false, false, false, false, false, false, false, false, false, false, false, false, false, false, false]) rfl (by kernel_rfl) (by kernel_rfl) (by kernel_rfl) (fun _ _ _ h => h) (Or.inl ⟨by rfl, ?_⟩) hS4 (by kernel_rfl) (by kernel_rfl) ?_
    rotate_left
    · intro w hSw
      try dsimp only at hSw
      first
        | (go_simp; done)
        | (go_simp; with_reducible rfl)
        | (go_simp; simp [hLL])
        | (go_simp; simp)
    simp only [Act.put, List.setIfInBounds_toArray, List.set_cons_zero, List.set_cons_succ]
    refine takeD (i := 17) (d := 52) (oi := _) (v := .int .i64 0) (listed' := #[true, true, true, true, true, true, true, true, true, true, true, true, true, true, true, true, true, true, false, false, false, false, false, false, false, false, false, false, false, false, false, false]) rfl (by kernel_rfl) (by kernel_rfl) (by kernel_rfl) (fun _ _ _ h => h) (Or.inl ⟨by rfl, ?_⟩) hS4 (by kernel_rfl) (by kernel_rfl) ?_
    · intro w hSw
      try dsimp only at hSw
      first
        | (go_simp; done)
        | (go_simp; with_reducible rfl)
        | (go_simp; simp [hLL])
        | (go_simp; simp)
    simp only [Act.put, List.setIfInBounds_toArray, List.set_cons_zero, List.set_cons_succ]
    refine takeD (i := 18) (d := 53) (oi := _) (v := .bool true) (listed' := #[true, true, true, true, true, true, true, true, true, true, true, true, true, true, true, true, true, true, true, false, false, false, false, false, false, false, false, false, false, false, false, false]) rfl (by kernel_rfl) (by kernel_rfl) (by kernel_rfl) (fun _ _ _ h => h) (Or.inl ⟨by rfl, ?_⟩) hS4 (by kernel_rfl) (by kernel_rfl) ?_
    · intro w hSw
      try dsimp only at hSw
      first
        | (go_simp; done)
        | (go_simp; with_reducible rfl)
        | (go_simp; simp [hLL])
        | (go_simp; simp)
    simp only [Act.put, List.setIfInBounds_toArray, List.set_cons_zero, List.set_cons_succ]
    refine takeD (i := 19) (d := 54) (oi := _) (v := .bool true) (listed' := #[true, true, true, true, true, true, true, true, true, true, true, true, true, true, true, true, true, true, true, true, false, false, false, false, false, false, false, false, false, false, false, false]) rfl (by kernel_rfl) (by kernel_rfl) (by kernel_rfl) (fun _ _ _ h => h) (Or.inl ⟨by rfl, ?_⟩) hS4 (by kernel_rfl) (by kernel_rfl) ?_
    · intro w hSw
      try dsimp only at hSw
      first
        | (go_simp; done)
        | (go_simp; with_reducible rfl)
        | (go_simp; simp [hLL])
        | (go_simp; simp)
    simp only [Act.put, List.setIfInBounds_toArray, List.set_cons_zero, List.set_cons_succ]
    refine takeD (i := 20) (d := 55) (oi := _) (v := .bool true) (listed' := #[true, true, true, true, true, true, true, true, true, true, true, true, true, true, true, true, true, true, true, true, true, false, false, false, false, false, false, false, false, false, false, false]) rfl (by kernel_rfl) (by kernel_rfl) (by kernel_rfl) (fun _ _ _ h => h) (Or.inl ⟨by rfl, ?_⟩) hS4 (by kernel_rfl) (by kernel_rfl) ?_
    · intro w hSw
      try dsimp only at hSw
      first
        | (go_simp; done)
        | (go_simp; with_reducible rfl)
        | (go_simp; simp [hLL])
        | (go_simp; simp)
    simp only [Act.put, List.setIfInBounds_toArray, List.set_cons_zero, List.set_cons_succ]
    refine takeD (i := 21) (d := 56) (oi := _) (v := ?_) (listed' := #[true, true, true, true, true, true, true, true, true, true, true, true, true, true, true, true, true, true, true, true, true, true, false, false, false, false, false, false, false, false, false, false]) rfl (by kernel_rfl) (by kernel_rfl) (by kernel_rfl) (fun _ _ _ h => h) (Or.inl ⟨by rfl, ?_⟩) hS4 (by kernel_rfl) (by kernel_rfl) ?_
    rotate_left
    · intro w hSw
      try dsimp only at hSw
      first
        | (go_simp; done)
        | (go_simp; with_reducible rfl)
        | (go_simp; simp [hLL])
        | (go_simp; simp)
    simp only [Act.put, List.setIfInBounds_toArray, List.set_cons_zero, List.set_cons_succ]
    refine takeD (i := 22) (d := 57) (oi := _) (v := ?_) (listed' := #[true, true, true, true, true, true, true, true, true, true, true, true, true, true, true, true, true, true, true, true, true, true, true, false, false, false, false, false, false, false, false, false]) rfl (by kernel_rfl) (by kernel_rfl) (by kernel_rfl) (fun _ _ _ h => h) (Or.inl ⟨by rfl, ?_⟩) hS4 (by kernel_rfl) (by kernel_rfl) ?_
    rotate_left
    · intro w hSw
      try dsimp only at hSw
      first
        | (go_simp; done)
        | (go_simp; with_reducible rfl)
        | (go_simp; simp [hLL])
        | (go_simp; simp)
    simp only [Act.put, List.setIfInBounds_toArray, List.set_cons_zero, List.set_cons_succ]
    refine takeD (i := 23) (d := 58) (oi := _) (v := .int .i64 L.length) (listed' := #[true, true, true, true, true, true, true, true, true, true, true, true, true, true, true, true, true, true, true, true, true, true, true, true, false, false, false, false, false, false, false, false]) rfl (by kernel_rfl) (by kernel_rfl) (by kernel_rfl) (fun _ _ _ h => h) (Or.inl ⟨by rfl, ?_⟩) hS4 (by kernel_rfl) (by kernel_rfl) ?_
    · intro w hSw
      try dsimp only at hSw
      first
        | (go_simp; done)
        | (go_simp; with_reducible rfl)
        | (go_simp; simp [hLL])
        | (go_simp; simp)
    simp only [Act.put, List.setIfInBounds_toArray, List.set_cons_zero, List.set_cons_succ]
    refine takeD (i := 24) (d := 59) (oi := _) (v := ?_) (listed' := #[true, true, true, true, true, true, true, true, true, true, true, true, true, true, true, true, true, true, true, true, true, true, true, true, true, false, false, false, false, false, false, false]) rfl (by kernel_rfl) (by kernel_rfl) (by kernel_rfl) (fun _ _ _ h => h) (Or.inl ⟨by rfl, ?_⟩) hS4 (by kernel_rfl) (by kernel_rfl) ?_
    rotate_left
    · intro w hSw
      try dsimp only at hSw
      first
        | (go_simp; done)
        | (go_simp; with_reducible rfl)
        | (go_simp; simp [hLL])
        | (go_simp; simp)
    simp only [Act.put, List.setIfInBounds_toArray, List.set_cons_zero, List.set_cons_succ]
    refine takeD (i := 25) (d := 60) (oi := _) (v := ?_) (listed' := #[true, true, true, true, true, true, true, true, true, true, true, true, true, true, true, true, true, true, true, true, true, true, true, true, true, true, false, false, false, false, false, false]) rfl (by kernel_rfl) (by kernel_rfl) (by kernel_rfl) (fun _ _ _ h => h) (Or.inl ⟨by rfl, ?_⟩) hS4 (by kernel_rfl) (by kernel_rfl) ?_
    rotate_left
    · intro w hSw
      try dsimp only at hSw
      first
        | (go_simp; done)
        | (go_simp; with_reducible rfl)
        | (go_simp; simp [hLL])
        | (go_simp; simp)
    simp only [Act.put, List.setIfInBounds_toArray, List.set_cons_zero, List.set_cons_succ]
    refine wpAnyH_ready (rs := [26]) (by kernel_rfl) (by simp) ?_
    refine AllReadyH.cons (o := _) rfl (fun K' hK' => ?_) AllReadyH.nil
    go_simp
    refine (hSp _ (hBd.trans (bb.mono (Nat.le_refl _)))).mono ?_
    rintro e wc ⟨vv, rfl, ov, bc⟩
    obtain ⟨va, vc, rfl⟩ := Fl.shapeK3 ov
    clear ov
    have bC : Below W9.heap.size W9 wc := (hBd.trans (bb.mono (Nat.le_refl _))).trans (bc.mono (by have := bb.size; simpa using this))
    have fl1 : ∀ W : World, (Instr.field 29 (.agg #[.int .i64 0, .slice va L.length vc]) 1).run Tryz.prog W = .ok (.slice va L.length vc) W := (fun W => by kernel_rfl)
    refine hK'.out _ _ (hS9 _ bC) (fun hS5 => ?_)
    clear hK' K'
    simp only [List.setIfInBounds_toArray, List.set_cons_zero, List.set_cons_succ]
    refine takeD (i := 27) (d := 62) (oi := _) (v := .slice va L.length vc) (listed' := #[true, true, true, true, true, true, true, true, true, true, true, true, true, true, true, true, true, true, true, true, true, true, true, true, true, true, true, true, false, false, false, false]) rfl (by kernel_rfl) (by kernel_rfl) (by kernel_rfl) (fun _ _ _ h => h) (Or.inl ⟨by rfl, ?_⟩) hS5 (by kernel_rfl) (by kernel_rfl) ?_
    · intro w hSw
      try dsimp only at hSw
      first
        | (go_simp; done)
        | (go_simp; with_reducible rfl)
        | (go_simp; simp [hLL])
        | (go_simp; simp)
    simp only [Act.put, List.setIfInBounds_toArray, List.set_cons_zero, List.set_cons_succ]
    refine takeD (i := 28) (d := 63) (oi := _) (v := .int .i64 L.length) (listed' := #[true, true, true, true, true, true, true, true, true, true, true, true, true, true, true, true, true, true, true, true, true, true, true, true, true, true, true, true, true, false, false, false]) rfl (by kernel_rfl) (by kernel_rfl) (by kernel_rfl) (fun _ _ _ h => h) (Or.inl ⟨by rfl, ?_⟩) hS5 (by kernel_rfl) (by kernel_rfl) ?_
    · intro w hSw
      try dsimp only at hSw
      first
        | (go_simp; done)
        | (go_simp; with_reducible rfl)
        | (go_simp; simp [hLL])
        | (go_simp; simp)
    simp only [Act.put, List.setIfInBounds_toArray, List.set_cons_zero, List.set_cons_succ]
    refine takeD (i := 29) (d := 64) (oi := _) (v := .bool true) (listed' := #[true, true, true, true, true, true, true, true, true, true, true, true, true, true, true, true, true, true, true, true, true, true, true, true, true, true, true, true, true, true, false, false]) rfl (by kernel_rfl) (by kernel_rfl) (by kernel_rfl) (fun _ _ _ h => h) (Or.inl ⟨by rfl, ?_⟩) hS5 (by kernel_rfl) (by kernel_rfl) ?_
    · intro w hSw
      try dsimp only at hSw
      first
        | (go_simp; done)
        | (go_simp; with_reducible rfl)
        | (go_simp; simp [hLL])
        | (go_simp; simp)
    simp only [Act.put, List.setIfInBounds_toArray, List.set_cons_zero, List.set_cons_succ]
    refine takeD (i := 30) (d := 65) (oi := _) (v := .bool true) (listed' := #[true, true, true, true, true, true, true, true, true, true, true, true, true, true, true, true, true, true, true, true, true, true, true, true, true, true, true, true, true, true, true, false]) rfl (by kernel_rfl) (by kernel_rfl) (by kernel_rfl) (fun _ _ _ h => h) (Or.inl ⟨by rfl, ?_⟩) hS5 (by kernel_rfl) (by kernel_rfl) ?_
    · intro w hSw
      try dsimp only at hSw
      first
        | (go_simp; done)
        | (go_simp; with_reducible rfl)
        | (go_simp; simp [hLL])
        | (go_simp; simp)
    simp only [Act.put, List.setIfInBounds_toArray, List.set_cons_zero, List.set_cons_succ]
    refine takeD (i := 31) (d := 2) (oi := _) (v := .bool true) (listed' := #[true, true, true, true, true, true, true, true, true, true, true, true, true, true, true, true, true, true, true, true, true, true, true, true, true, true, true, true, true, true, true, true]) rfl (by kernel_rfl) (by kernel_rfl) (by kernel_rfl) (fun _ _ _ h => h) (Or.inl ⟨by rfl, ?_⟩) hS5 (by kernel_rfl) (by kernel_rfl) ?_
    · intro w hSw
      try dsimp only at hSw
      first
        | (go_simp; done)
        | (go_simp; with_reducible rfl)
        | (go_simp; simp [hLL])
        | (go_simp; simp)
    simp only [Act.put, List.setIfInBounds_toArray, List.set_cons_zero, List.set_cons_succ]
    refine wpAnyH_done (by kernel_rfl) ?_ _
    have BC : Below w.heap.size w wc := B9.trans (bC.mono B9.size)
    go_wp2_with fail
    go_meet
    exact ⟨rfl, BC⟩
  case rest =>
  obtain ⟨rfl, bx⟩ := hcut
  clear hSp hS9 m0 m1 m2 m3 m4 m5 oR9 F2d HW9
  go_wp2_with fail
  go_ret
  exact ⟨rfl, bx⟩

set_option linter.unusedVariables false
theorem laidOut : laidOutB Tryz.prog = true := by kernel_rfl
theorem own : ownKnob Tryz.prog.godebug = none := by kernel_rfl
set_option maxRecDepth 100000 in
theorem lifted (os : Os) (started : os.Started) (H : Type) (enc : TypeId × Value → H) :
    ReturnsInHanded {} Tryz.checked os 3 .any (fun w args => (Rows.fnDeltasSpec.pre enc Tryz.prog Tryz.f3 [] false w args ∧ laidMetH Tryz.prog Rows.fnDeltasRow.laid w) ∧ sizedMet enc Tryz.prog Tryz.f3 (OpenSpec.ofChange Rows.fnDeltasSpec) false w args)
      (Rows.fnDeltasSpec.post enc Tryz.prog Tryz.f3 false true false false) := by
  refine returnsInHanded_of_change_and (C := Tryz.checked) (X := fun w _ => laidMetH Tryz.prog Rows.fnDeltasRow.laid w) (fun _ _ _ hh h => h.of_heap hh) own started (by kernel_rfl) Tryz.func3
    (ChangeSpec.witness_shaped (enc := enc) (C := Tryz.checked) (os := os) (X := fun w _ => laidMetH Tryz.prog Rows.fnDeltasRow.laid w) false (World.laidAll Tryz.prog os Rows.fnDeltasRow.laid) #[.slice none 0 0] 8 (World.laidAll_os _ _ _) (World.shaped_of_ZipB (by kernel_rfl) (by kernel_rfl)) (by kernel_rfl) (by kernel_rfl) (by kernel_rfl) (by rw [MakeChecks.laidMetH_plain _ _ _ (by kernel_rfl)]; exact laidMet_laidAll _ (by kernel_rfl) (by kernel_rfl))) ?_
  intro W base args ds gs before hval0 hW _ _ hL _
  have hval : ∀ (j : Nat) t v, Tryz.f3.params[j]? = some t → args[j]? = some v → Value.okWide Tryz.prog W .any base t v := hval0
  have hW' := hW
  obtain ⟨p, q, hA0, hV, rfl, hfz, hnd⟩ := hW
  have hA : DataW.TrodAll enc Tryz.prog W 0 (fun _ => true) true Tryz.f3.params.toList args.toList ds p := hA0
  rw [Tryz.params3] at hA hval
  obtain ⟨v0, vs0, d0, ds0, p0, q0, hargs, rfl, rfl, h0, r0⟩ := trodAll_cons hA
  obtain ⟨rfl, rfl, rfl⟩ := trodAll_nil r0
  obtain rfl : args = #[v0] := by cases args; simp_all
  obtain ⟨rfl, rfl⟩ := trodVars_none hV
  obtain ⟨a0, len0, cap0, rfl⟩ := okWide_slice Tryz.underlying22 (hval 0 22 v0 rfl rfl)
  have k0 := h0
  have lt0 : ∀ x ∈ p0, x.block < W.heap.size := by obtain ⟨m, hm⟩ := k0; exact DataW.trod_lt m _ _ _ hm
  obtain ⟨w0, n0⟩ := openBts h0 lt0
  clear hA0 hval0
  refine (walk a0 len0 cap0 W w0 n0).mono fun e W' ⟨he, bel⟩ => ?_
  subst he
  exact ⟨_, rfl, _, _, _, [], _, [], hW', trodAll_mk1 (shut_bool Tryz.underlying4 _), (trodAll_cons_mk (Below.trod laidOut (by kernel_rfl) (of_decide_eq_true (by kernel_rfl)) k0 bel lt0) trodAll_mk0), rfl, bel.frame _, fun h => by cases h⟩

theorem over : Rows.fnDeltasRow.holds Tryz.pinned (OpenSpec.ofChange Rows.fnDeltasSpec) :=
  OpenClaim.holds_of_wide 3 Tryz.f3 rfl rfl rfl rfl rfl rfl rfl ⟨rfl, rfl, rfl, rfl, rfl⟩ rfl rfl rfl rfl rfl (by kernel_rfl) Tryz.func3 (by kernel_rfl)
    (of_decide_eq_true (by kernel_rfl)) (by unfold Func.isWrapper; first | (rw [if_pos (by decide +kernel)]; kernel_rfl) | (rw [if_neg (by decide +kernel)]; exact ⟨rfl, rfl⟩))
    (fun os started H enc _ => lifted os started H enc)

theorem proved : Rows.FnDeltasCardSaid :=
  Claim7.holds_tied_plain_at .later [] [.data, .pinned] true _ false
    over (fun _ h => by cases h) (by kernel_rfl) (fun _ h => by cases h) fnDeltas_row_tie rfl ⟨rfl, rfl⟩ (by kernel_rfl) rfl
    (fun f fn hf hfn => by
      obtain rfl : f = 3 := Option.some.inj ((show Tryz.prog.funcNamed "loop.example/g00172/laws.FnDeltas" = some 3 by kernel_rfl).symm.trans hf) |>.symm
      obtain rfl : fn = Tryz.f3 := (Option.some.inj (Tryz.func3.symm.trans hfn)).symm
      exact ⟨by kernel_rfl, fun j t ht => by
        rw [Tryz.params3] at ht
        have hm : t ∈ [22] := by simpa using Array.mem_of_getElem? ht
        have hall : ([22].all fun u => !Tryz.prog.wantsStandIn u) = true := by kernel_rfl
        exact (show Tryz.prog.wantsStandIn t = false by simpa using List.all_eq_true.1 hall t hm)⟩)
    (by kernel_rfl)
end Go.Proofs.YtkgcpndnlefkoaaGreatDoor.FdF
namespace Go.Proofs.YtkgcpndnlefkoaaGreatDoor
theorem fnDeltas_proved : Rows.FnDeltasCardSaid := FdF.proved
end Go.Proofs.YtkgcpndnlefkoaaGreatDoor
