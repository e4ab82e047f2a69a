/- Files that are drawn: l7Some. No statement is proved here. -/
import Derived.Test.YtkgcpndnlefkoaaGreatDoorRows
import Derived.Test.YtkgcpndnlefkoaaGreatDoorLemQ
import Derived.Test.YtkgcpndnlefkoaaGreatDoorLwEQ
import Derived.Test.YtkgcpndnlefkoaaGreatDoorLFLemQ
import Derived.Test.YtkgcpndnlefkoaaGreatDoorDTabQ
import Derived.Test.YtkgcpndnlefkoaaGreatDoorInQ
import Derived.Test.YtkgcpndnlefkoaaGreatDoorDigCQ
import Derived.Test.YtkgcpndnlefkoaaGreatDoorObLQ
import Derived.Test.YtkgcpndnlefkoaaGreatDoorGtSQ
import Derived.Test.YtkgcpndnlefkoaaGreatDoorShQQ
import Derived.Test.YtkgcpndnlefkoaaGreatDoorOcAQ
import Derived.Test.YtkgcpndnlefkoaaGreatDoorPuSQ
import Derived.Test.YtkgcpndnlefkoaaGreatDoorJoinCQ
import Derived.Test.YtkgcpndnlefkoaaGreatDoorDrawQ
import Derived.Test.YtkgcpndnlefkoaaGreatDoorDraw5Q
import Derived.Test.YtkgcpndnlefkoaaGreatDoorDraw7Q
import Derived.Test.YtkgcpndnlefkoaaGreatDoorDraw12Q
import Derived.Test.YtkgcpndnlefkoaaGreatDoorDfBQ
import Derived.WalkKit
import Derived.ProofKit
import Derived.Below
import Derived.WalkSpells
import Derived.Deep.QuietTactic
import Derived.BigQuiet
import Derived.Deep.RegionWith
import Derived.Deep.RegionHeld
import Derived.Deep.RegionLaw
import Derived.Deep.RegionHeldLaw
import Derived.Deep.CutRange
import Derived.Maps.AppendAt
set_option linter.unusedVariables false
namespace Go.Proofs.YtkgcpndnlefkoaaGreatDoor
open Go.ChangeShapes Go.WideShapes Go.ChangeAt Go.RowKit
/-- Files whose texts are short. -/
def SmF (z : Nat) (l : List Fl.Ob) : Prop := ∀ o ∈ l, o.1.size ≤ z ∧ o.2.2.size ≤ z
theorem SmF.snoc {z : Nat} {l : List Fl.Ob} {o : Fl.Ob} (h : SmF z l) (h1 : o.1.size ≤ z) (h2 : o.2.2.size ≤ z) : SmF z (l ++ [o]) := fun x hx => by
  rcases List.mem_append.1 hx with q | q
  · exact h x q
  · rw [List.mem_singleton.1 q]; exact ⟨h1, h2⟩
theorem SmF.up {z y : Nat} {l : List Fl.Ob} (h : SmF z l) (hz : z ≤ y) : SmF y l := fun o ho => ⟨Nat.le_trans (h o ho).1 hz, Nat.le_trans (h o ho).2 hz⟩
theorem posShape {w : World} {base : Nat} {e : TypeId} {s : Nat} {v : Value} {n : Nat} {xs : List Value} (h : w.ownsRow base e s v n xs) (hn : n ≠ 0) : ∃ g c, v = .slice (some ⟨g, 0, none⟩) n c := by
  rcases h.2 with ⟨_, h0⟩ | ⟨g, c, cur, e, _⟩
  · exact absurd h0 hn
  · exact ⟨g, c, e⟩
/-- A store that is nil, or one's own. -/
def StS (base : Nat) (w : World) (v : Value) (ls : List Ob) : Prop := (v = .slice none 0 0 ∧ ls = []) ∨ ((∃ g c, v = .slice (some ⟨g, 0, none⟩) ls.length c) ∧ w.ownsRow base 93 3 v ls.length (ocells ls))
theorem StS.kept {base : Nat} {w w' : World} {v : Value} {ls : List Ob} {row : Option Nat} (h : StS base w v ls) (hg : w.grownBy w' row) (hr : v.ownBlock = none ∨ v.ownBlock ≠ row) : StS base w' v ls := by
  rcases h with ⟨e, l⟩ | ⟨e, o⟩
  · exact .inl ⟨e, l⟩
  · exact .inr ⟨e, o.kept hg hr⟩
theorem StS.lt {base : Nat} {w : World} {v : Value} {ls : List Ob} (h : StS base w v ls) : ∀ j, v.ownBlock = some j → base ≤ j ∧ j < w.heap.size := fun j hj => by
  rcases h with ⟨e, l⟩ | ⟨e, o⟩
  · rw [e] at hj; cases hj
  · exact o.lt j hj
/-- A store behind which an object was put. -/
theorem putAny {base : Nat} {w : World} {v : Value} {ls : List Ob} (h : StS base w v ls) (hs : SmZ 100 ls) (hl : ls.length ≤ 199) (D : ByteArray) (hD : D.size ≤ 90) :
    ∃ (C : Int) (L : List Ob) (s : ByteArray), Calls Tryz.prog 39 #[v, .int .i64 1, .string D] w (fun e w' => PT C L s w e w') ∧ (C = 0 → SmZ 100 L ∧ L.length ≤ ls.length + 1) ∧ s.size ≤ 10 := by
  rcases h with ⟨rfl, rfl⟩ | ⟨⟨g, c, rfl⟩, o⟩
  · refine ⟨0, [(idN 1 D, 1, D)], idN 1 D, l5PutNil 1 D w rfl (by omega), fun _ => ⟨⟨by simp, fun x hx => ?_⟩, by simp⟩, idN_small 1 D⟩
    rw [List.mem_singleton.1 hx]
    exact ⟨idN_small 1 D, by show D.size ≤ 100; omega⟩
  · refine ⟨pC ls 1 D, pL ls 1 D, pS ls 1 D, l5Put g 0 c ls 1 D w (OB.of o) (ownNil' o) (by omega) rfl (by omega), fun hc => ?_, ?_⟩
    · obtain ⟨q1, q2, _⟩ := pL_sm (l := ls) (k := 1) (d := D) hs hl hD hc
      exact ⟨q1, q2⟩
    · unfold pS
      split
      · exact idN_small 1 D
      · simp
/-- What is drawn: a store, files. -/
def SoPost (N b : Nat) (a : Option Addr) (n cap : Nat) (k : Int) (w : World) (e : Ending) (w' : World) : Prop :=
  ∃ (sv : Value) (ls : List Ob) (g c : Nat) (lf : List Fl.Ob) (k' : Int), e = .returned (.tuple #[sv, .slice (some ⟨g, 0, none⟩) lf.length c]) ∧ w'.ownsRow w.heap.size 42 3 (.slice (some ⟨g, 0, none⟩) lf.length c) lf.length (Fl.ocells lf) ∧ lf.length ≤ 8 ∧ SmF 20 lf ∧
    StS w.heap.size w' sv ls ∧ ls.length ≤ 8 ∧ SmZ 100 ls ∧ sv.ownBlock ≠ some g ∧ w.grownBy w' (some b) ∧ Src N w' b a n cap k' ∧ k' ≤ k + 200
theorem StS.down {base base' : Nat} {w : World} {v : Value} {ls : List Ob} (h : StS base w v ls) (hb : base' ≤ base) : StS base' w v ls := by
  rcases h with ⟨e, l⟩ | ⟨e, o⟩
  · exact .inl ⟨e, l⟩
  · exact .inr ⟨e, ownDn o hb⟩
theorem pick4' {w W : World} {x0 x1 x2 x3 : Int} {t : TypeId} (h : w.alloc (.cells #[.int .i64 x0, .int .i64 x1, .int .i64 x2, .int .i64 x3] t) = W) : ∀ j, j < 4 → ∃ v, W.cell? ⟨w.heap.size, j, none⟩ = some (.int .i64 v) ∧ True := by
  intro j hj
  have hc : ∀ i, W.cell? ⟨w.heap.size, i, none⟩ = _ := fun i => cell_of_row W w.heap.size i _ _ _ (by rw [← h]; exact heap_alloc_new w _)
  rw [hc]
  have : j = 0 ∨ j = 1 ∨ j = 2 ∨ j = 3 := by omega
  rcases this with rfl | rfl | rfl | rfl <;> exact ⟨_, rfl, trivial⟩
theorem step_callP {ops : Array Oper} {o : Oper} {a : Act} {w : World} {K : Act → World → Prop} {Q : Exit → Act → World → Prop} {E : Prop}
    (hg : o.guard = none) (f : FuncId) (hf : ∀ vs w, (callFunc f vs).run Tryz.prog w = .ok (.enter f vs) w) (x1 x2 : Operand) (ts : Array TypeId) (hop : o.op = Op.call { callee := Callee.value (Operand.func f), args := #[x1, x2], argTypes := ts })
    (v1 v2 : Value) (h1 : a.eval x1 = v1) (h2 : a.eval x2 = v2) {P : Ending → World → Prop} (hc : Calls Tryz.prog f #[v1, v2] w P) (hK : ∀ e w', P e w' → ∃ v, e = .returned v ∧ K (a.put o.dst v) w') :
    if Region.wanted o (yielded ops a.tmps) = true then Oper.wp Tryz.prog o a w K Q else E := by
  have hw : Region.wanted o (yielded ops a.tmps) = true := by simp [Region.wanted, hg]
  rw [if_pos hw]
  have hrun : (execOp a.eval o).run Tryz.prog w = .ok (.enter f #[v1, v2]) w := by
    have e1 : a.eval x1 = v1 := h1
    have e2 : a.eval x2 = v2 := h2
    simp [execOp, hop, resolve, invoke, go_sem, hf]
    constructor
    · cases x1 with | tmp t => simpa [Act.eval] using h1 | const v => exact h1 | global g => exact h1 | func f => exact h1
    · cases x2 with | tmp t => simpa [Act.eval] using h2 | const v => exact h2 | global g => exact h2 | func f => exact h2
  unfold Oper.wp
  rw [hrun, Oper.upon_enter]
  refine hc.mono ?_
  intro e w' hp
  obtain ⟨v, rfl, hk⟩ := hK e w' hp
  exact hk
theorem enterPick : ∀ vs w, (callFunc 43 vs).run Tryz.prog w = .ok (.enter 43 vs) w := fun vs w => by
  have h1 : (Tryz.f43.name == "runtime.NumGoroutine") = false := by kernel_rfl
  have hb : Tryz.f43.body.isNone = false := by kernel_rfl
  have h2 : ¬ Tryz.f43.name = "runtime.NumGoroutine" := by simpa using h1
  have h3 : ¬ Tryz.f43.body = none := fun e => by rw [e] at hb; cases hb
  simp [callFunc, Tryz.func43, h2, h3]
set_option maxRecDepth 20000 in
set_option maxHeartbeats 8000000 in
theorem l7SomeNil (N b : Nat) (a : Option Addr) (n cap : Nat) (k : Int) (w : World) (h : Src N w b a n cap k) (hk : k ≤ 100000) :
    Calls Tryz.prog 23 #[.pointer (some ⟨b, 0, none⟩), .slice none 0 0] w fun e w' => SoPost N b a n cap k w e w' := by
  have hlt := h.lt
  obtain ⟨WL, hWL⟩ : ∃ W, w.alloc (.cells #[.string ⟨#[97]⟩, .string ⟨#[98]⟩, .string ⟨#[99, 46, 103, 111]⟩, .string ⟨#[100, 105, 114, 47, 97]⟩, .string ⟨#[100, 105, 114, 47, 98]⟩, .string ⟨#[100, 105, 114, 47, 105, 110, 47, 120]⟩, .string ⟨#[108, 105, 98]⟩, .string ⟨#[120, 47, 121, 47, 122, 47, 119]⟩] 9) = W := ⟨_, rfl⟩
  have lB : LitB WL w.heap.size 8 8 := by
    rw [← hWL]
    exact lit_new w [⟨#[97]⟩, ⟨#[98]⟩, ⟨#[99, 46, 103, 111]⟩, ⟨#[100, 105, 114, 47, 97]⟩, ⟨#[100, 105, 114, 47, 98]⟩, ⟨#[100, 105, 114, 47, 105, 110, 47, 120]⟩, ⟨#[108, 105, 98]⟩, ⟨#[120, 47, 121, 47, 122, 47, 119]⟩] 9 8 (by decide)
  have bL : Below w.heap.size w WL := by rw [← hWL]; exact allocBelow _ _
  have zL : WL.heap.size = w.heap.size + 1 := by rw [← hWL]; simp
  obtain ⟨W0, hW0⟩ : ∃ W, WL.alloc (.cells #[] 42) = W := ⟨_, rfl⟩
  have b0 : Below WL.heap.size WL W0 := by rw [← hW0]; exact allocBelow _ _
  have o0 : W0.ownsRow (w.heap.size + 1) 42 3 (.slice (some ⟨w.heap.size + 1, 0, none⟩) 0 0) ([] : List Fl.Ob).length (Fl.ocells []) := by rw [← hW0, ← zL]; exact Fl.litE _
  have l0 : LitB W0 w.heap.size 8 8 := lB.kept (grown_of_below b0 none) (by simp)
  have B0 : Below w.heap.size w W0 := bL.trans (b0.mono (by omega))
  have s0 := h.below B0
  have G0 : w.grownBy W0 (some b) := grown_of_below B0 _
  have z0 : W0.heap.size = w.heap.size + 2 := by rw [← hW0, World.size_alloc, zL]
  have HW : Hid (_ = WL ∧ _ = W0) := ⟨hWL, hW0⟩
  clear hWL hW0 bL b0 lB B0 h
  go_enter Tryz.func23, Tryz.ntmps23
  go_upto_region 3 with fail
  rw [HW.out.1, HW.out.2]
  clear HW
  go_wp2
  go_loopw [1, 7, 8, 9, 10, 11] (fun st fl i _x _y _z wr => ∃ (m g c : Nat) (lf : List Fl.Ob) (ls : List Ob) (sv : Value) (k' : Int), sv = st ∧ m ≤ 8 ∧ i = .int .i64 m ∧ fl = .slice (some ⟨g, 0, none⟩) lf.length c ∧ wr.ownsRow (w.heap.size + 1) 42 3 (.slice (some ⟨g, 0, none⟩) lf.length c) lf.length (Fl.ocells lf) ∧ SmF 20 lf ∧ lf.length ≤ m ∧
      StS (w.heap.size + 1) wr sv ls ∧ sv.ownBlock ≠ some g ∧ ls.length ≤ m ∧ SmZ 100 ls ∧ Src N wr b a n cap k' ∧ k' ≤ k + 20 * m ∧ w.grownBy wr (some b) ∧ LitB wr w.heap.size 8 8) (fun _ _ i _ _ _ _ => 8 - (intOf i).toNat)
  case atStart => exact ⟨0, w.heap.size + 1, 0, [], [], _, k, rfl, by omega, rfl, rfl, o0, (fun o ho => by cases ho), Nat.le_refl _, .inl ⟨rfl, rfl⟩, (by intro e; cases e), Nat.le_refl _, ⟨by simp, fun o ho => by cases ho⟩, s0, by omega, G0, l0⟩
  case round =>
    clear o0 s0 l0 G0
    obtain ⟨m, g, c, lf, ls, sv, k', rfl, hm, rfl, rfl, hown, hsf, hlf, hst, hne, hls, hsz, hsrc, hkm, hgr, hlit⟩ := hrel
    have hgg := hown.lt g rfl
    have hgs := hgr.size
    by_cases hpos : m < 8
    · have q0 : (m : Int) < 8 := by omega
      go_wp2_with fail
      refine (l1Chance N b a n cap k' 2 _ hsrc (by omega)).mono ?_; rintro e w2 ⟨ch, rfl, s2, g2⟩
      have o2 := hown.kept g2 (blockCases _ _ fun j q1 q2 => by cases q2; have := (hown.lt _ q1).1; omega)
      have t2 := hst.kept g2 (blockCases _ _ fun j q1 q2 => by cases q2; have := (hst.lt _ q1).1; omega)
      have l2 := hlit.kept g2 (fun e => by have := Option.some.inj e; omega)
      have G2 := grown_trans hgr g2
      clear hown hst hlit hsrc hgr g2
      cases ch with
      | false =>
        have HR : Hid (_ ∧ _ ∧ _ ∧ _) := ⟨o2, t2, l2, G2⟩
        clear o2 t2 l2 G2
        go_wp2_with fail
        go_roundw
        case rel => exact ⟨m + 1, g, c, lf, ls, _, _, rfl, by omega, by go_num, rfl, HR.out.1, hsf, by omega, HR.out.2.1, hne, by omega, hsz, s2, by omega, HR.out.2.2.2, HR.out.2.2.1⟩
        case measure => simp [intOf]; omega
      | true =>
        go_wp2_with fail
        refine (l1Next N b a n cap (k' + 1) 5 _ s2 (by omega)).mono ?_; rintro e w3 ⟨r3, rfl, hd, s3, g3⟩
        have h30 := hd.1
        have h34 : r3 < 5 := hd.2.1 (by omega)
        obtain ⟨j3, rfl⟩ := Int.eq_ofNat_of_zero_le h30
        have o3 := o2.kept g3 (blockCases _ _ fun j q1 q2 => by cases q2; have := (o2.lt _ q1).1; omega)
        have t3 := t2.kept g3 (blockCases _ _ fun j q1 q2 => by cases q2; have := (t2.lt _ q1).1; omega)
        have l3 := l2.kept g3 (fun e => by have := Option.some.inj e; omega)
        have G3 := grown_trans G2 g3
        clear hd o2 t2 l2 s2 G2 g3 h30
        go_wp2_with fail
        refine (l1LinesF N b a n cap (k' + 1 + 1) j3 _ s3 (by omega) (by omega)).mono ?_; rintro e w4 ⟨ss, ga, ca, k4, rfl, lx, mx, ox, s4, hk4, g4⟩
        have o4 := o3.kept g4 (blockCases _ _ fun j q1 q2 => by cases q2; have := (o3.lt _ q1).1; omega)
        have t4 := t3.kept g4 (blockCases _ _ fun j q1 q2 => by cases q2; have := (t3.lt _ q1).1; omega)
        have l4 := l3.kept g4 (fun e => by have := Option.some.inj e; omega)
        have G4 := grown_trans G3 g4
        have ht := smallTot mx lx
        have hS := SS_ownN ox (mx.small.sizesN (by omega))
        clear o3 t3 l3 s3 G3 g4 ox
        go_wp2_with fail
        refine (l1Join (some ⟨ga, 0, none⟩) ca ss _ hS (by omega) (by omega)).mono ?_; rintro e w4 ⟨rfl, rfl⟩
        have hz := catB_size ss
        obtain ⟨D, hD⟩ : ∃ D, catB ss = D := ⟨_, rfl⟩
        rw [hD] at hz ⊢
        have hdz : D.size ≤ 90 := by omega
        obtain ⟨C, L, sI, hPu, hC0, hsI⟩ := putAny t4 hsz (by omega) D hdz
        have zz := G4.size
        have hg4 := (o4.lt g rfl).2
        clear hD hS hz mx lx ht
        go_wp2_with fail
        refine hPu.mono ?_; rintro e w5 ⟨v5, rfl, hn5, p5, b5⟩
        have o5 := o4.kept (grown_of_below b5 none) (blockCases _ _ fun b c1 c2 => by cases c2)
        have t5 := t4.kept (grown_of_below b5 none) (blockCases _ _ fun b c1 c2 => by cases c2)
        have l5 := l4.kept (grown_of_below b5 none) (by simp)
        have s5 := s4.below b5
        have G5 : w.grownBy w5 (some b) := grown_new G4 (grown_of_below b5 none) (fun j hj => by cases hj)
        by_cases hc : C = 0
        · obtain ⟨q1, q2⟩ := hC0 hc
          have q3 : (C != 0) = false := by rw [hc]; rfl
          obtain ⟨gs, cs, rfl⟩ := rowPos p5 (hn5 hc)
          have hgs5 := p5.lt gs rfl
          have T5 : StS (w.heap.size + 1) w5 (.slice (some ⟨gs, 0, none⟩) L.length cs) L := .inr ⟨⟨gs, cs, rfl⟩, ownDn p5 (by omega)⟩
          have hgd : gs ≠ g := by omega
          clear hPu o4 t4 l4 s4 G4 b5 hC0 hn5 t5 p5
          obtain ⟨x, hx, hxz⟩ := l5 m hpos
          obtain ⟨i0, hi, hz0, hz1, hz2⟩ := info_parts Fl.infoObj
          obtain ⟨C3, hC3⟩ : ∃ C, Obj.cells #[.int .i64 1, .int .i64 1, .int .i64 1, .int .i64 2] 2 = C := ⟨_, rfl⟩
          have bA : Below w5.heap.size w5 (w5.alloc C3).drew := ((Below.refl _ _).alloc (Nat.le_refl _) _).drew
          have hS1' : w5.heap.size < (w5.alloc C3).drew.heap.size := by simp
          have hlC : ∀ j, j < 4 → ∃ v : Int, (w5.alloc C3).drew.cell? ⟨w5.heap.size, j, none⟩ = some (.int .i64 v) ∧ True := pick4' (w := w5) (W := (w5.alloc C3).drew) (t := 2) (x0 := 1) (x1 := 1) (x2 := 1) (x3 := 2) |> fun f => by
            intro j hj
            have q := Rs.new w5 #[.int .i64 1, .int .i64 1, .int .i64 1, .int .i64 2] 2 j
            rw [hC3] at q
            have hj3 : j = 0 ∨ j = 1 ∨ j = 2 ∨ j = 3 := by omega
            rcases hj3 with rfl | rfl | rfl | rfl
            · exact ⟨1, q _ rfl, trivial⟩
            · exact ⟨1, q _ rfl, trivial⟩
            · exact ⟨1, q _ rfl, trivial⟩
            · exact ⟨2, q _ rfl, trivial⟩
          have hPk := l1Pick N b a n cap k4 w5.heap.size 4 4 (fun _ => True) (w5.alloc C3).drew (s5.below bA) (by omega) (by omega) (by omega) (by have := s5.lt; omega) hS1' hlC
          have hxd : w5.drew.cell? ⟨w.heap.size, m, none⟩ = some (.string x) := hx
          have hxA : (w5.alloc C3).drew.cell? ⟨w.heap.size, m, none⟩ = some (.string x) := (bA.cell (p := ⟨w.heap.size, m, none⟩) (by show w.heap.size < _; omega)).trans hx
          have hnb : some w.heap.size ≠ some b := fun e => by have := Option.some.inj e; omega
          have oA := o5.kept (grown_of_below bA none) (blockCases _ _ fun b c1 c2 => by cases c2)
          have tA := T5.kept (grown_of_below bA none) (blockCases _ _ fun b c1 c2 => by cases c2)
          have lA := l5.kept (grown_of_below bA none) (by simp)
          have GA : w.grownBy (w5.alloc C3).drew (some b) := grown_new G5 (grown_of_below bA none) (fun j hj => by cases hj)
          have zA : w5.heap.size < (w5.alloc C3).drew.heap.size := hS1'
          have q8 : (m : Int) < 8 := by omega
          clear hlC bA hS1' o5 T5 l5 G5 s5 hx
          go_wp2_with fail
          go_region_held_law (fun w' => w'.cell? ⟨w.heap.size, m, none⟩ = some (.string x)) (first | with_reducible exact hxd | with_reducible exact hxA | with_reducible exact hxB | with_reducible exact hxC | with_reducible exact hxE | exact hxd | exact hxA | exact hxC)
            ((first
              | (refine Fl.stepApp rfl (.tmp 37) (.tmp 47) 24 rfl (w.heap.size + 1) 42 i0 (.agg #[.string ⟨#[]⟩, .int .i64 0, .string ⟨#[]⟩]) 3 40 Tryz.underlying24 hi hz0 hz1 hz2 rfl (by decide) (.slice (some ⟨g, 0, none⟩) lf.length c) _ _ rfl o7 ⟨w6.heap.size, 0, none⟩ 1 _ (Fl.ocells [(x, y, sI)]) rfl (Fl.ocells_length _) nD (Fl.oneE _) (by unfold maxLen; omega) (by omega) (by omega) ?_; intro v12 w12 o12 g12 e12; have hxE := g12.cell hxC (by rw [ownBlock_slice]; simp; omega))
              | (go_at_call 43; refine hPk.mono ?_; rintro e w6 ⟨y, rfl, _, s6, g6⟩; have hxB := g6.cell hxA hnb; have o6 := oA.kept g6 (blockCases _ _ fun j q1 q2 => by cases q2; have := (oA.lt _ q1).1; omega); have o7 := o6.alloc (.cells #[.string x, .int .i64 y, .string sI] 42); have z6 := g6.size; have z7 : (w6.alloc (.cells #[.string x, .int .i64 y, .string sI] 42)).heap.size = w6.heap.size + 1 := World.size_alloc _ _; have nD := Fl.newE w6 (x, y, sI); have hxC := (grown_of_below (allocBelow w6 (.cells #[.string x, .int .i64 y, .string sI] 42)) none).cell hxB (by simp))))
          all_goals
            have hgo := oA.lt g rfl
            have G12 : w.grownBy w12 (some b) := grown_new (grown_trans (grown_trans GA g6) (World.grownBy_alloc w6 _ (some b))) g12 (fun j hj => by rw [ownBlock_slice] at hj; cases hj; omega)
            have S12 := (s6.below (allocBelow w6 (.cells #[.string x, .int .i64 y, .string sI] 42))).kept g12 (by rw [ownBlock_slice]; simp; omega) (fun j hj => by rw [ownBlock_slice] at hj; cases hj; have := s6.ge; omega)
            have t6 := (tA.kept g6 (blockCases _ _ fun j q1 q2 => by cases q2; have := (tA.lt _ q1).1; omega)).kept (grown_of_below (allocBelow w6 (.cells #[.string x, .int .i64 y, .string sI] 42)) none) (blockCases _ _ fun b c1 c2 => by cases c2)
            have T12 := t6.kept g12 (.inr (by rw [ownBlock_slice, ownBlock_slice]; simp; omega))
            have l6 := (lA.kept g6 hnb).kept (grown_of_below (allocBelow w6 (.cells #[.string x, .int .i64 y, .string sI] 42)) none) (by simp)
            have L12 := l6.kept g12 (by rw [ownBlock_slice]; simp; omega)
            have O12 : w12.ownsRow (w.heap.size + 1) 42 3 v12 (lf ++ [(x, y, sI)]).length (Fl.ocells (lf ++ [(x, y, sI)])) := by rw [List.length_append, Fl.ocells_app]; exact o12
            obtain ⟨g', c', rfl⟩ := posShape O12 (by simp)
            have hg' : gs ≠ g' := by
              rcases e12 with q | q
              · rw [ownBlock_slice, ownBlock_slice] at q; have := Option.some.inj q; omega
              · rw [ownBlock_slice, World.size_alloc] at q; have := Option.some.inj q; omega
            have HR : Hid (_ ∧ _ ∧ _ ∧ _) := ⟨O12, T12, L12, G12⟩
            have HS : Hid (SmF 20 (lf ++ [(x, y, sI)])) := hsf.snoc (by show x.size ≤ 20; omega) (by show sI.size ≤ 20; omega)
            have hl2 : (lf ++ [(x, y, sI)]).length = lf.length + 1 := by simp
            clear G12 t6 T12 l6 L12 O12 o12 g12 e12 nD o6 o7 hxA hxB hxC hxE hxd hPk g6 s6 oA tA lA GA hsf
          all_goals
            go_wp2_with fail
            go_roundw
            case rel => exact ⟨m + 1, g', c', lf ++ [(x, y, sI)], L, _, _, rfl, by omega, by go_num, (by rw [hl2]), HR.out.1, HS.out, by omega, HR.out.2.1, (by rw [ownBlock_slice]; simp; omega), by omega, q1, S12, by omega, HR.out.2.2.2, HR.out.2.2.1⟩
            case measure => simp [intOf]; omega
        · have q3 : (C != 0) = true := by simpa using hc
          have HR : Hid (_ ∧ _ ∧ _ ∧ _) := ⟨o5, t5, l5, G5⟩
          clear hPu o4 t4 l4 s4 G4 b5 hC0 hn5 hc p5 o5 t5 l5 G5
          go_wp2_with fail
          go_roundw
          case rel => exact ⟨m + 1, g, c, lf, ls, _, _, rfl, by omega, by go_num, rfl, HR.out.1, hsf, by omega, HR.out.2.1, hne, by omega, hsz, s5, by omega, HR.out.2.2.2, HR.out.2.2.1⟩
          case measure => simp [intOf]; omega
    · have q0 : ¬ (m : Int) < 8 := by omega
      have HF : Hid (SoPost N b a n cap k w (.returned (.tuple #[sv, .slice (some ⟨g, 0, none⟩) lf.length c])) wr) := ⟨sv, ls, g, c, lf, k', rfl, ownDn hown (Nat.le_succ _), by omega, hsf, hst.down (Nat.le_succ _), by omega, hsz, hne, hgr, hsrc, by omega⟩
      clear hown hlit hsrc hgr hsf hsz hst hne
      go_wp2_with fail
      refine bodyPost_ret (v := .tuple #[sv, .slice (some ⟨g, 0, none⟩) lf.length c]) (by simp [results, Tryz.results23, go_sem]) rfl ?_
      exact HF.out
end Go.Proofs.YtkgcpndnlefkoaaGreatDoor
