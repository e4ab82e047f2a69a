/- Files that are like others: l7Near. No statement is proved here. -/
import Derived.Test.YtkgcpndnlefkoaaGreatDoorRows
import Derived.Test.YtkgcpndnlefkoaaGreatDoorLemQ
import Derived.Test.YtkgcpndnlefkoaaGreatDoorLwEQ
import Derived.Test.YtkgcpndnlefkoaaGreatDoorLFLemQ
import Derived.Test.YtkgcpndnlefkoaaGreatDoorDTabQ
import Derived.Test.YtkgcpndnlefkoaaGreatDoorInQ
import Derived.Test.YtkgcpndnlefkoaaGreatDoorDigCQ
import Derived.Test.YtkgcpndnlefkoaaGreatDoorObLQ
import Derived.Test.YtkgcpndnlefkoaaGreatDoorGtSQ
import Derived.Test.YtkgcpndnlefkoaaGreatDoorShQQ
import Derived.Test.YtkgcpndnlefkoaaGreatDoorOcAQ
import Derived.Test.YtkgcpndnlefkoaaGreatDoorPuSQ
import Derived.Test.YtkgcpndnlefkoaaGreatDoorJoinCQ
import Derived.Test.YtkgcpndnlefkoaaGreatDoorDrawQ
import Derived.Test.YtkgcpndnlefkoaaGreatDoorDraw5Q
import Derived.Test.YtkgcpndnlefkoaaGreatDoorDraw7Q
import Derived.Test.YtkgcpndnlefkoaaGreatDoorDraw12Q
import Derived.Test.YtkgcpndnlefkoaaGreatDoorDfMQ
import Derived.Test.YtkgcpndnlefkoaaGreatDoorDfBQ
import Derived.Test.YtkgcpndnlefkoaaGreatDoorDraw40Q
import Derived.Test.YtkgcpndnlefkoaaGreatDoorShelfCQ
import Derived.Test.YtkgcpndnlefkoaaGreatDoorDfTQ
import Derived.Test.YtkgcpndnlefkoaaGreatDoorDfQQ
import Derived.Test.YtkgcpndnlefkoaaGreatDoorFfCQ
import Derived.Test.YtkgcpndnlefkoaaGreatDoorFfSQ
import Derived.Test.YtkgcpndnlefkoaaGreatDoorFbIQ
import Derived.Test.YtkgcpndnlefkoaaGreatDoorDraw41Q
import Derived.WalkKit
import Derived.ProofKit
import Derived.Below
import Derived.WalkSpells
import Derived.Deep.QuietTactic
import Derived.BigQuiet
import Derived.Deep.RegionWith
import Derived.Deep.RegionHeld
import Derived.Deep.RegionLaw
import Derived.Deep.RegionHeldLaw
import Derived.Deep.Cut
import Derived.Deep.CutRange
import Derived.Maps.AppendAt
set_option linter.unusedVariables false
namespace Go.Proofs.YtkgcpndnlefkoaaGreatDoor
open Go.ChangeShapes Go.WideShapes Go.ChangeAt Go.RowKit

/-- What is drawn near files. -/
def NePost (N b : Nat) (a : Option Addr) (n cap : Nat) (K : Int) (z m : Nat) (w : World) (e : Ending) (w' : World) : Prop :=
  ∃ (v : Value) (l : List Fl.Ob), e = .returned v ∧ v.ownBlock ≠ none ∧ NW N b a n cap K z w w' v l ∧ l.length ≤ m
theorem kept_ob {B : Nat} {w w' : World} {x : Option Addr} {l : List Fl.Ob} {q : Nat} (h : Fl.OB B w x l) (hg : w.grownBy w' (some q)) (hq : B ≤ q) : Fl.OB B w' x l := fun k hk => by
  obtain ⟨g, off, e, hgb, d0, d1, d2⟩ := h k hk
  have hne : some g ≠ some q := fun e => by have : g = q := Option.some.inj e; omega
  exact ⟨g, off, e, hgb, hg.cell d0 hne, hg.cell d1 hne, hg.cell d2 hne⟩
theorem shapeF {w : World} {base : Nat} {e : TypeId} {s : Nat} {v : Value} {n : Nat} {xs : List Value} (h : w.ownsRow base e s v n xs) : ∃ a c, v = .slice a n c ∧ (a = none → c = 0) ∧ n ≤ c := by
  rcases h.2 with ⟨h', h0'⟩ | ⟨g, c, cur, h', _, _, h1, _⟩
  · exact ⟨none, 0, by rw [h', h0'], fun _ => rfl, by omega⟩
  · exact ⟨_, _, h', (fun e => by cases e), h1⟩
theorem step_callQ {ops : Array Oper} {o : Oper} {a : Act} {w : World} {K : Act → World → Prop} {Q : Exit → Act → World → Prop} {E : Prop}
    (hg : o.guard = none) (f : FuncId) (hf : ∀ vs w, (callFunc f vs).run Tryz.prog w = .ok (.enter f vs) w) (x1 : Operand) (ts : Array TypeId) (hop : o.op = Op.call { callee := Callee.value (Operand.func f), args := #[x1], argTypes := ts })
    (v1 : Value) (h1 : a.eval x1 = v1) {P : Ending → World → Prop} (hc : Calls Tryz.prog f #[v1] w P) (hK : ∀ e w', P e w' → ∃ v, e = .returned v ∧ K (a.put o.dst v) w') :
    if Region.wanted o (yielded ops a.tmps) = true then Oper.wp Tryz.prog o a w K Q else E := by
  have hw : Region.wanted o (yielded ops a.tmps) = true := by simp [Region.wanted, hg]
  rw [if_pos hw]
  have hrun : (execOp a.eval o).run Tryz.prog w = .ok (.enter f #[v1]) w := by
    simp [execOp, hop, resolve, invoke, go_sem, hf]
    cases x1 with | tmp t => simpa [Act.eval] using h1 | const v => exact h1 | global g => exact h1 | func f => exact h1
  unfold Oper.wp
  rw [hrun, Oper.upon_enter]
  refine hc.mono ?_
  intro e w' hp
  obtain ⟨v, rfl, hk⟩ := hK e w' hp
  exact hk
theorem enterSort : ∀ vs w, (callFunc 37 vs).run Tryz.prog w = .ok (.enter 37 vs) w := fun vs w => by
  have h1 : (Tryz.f37.name == "runtime.NumGoroutine") = false := by kernel_rfl
  have hb : Tryz.f37.body.isNone = false := by kernel_rfl
  have h2 : ¬ Tryz.f37.name = "runtime.NumGoroutine" := by simpa using h1
  have h3 : ¬ Tryz.f37.body = none := fun e => by rw [e] at hb; cases hb
  simp [callFunc, Tryz.func37, h2, h3]
set_option maxRecDepth 20000 in
set_option maxHeartbeats 16000000 in
theorem l7NearC (N b : Nat) (a : Option Addr) (n cap : Nat) (k : Int) (w : World) (x : Option Addr) (cx : Nat) (lf : List Fl.Ob) (h : Src N w b a n cap k) (hk : k ≤ 100000) (ho : Fl.OB w.heap.size w x lf) (hx : x = none → cx = 0) (hl : lf.length ≤ 100) (hs : SmF 20 lf) :
    Calls Tryz.prog 24 #[.pointer (some ⟨b, 0, none⟩), .slice x lf.length cx] w fun e w' => NePost N b a n cap (k + 100) 20 (lf.length + 4) w e w' := by
  have hlt := h.lt
  have bL := allocBelow w (.cells #[] 42)
  have o1 := Fl.litE w
  have A1 : Fl.OB w.heap.size (w.alloc (.cells #[] 42)) x lf := Fl.belowAt ho bL (Nat.le_refl _)
  have z1 := bL.size
  have s1 := h.below bL
  go_enter Tryz.func24, Tryz.ntmps24
  go_wp2_with (at_builtin; refine Fl.stopMark ?_)
  change wpList _ _ _ _ _ _
  refine Fl.wpList_appP rfl (.tmp 11) (.tmp 12) rfl w.heap.size (.slice (some ⟨w.heap.size, 0, none⟩) 0 0) [] rfl o1 x cx _ lf rfl A1 hx (by simp; omega) z1 ?_
  intro v2 w2 o2 g2 e2
  rw [List.nil_append] at o2
  have n2 : v2.ownBlock ≠ none := by rcases e2 with q | q <;> rw [q] <;> simp [ownBlock_slice]
  clear e2
  have B2 : Below w.heap.size w w2 := bL.grown g2 z1 (fun j hj => (o1.lt j hj).1)
  have E0 : NW N b a n cap k 20 w w2 v2 lf := ⟨hlt, o2, ⟨k, h.below B2, Int.le_refl _⟩, grown_of_below B2 _, hs⟩
  obtain ⟨k2, s2, hk2⟩ := E0.src
  clear o1 A1 bL s1 g2 o2 z1 B2 ho h hs
  go_wp2_with fail
  refine (l1Next N b a n cap k2 4 w2 s2 (by omega)).mono ?_; rintro e w3 ⟨r, rfl, hd, s3, g3⟩
  have hd0 := hd.1
  have hd1 : r < 4 := hd.2.1 (by omega)
  obtain ⟨j0, rfl⟩ := Int.eq_ofNat_of_zero_le hd0
  have E1 : Hid (NW N b a n cap (k + 10) 20 w w3 v2 lf) := E0.draw s3 (by omega) g3
  clear hd hd0 s3 g3 s2 E0
  go_wp2
  go_loopw [5, 6, 7, 8, 10, 49, 67, 83] (fun v i _n _i _x _a _b _c wr => ∃ (m : Nat) (l : List Fl.Ob) (sv : Value), i = .int .i64 m ∧ sv = v ∧ m ≤ 3 ∧ sv.ownBlock ≠ none ∧ NW N b a n cap (k + 10 + 20 * (3 - m)) 20 w wr sv l ∧ l.length + m ≤ lf.length + 3) (fun _ i _ _ _ _ _ _ _ => (intOf i).toNat)
  case atStart => exact ⟨j0, lf, _, rfl, rfl, by omega, n2, E1.out.up (by omega) (Nat.le_refl _), by omega⟩
  case round =>
    clear E1
    obtain ⟨m, l, sv, rfl, rfl, hm3, hnn, E, hll⟩ := hrel
    obtain ⟨av, cv, rfl, hn0, hlc⟩ := shapeF E.own
    obtain ⟨g, rfl⟩ : ∃ g, av = some ⟨g, 0, none⟩ := by
      rcases E.own.2 with ⟨e, _⟩ | ⟨g', c', cur, e, _⟩
      · rw [e] at hnn; exact absurd rfl hnn
      · simp only [Value.slice.injEq] at e; exact ⟨g', e.1⟩
    clear n2 hn0
    by_cases hpos : 0 < m
    · have hp : (0 : Int) < (m : Int) := by omega
      obtain ⟨k3, s3, hk3⟩ := E.src
      obtain ⟨L1, hL1⟩ : ∃ L1, l.length + 1 = L1 := ⟨_, rfl⟩
      have hw1 : IntKind.i64.wrap ((l.length : Int) + 1) = (L1 : Int) := by rw [IntKind.wrap_i64]; omega
      have hw0 : wrap64 ((l.length : Int) + 1) = (L1 : Int) := by unfold wrap64; omega
      go_wp2_with fail
      clear hw1 hw0
      refine (l1Next N b a n cap k3 _ _ s3 (by omega)).mono ?_; rintro e w4 ⟨r, rfl, hd, s4, g4⟩
      have hd0 := hd.1
      have hd1 : r < (L1 : Int) := hd.2.1 (by omega)
      obtain ⟨i, rfl⟩ := Int.eq_ofNat_of_zero_le hd0
      have hi : i ≤ l.length := by omega
      have E4 := E.draw s4 (show k3 + 1 ≤ k + 10 + 20 * (3 - m) + 1 by omega) g4
      clear hd hd0 hd1 s3 g4 E hL1
      by_cases hin : i < l.length
      · have q1 : (i : Int) < (l.length : Int) := by omega
        go_wp2_with fail
        refine (l1Chance N b a n cap (k3 + 1) 3 _ s4 (by omega)).mono ?_; rintro e w5 ⟨ch, rfl, s5, g5⟩
        have E5 := E4.draw s5 (show k3 + 1 + 1 ≤ k + 10 + 20 * (3 - m) + 2 by omega) g5
        clear s4 g5 E4
        cases ch with
        | true =>
          obtain ⟨i0, hi, hz0, hz1, hz2⟩ := info_parts Fl.infoObj
          have bA : Below w5.heap.size w5 (w5.alloc (.cells #[] 42)).drew := ((Below.refl _ _).alloc (Nat.le_refl _) _).drew
          have oA : (w5.alloc (.cells #[] 42)).drew.ownsRow w5.heap.size 42 3 (.slice (some ⟨w5.heap.size, 0, none⟩) 0 0) ([] : List Fl.Ob).length (Fl.ocells []) := Fl.litE w5
          have A1 : Fl.OB w5.heap.size (w5.alloc (.cells #[] 42)).drew (some ⟨g, 0, none⟩) l := Fl.belowAt (Fl.OB.of E5.own) bA (Nat.le_refl _)
          have zA := bA.size
          obtain ⟨I1, hI1⟩ : ∃ n, i + 1 = n := ⟨_, rfl⟩
          have hs9 : SmF 20 (l.take i ++ l.drop I1) := fun o ho => by
            rcases List.mem_append.1 ho with q | q
            · exact E5.sm o (List.mem_of_mem_take q)
            · exact E5.sm o (List.mem_of_mem_drop q)
          have htl : (l.take i).length = i := by rw [List.length_take]; omega
          have hL1 : (Fl.ocells (l.take i)).length = i * 3 := by rw [Fl.ocells_length, htl]
          have hm1 : ([] : List Fl.Ob).length + i ≤ maxLen := by unfold maxLen; simp; omega
          have hb1 : (([] : List Fl.Ob).length + i) * 40 ≤ 140737488355328 := by simp; omega
          have q6 : I1 ≤ l.length := by omega
          have q7 : i ≤ l.length := by omega
          have q8 : i ≤ I1 := by omega
          have q9 : i ≤ cv := by omega
          have q10 : I1 ≤ cv := by omega
          have hdl : (l.drop I1).length = l.length - I1 := List.length_drop
          have q4 : (i : Int) ≤ (cv : Int) := by omega
          have q5 : (I1 : Int) ≤ (l.length : Int) := by omega
          by_cases hcn : cv = I1
          · have hd0 : l.drop I1 = [] := List.drop_eq_nil_of_le (by omega)
            have hL2 : (Fl.ocells (l.drop I1)).length = (l.length - I1) * 3 := by rw [Fl.ocells_length, hdl]
            have hm2 : (l.take i).length + (l.length - I1) ≤ maxLen := by rw [htl]; unfold maxLen; omega
            have hb2 : ((l.take i).length + (l.length - I1)) * 40 ≤ 140737488355328 := by rw [htl]; omega
            have hw3 : IntKind.i64.wrap ((i : Int) + 1) = (I1 : Int) := by rw [IntKind.wrap_i64]; omega
            have HI1 : Hid (i + 1 = I1) := hI1
            clear hI1
            go_wp2_with fail
            go_region_law (first
              | (refine Fl.stepApp rfl (.tmp 57) (.tmp 60) 24 rfl w5.heap.size 42 i0 (.agg #[.string ⟨#[]⟩, .int .i64 0, .string ⟨#[]⟩]) 3 40 Tryz.underlying24 hi hz0 hz1 hz2 rfl (by decide) (.slice (some ⟨w5.heap.size, 0, none⟩) 0 0) _ _ rfl oA ⟨g, 0, none⟩ i _ (Fl.ocells (l.take i)) rfl hL1 (Fl.newsTakeE A1 i q7) (Fl.oneE _) hm1 hb1 zA ?_; intro v8 w8 o8 g8 e8; have A2 := kept_ob A1 g8 (Nat.le_refl _); have B8 : Below w5.heap.size w5 w8 := bA.grown g8 zA (fun j hj => (oA.lt j hj).1); have z8 := B8.size; have O8 : w8.ownsRow w5.heap.size 42 3 v8 (l.take i).length (Fl.ocells (l.take i)) := (by have o8' := o8; rw [show Fl.ocells ([] : List Fl.Ob) = [] from rfl, List.nil_append] at o8'; rw [htl]; simpa using o8'); clear o8)
              | (refine Fl.stepApp rfl (.tmp 61) (.tmp 65) 24 rfl w5.heap.size 42 i0 (.agg #[.string ⟨#[]⟩, .int .i64 0, .string ⟨#[]⟩]) 3 40 Tryz.underlying24 hi hz0 hz1 hz2 rfl (by decide) v8 _ _ rfl O8 ⟨g, 0, none⟩ (l.length - I1) _ (Fl.ocells (l.drop I1)) rfl hL2 (fun j u hu => by rw [hd0] at hu; simp [Fl.ocells, Fl.rowG] at hu) (Fl.oneE _) hm2 hb2 z8 ?_; intro v9 w9 o9 g9 e9))
            all_goals
              clear hw3
              have hI1 := HI1.out
              have B9 : Below w5.heap.size w5 w9 := B8.grown g9 z8 (fun j hj => (O8.lt j hj).1)
              have O9 : w9.ownsRow w5.heap.size 42 3 v9 (l.take i ++ l.drop I1).length (Fl.ocells (l.take i ++ l.drop I1)) := by rw [List.length_append, hdl, Fl.ocells_app]; exact o9
              have E9 := E5.other B9 O9 E5.gr.size hs9
              have n9 : v9.ownBlock ≠ none := by
                rcases e9 with q | q
                · rw [q]; rcases e8 with q | q <;> rw [q] <;> simp [ownBlock_slice]
                · rw [q]; simp
              have HR : Hid (NW N b a n cap (k + 10 + 20 * (3 - m) + 2) 20 w w9 v9 (l.take i ++ l.drop I1) ∧ (l.take i ++ l.drop I1).length + (m - 1) ≤ lf.length + 3) := ⟨E9, by rw [List.length_append, htl, hdl]; omega⟩
              clear B9 O9 E9 g9 o9 B8 O8 A2 g8 oA A1 bA E5
              go_wp2_with fail
              go_roundw
              case rel => exact ⟨m - 1, _, v9, by go_num, rfl, by omega, by first | assumption | exact hnn | (rw [ownBlock_slice]; simp), HR.out.1.up (by omega) (Nat.le_refl _), HR.out.2⟩
              case measure => simp [intOf]; omega
          · have hL2 : (Fl.ocells (l.drop I1)).length = (l.length - I1) * 3 := by rw [Fl.ocells_length, hdl]
            have hm2 : (l.take i).length + (l.length - I1) ≤ maxLen := by rw [htl]; unfold maxLen; omega
            have hb2 : ((l.take i).length + (l.length - I1)) * 40 ≤ 140737488355328 := by rw [htl]; omega
            have hw3 : IntKind.i64.wrap ((i : Int) + 1) = (I1 : Int) := by rw [IntKind.wrap_i64]; omega
            have HI1 : Hid (i + 1 = I1) := hI1
            clear hI1
            go_wp2_with fail
            go_region_law (first
              | (refine Fl.stepApp rfl (.tmp 57) (.tmp 60) 24 rfl w5.heap.size 42 i0 (.agg #[.string ⟨#[]⟩, .int .i64 0, .string ⟨#[]⟩]) 3 40 Tryz.underlying24 hi hz0 hz1 hz2 rfl (by decide) (.slice (some ⟨w5.heap.size, 0, none⟩) 0 0) _ _ rfl oA ⟨g, 0, none⟩ i _ (Fl.ocells (l.take i)) rfl hL1 (Fl.newsTakeE A1 i q7) (Fl.oneE _) hm1 hb1 zA ?_; intro v8 w8 o8 g8 e8; have A2 := kept_ob A1 g8 (Nat.le_refl _); have B8 : Below w5.heap.size w5 w8 := bA.grown g8 zA (fun j hj => (oA.lt j hj).1); have z8 := B8.size; have O8 : w8.ownsRow w5.heap.size 42 3 v8 (l.take i).length (Fl.ocells (l.take i)) := (by have o8' := o8; rw [show Fl.ocells ([] : List Fl.Ob) = [] from rfl, List.nil_append] at o8'; rw [htl]; simpa using o8'); clear o8)
              | (refine Fl.stepApp rfl (.tmp 61) (.tmp 65) 24 rfl w5.heap.size 42 i0 (.agg #[.string ⟨#[]⟩, .int .i64 0, .string ⟨#[]⟩]) 3 40 Tryz.underlying24 hi hz0 hz1 hz2 rfl (by decide) v8 _ _ rfl O8 ⟨g, I1 * 3, none⟩ (l.length - I1) _ (Fl.ocells (l.drop I1)) rfl hL2 (Fl.newsDropE A2 I1 q6) (Fl.oneE _) hm2 hb2 z8 ?_; intro v9 w9 o9 g9 e9))
            all_goals
              clear hw3
              have hI1 := HI1.out
              have B9 : Below w5.heap.size w5 w9 := B8.grown g9 z8 (fun j hj => (O8.lt j hj).1)
              have O9 : w9.ownsRow w5.heap.size 42 3 v9 (l.take i ++ l.drop I1).length (Fl.ocells (l.take i ++ l.drop I1)) := by rw [List.length_append, hdl, Fl.ocells_app]; exact o9
              have E9 := E5.other B9 O9 E5.gr.size hs9
              have n9 : v9.ownBlock ≠ none := by
                rcases e9 with q | q
                · rw [q]; rcases e8 with q | q <;> rw [q] <;> simp [ownBlock_slice]
                · rw [q]; simp
              have HR : Hid (NW N b a n cap (k + 10 + 20 * (3 - m) + 2) 20 w w9 v9 (l.take i ++ l.drop I1) ∧ (l.take i ++ l.drop I1).length + (m - 1) ≤ lf.length + 3) := ⟨E9, by rw [List.length_append, htl, hdl]; omega⟩
              clear B9 O9 E9 g9 o9 B8 O8 A2 g8 oA A1 bA E5
              go_wp2_with fail
              go_roundw
              case rel => exact ⟨m - 1, _, v9, by go_num, rfl, by omega, by first | assumption | exact hnn | (rw [ownBlock_slice]; simp), HR.out.1.up (by omega) (Nat.le_refl _), HR.out.2⟩
              case measure => simp [intOf]; omega
        | false =>
          go_wp2_with fail
          refine (l1Chance N b a n cap (k3 + 1 + 1) 2 _ s5 (by omega)).mono ?_; rintro e w6 ⟨ch, rfl, s6, g6⟩
          have E6 := E5.draw s6 (show k3 + 1 + 1 + 1 ≤ k + 10 + 20 * (3 - m) + 3 by omega) g6
          clear s5 g6 E5
          have hX := E6.sm.get hin
          cases ch with
          | true =>
            go_wp2_with fail
            refine (l1Word N b a n cap (k3 + 1 + 1 + 1) _ s6 (by omega)).mono ?_; rintro e w7 ⟨x7, rfl, hz7, s7, g7⟩
            have E7 := E6.draw s7 (show k3 + 1 + 1 + 1 + 1 ≤ k + 10 + 20 * (3 - m) + 4 by omega) g7
            have hY : (x7 ++ (⟨#[33, 10]⟩ : ByteArray)).size ≤ 1048576 := by rw [ByteArray.size_append]; have e : (⟨#[33, 10]⟩ : ByteArray).size = 2 := rfl; omega
            clear s6 g7 E6
            have hId := l5Id 1 (x7 ++ (⟨#[33, 10]⟩ : ByteArray)) w7 rfl hY
            go_wp2_with fail
            refine hId.mono ?_; rintro e w8 ⟨rfl, hw8⟩
            subst hw8
            obtain ⟨C0, C1, C2⟩ := E7.cells hin
            have F2 := E7.own.frozenAt (i * 3 + 2)
            have E8 := E7.put hin (focells_id l i (idN 1 (x7 ++ (⟨#[33, 10]⟩ : ByteArray))) hin) hX.1 (by have := idN_small 1 (x7 ++ (⟨#[33, 10]⟩ : ByteArray)); show (idN 1 _).size ≤ 20; omega)
            have hLn : ∀ X, (l.set i X).length + (m - 1) ≤ lf.length + 3 := fun X => by rw [List.length_set]; omega
            have HR : Hid (_ ∧ _) := ⟨E8, hLn ((l.getD i Fl.onil).1, (l.getD i Fl.onil).2.1, idN 1 (x7 ++ (⟨#[33, 10]⟩ : ByteArray)))⟩
            clear E8 E7 s7 hId hY
            go_wp2_with fail
            go_roundw
            case rel => exact ⟨m - 1, _, _, by go_num, rfl, by omega, by first | assumption | exact hnn | (rw [ownBlock_slice]; simp), HR.out.1.up (by omega) (Nat.le_refl _), HR.out.2⟩
            case measure => simp [intOf]; omega
          | false =>
            obtain ⟨C0, C1, C2⟩ := E6.cells hin
            have F1 := E6.own.frozenAt (i * 3 + 1)
            obtain ⟨Y, hY⟩ : ∃ Y, (l.getD i Fl.onil).2.1 = Y := ⟨_, rfl⟩
            rw [hY] at C1
            have E8 := fun y => E6.put hin (focells_mode l i y hin) hX.1 hX.2
            have HR : Hid (∀ y : Int, NW N b a n cap (k + 10 + 20 * (3 - m) + 3) 20 w (w6.setCell ⟨g, i * 3 + 1, none⟩ (.int .i64 y)) (.slice (some ⟨g, 0, none⟩) l.length cv) (l.set i ((l.getD i Fl.onil).1, y, (l.getD i Fl.onil).2.2)) ∧ (l.set i ((l.getD i Fl.onil).1, y, (l.getD i Fl.onil).2.2)).length + (m - 1) ≤ lf.length + 3) := fun y => ⟨E8 y, by rw [List.length_set]; omega⟩
            clear E8 E6 s6 C0 C2 hX hY
            go_wp2_with fail
            go_roundw
            case rel => exact ⟨m - 1, _, _, by go_num, rfl, by omega, by first | exact hnn | (rw [ownBlock_slice]; simp), (HR.out _).1.up (by omega) (Nat.le_refl _), (HR.out _).2⟩
            case measure => simp [intOf]; omega
      · have q1 : ¬ (i : Int) < (l.length : Int) := by omega
        go_wp2_with fail
        refine (l7Path N b a n cap (k3 + 1) _ s4 (by omega)).mono ?_; rintro e w7 ⟨x7, rfl, hz7, s7, g7⟩
        have E7 := E4.draw s7 (show k3 + 1 + 1 ≤ k + 10 + 20 * (3 - m) + 2 by omega) g7
        clear s4 g7 E4
        go_wp2_with fail
        refine (l1Word N b a n cap (k3 + 1 + 1) _ s7 (by omega)).mono ?_; rintro e w8 ⟨x8, rfl, hz8, s8, g8⟩
        have E8 := E7.draw s8 (show k3 + 1 + 1 + 1 ≤ k + 10 + 20 * (3 - m) + 3 by omega) g8
        have hId := l5Id 1 x8 w8 rfl (by omega)
        clear s7 g8 E7
        go_wp2_with fail
        refine hId.mono ?_; rintro e w9 ⟨rfl, hw9⟩
        subst hw9
        have hy7 := idN_small 1 x8
        obtain ⟨y7, hy⟩ : ∃ y, idN 1 x8 = y := ⟨_, rfl⟩
        rw [hy] at hy7 ⊢
        clear hId hy s8
        obtain ⟨WF, hWF⟩ : ∃ W, w9.alloc (.cells #[.string x7, .int .i64 1, .string y7] 42) = W := ⟨_, rfl⟩
        have bF : Below w9.heap.size w9 WF := by rw [← hWF]; exact allocBelow _ _
        have zF : w9.heap.size < WF.heap.size := by rw [← hWF]; simp
        have rF : Rf WF w9.heap.size [.string x7, .int .i64 1, .string y7] := by rw [← hWF]; exact Rf.new _ _ _
        have EF := E8.bel bF
        have c0 := rF.at_ 0 _ rfl
        have HWF : Hid (_ = WF) := hWF
        obtain ⟨pf, hpf⟩ : ∃ p, w9.heap.size = p := ⟨_, rfl⟩
        rw [hpf] at c0 zF rF
        clear hWF E8 bF
        have hFi := fun W (h : Fl.OB W.heap.size W (some ⟨g, 0, none⟩) l) => Fl.l7FindC (some ⟨g, 0, none⟩) cv l x7 W h (by omega)
        unfold Fl.fv at hFi
        obtain ⟨F, hF⟩ : ∃ F, Fl.fa l x7 = F := ⟨_, rfl⟩
        obtain ⟨F0, F1, F2⟩ := F
        simp only [hF] at hFi
        have hFW := hFi WF (Fl.OB.of EF.own)
        clear hFi hF
        go_upto_region 8 with fail
        rw [HWF.out]
        go_wp2_with fail
        refine hFW.mono ?_; rintro e wg ⟨rfl, bg⟩
        have EG := EF.bel bg
        have rG := rF.below zF bg
        have zG : pf < wg.heap.size := Nat.lt_of_lt_of_le zF bg.size
        clear hFW EF bg rF zF c0 HWF
        by_cases hz : ((F0, F1, F2) : Fl.Ob) = Fl.onil
        · have fq := fun w => Fl.ef_nil hz w
          clear hz
          obtain ⟨i0, hi, hz0, hz1, hz2⟩ := info_parts Fl.infoObj
          obtain ⟨EC, hEC⟩ : ∃ C, Obj.cells #[] 42 = C := ⟨_, rfl⟩
          obtain ⟨FC, hFC⟩ : ∃ C, Obj.cells #[.string x7, .int .i64 1, .string y7] 42 = C := ⟨_, rfl⟩
          have c0 := rG.at_ 0 _ rfl
          have c1 := rG.at_ 1 _ rfl
          have c2 := rG.at_ 2 _ rfl
          have bA : Below wg.heap.size wg (wg.alloc EC).drew := ((Below.refl _ _).alloc (Nat.le_refl _) _).drew
          have bB : Below wg.heap.size wg ((wg.alloc EC).alloc FC).drew := (((Below.refl _ _).alloc (Nat.le_refl _) _).alloc (by simp) _).drew
          have bC : Below wg.heap.size wg ((wg.alloc FC).alloc EC).drew := (((Below.refl _ _).alloc (Nat.le_refl _) _).alloc (by simp) _).drew
          have zA : wg.heap.size ≤ (wg.alloc EC).drew.heap.size := bA.size
          have zB : wg.heap.size ≤ ((wg.alloc EC).alloc FC).drew.heap.size := bB.size
          have zC : wg.heap.size + 1 ≤ ((wg.alloc FC).alloc EC).drew.heap.size := by simp
          have oA : (wg.alloc EC).drew.ownsRow wg.heap.size 42 3 (.slice (some ⟨wg.heap.size, 0, none⟩) 0 0) ([] : List Fl.Ob).length (Fl.ocells []) := by rw [← hEC]; exact Fl.litE wg
          have oB : ((wg.alloc EC).alloc FC).drew.ownsRow wg.heap.size 42 3 (.slice (some ⟨wg.heap.size, 0, none⟩) 0 0) ([] : List Fl.Ob).length (Fl.ocells []) := by rw [← hEC]; exact (Fl.litE wg).alloc FC
          have oC : ((wg.alloc FC).alloc EC).drew.ownsRow (wg.heap.size + 1) 42 3 (.slice (some ⟨wg.heap.size + 1, 0, none⟩) 0 0) ([] : List Fl.Ob).length (Fl.ocells []) := by
            have q := Fl.litE (wg.alloc FC)
            rw [World.size_alloc, hEC] at q
            exact q
          have AA := Fl.belowAt (Fl.OB.of EG.own) bA (Nat.le_refl _)
          have AB := Fl.belowAt (Fl.OB.of EG.own) bB (Nat.le_refl _)
          have AC := Fl.belowAt (Fl.OB.of EG.own) bC (Nat.le_refl _)
          have fB : ∀ j u, (Fl.ocells [(x7, 1, y7)])[j]? = some u → ((wg.alloc EC).alloc FC).drew.cell? ((⟨wg.heap.size + 1, 0, none⟩ : Addr).add j) = some u := by
            have q := Fl.newE (wg.alloc EC) (x7, 1, y7)
            rw [World.size_alloc, hFC] at q
            exact q
          have fC : ∀ j u, (Fl.ocells [(x7, 1, y7)])[j]? = some u → ((wg.alloc FC).alloc EC).drew.cell? ((⟨wg.heap.size, 0, none⟩ : Addr).add j) = some u := fun j u hu => by
            have q := Fl.newE wg (x7, 1, y7) j u hu
            rw [hFC] at q
            have b2 : Below (wg.alloc FC).heap.size (wg.alloc FC) ((wg.alloc FC).alloc EC).drew := (allocBelow _ _).drew
            rw [add_plain] at q ⊢
            exact (b2.cell (by simp)).trans q
          have hlA := Fl.ocells_length l
          have hmA : ([] : List Fl.Ob).length + l.length ≤ maxLen := by unfold maxLen; simp; omega
          have hbA : (([] : List Fl.Ob).length + l.length) * 40 ≤ 140737488355328 := by simp; omega
          have hmB : l.length + 1 ≤ maxLen := by unfold maxLen; omega
          have hbB : (l.length + 1) * 40 ≤ 140737488355328 := by omega
          have hl1 : (Fl.ocells [(x7, (1 : Int), y7)]).length = 1 * 3 := Fl.ocells_length _
          have eqN : Fl.ocells ([] : List Fl.Ob) = [] := rfl
          have zG0 : pf < (wg.alloc EC).drew.heap.size := Nat.lt_of_lt_of_le zG zA
          have k0 := (bA.cell (p := ⟨pf, 0, none⟩) zG).trans c0
          have k1 := (bA.cell (p := ⟨pf, 1, none⟩) zG).trans c1
          have k2' := (bA.cell (p := ⟨pf, 2, none⟩) zG).trans c2
          obtain ⟨LL, hLL⟩ : ∃ X, (l ++ [(x7, (1 : Int), y7)] : List Fl.Ob) = X := ⟨_, rfl⟩
          have HLl : Hid (LL.length = l.length + 1) := by show _ = _; rw [← hLL]; simp
          have hLLb : LL.length ≤ 1048576 := by rw [HLl.out]; omega
          have sLL : SmF 20 LL := by rw [← hLL]; exact EG.sm.snoc (by show x7.size ≤ 20; omega) (by show y7.size ≤ 20; omega)
          have hgw := EG.gr.size
          go_wp2_with fail
          go_region_law (first
            | (refine Fl.stepApp rfl (.tmp 38) (.tmp 39) 24 rfl wg.heap.size 42 i0 (.agg #[.string ⟨#[]⟩, .int .i64 0, .string ⟨#[]⟩]) 3 40 Tryz.underlying24 hi hz0 hz1 hz2 rfl (by decide) (.slice (some ⟨wg.heap.size, 0, none⟩) 0 0) _ _ rfl oA ⟨g, 0, none⟩ l.length _ (Fl.ocells l) rfl hlA (Fl.newsO AA) (Fl.oneE _) hmA hbA zA ?_; intro v10 w10 o10 g10 e10; have Q10 : w10.ownsRow (wg.heap.size) 42 3 v10 l.length (Fl.ocells l) := (by have q := o10; rw [eqN, List.nil_append] at q; simpa using q); have b10 : Below wg.heap.size wg w10 := bA.grown g10 zA (fun j hj => by have := (oA.lt j hj).1; omega); have z10 := b10.size; have d0 := (b10.cell (p := ⟨pf, 0, none⟩) zG).trans c0; have d1 := (b10.cell (p := ⟨pf, 1, none⟩) zG).trans c1; have d2 := (b10.cell (p := ⟨pf, 2, none⟩) zG).trans c2; have P10 := Q10.alloc FC; have f10 : ∀ j u, (Fl.ocells [(x7, 1, y7)])[j]? = some u → (w10.alloc FC).cell? ((⟨w10.heap.size, 0, none⟩ : Addr).add j) = some u := (by have q := Fl.newE w10 (x7, 1, y7); rw [hFC] at q; exact q); have y10 : wg.heap.size ≤ (w10.alloc FC).heap.size := (by rw [World.size_alloc]; omega))
            | (refine Fl.stepApp rfl (.tmp 38) (.tmp 39) 24 rfl wg.heap.size 42 i0 (.agg #[.string ⟨#[]⟩, .int .i64 0, .string ⟨#[]⟩]) 3 40 Tryz.underlying24 hi hz0 hz1 hz2 rfl (by decide) (.slice (some ⟨wg.heap.size, 0, none⟩) 0 0) _ _ rfl oB ⟨g, 0, none⟩ l.length _ (Fl.ocells l) rfl hlA (Fl.newsO AB) (Fl.oneE _) hmA hbA zB ?_; intro v11 w11 o11 g11 e11; have Q11 : w11.ownsRow (wg.heap.size) 42 3 v11 l.length (Fl.ocells l) := (by have q := o11; rw [eqN, List.nil_append] at q; simpa using q); have b11 : Below wg.heap.size wg w11 := bB.grown g11 zB (fun j hj => by have := (oB.lt j hj).1; omega); have z11 := b11.size; have f11 : ∀ j u, (Fl.ocells [(x7, 1, y7)])[j]? = some u → w11.cell? ((⟨wg.heap.size + 1, 0, none⟩ : Addr).add j) = some u := (fun j u hu => by have q := fB j u hu; rw [add_plain] at q ⊢; exact g11.cell q (by rw [ownBlock_slice]; simp)))
            | (refine Fl.stepApp rfl (.tmp 38) (.tmp 39) 24 rfl (wg.heap.size + 1) 42 i0 (.agg #[.string ⟨#[]⟩, .int .i64 0, .string ⟨#[]⟩]) 3 40 Tryz.underlying24 hi hz0 hz1 hz2 rfl (by decide) (.slice (some ⟨wg.heap.size + 1, 0, none⟩) 0 0) _ _ rfl oC ⟨g, 0, none⟩ l.length _ (Fl.ocells l) rfl hlA (Fl.newsO AC) (Fl.oneE _) hmA hbA zC ?_; intro v12 w12 o12 g12 e12; have Q12 : w12.ownsRow (wg.heap.size + 1) 42 3 v12 l.length (Fl.ocells l) := (by have q := o12; rw [eqN, List.nil_append] at q; simpa using q); have b12 : Below wg.heap.size wg w12 := bC.grown g12 (by omega) (fun j hj => by have := (oC.lt j hj).1; omega); have z12 := b12.size; have f12 : ∀ j u, (Fl.ocells [(x7, 1, y7)])[j]? = some u → w12.cell? ((⟨wg.heap.size, 0, none⟩ : Addr).add j) = some u := (fun j u hu => by have q := fC j u hu; rw [add_plain] at q ⊢; exact g12.cell q (by rw [ownBlock_slice]; simp)); have y12 : wg.heap.size + 1 ≤ w12.heap.size := (by have := g12.size; omega))
            | (refine Fl.stepApp rfl (.tmp 40) (.tmp 42) 24 rfl wg.heap.size 42 i0 (.agg #[.string ⟨#[]⟩, .int .i64 0, .string ⟨#[]⟩]) 3 40 Tryz.underlying24 hi hz0 hz1 hz2 rfl (by decide) v10 _ _ rfl P10 ⟨w10.heap.size, 0, none⟩ 1 _ (Fl.ocells [(x7, 1, y7)]) rfl hl1 f10 (Fl.oneE _) hmB hbB y10 ?_; intro v20 w20 o20 g20 e20; have O20 : w20.ownsRow wg.heap.size 42 3 v20 LL.length (Fl.ocells LL) := (by rw [← hLL, List.length_append, Fl.ocells_app]; exact ownDn o20 (by omega)); have B20 : Below wg.heap.size wg w20 := ((b10.alloc (by omega) FC).grown g20 y10 (fun j hj => (P10.lt j hj).1)); obtain ⟨a20, c20, rfl⟩ := Fl.shapeK3 O20; have hSo := Fl.l7SortC a20 c20 LL w20 (Fl.OB.of O20) hLLb)
            | (refine Fl.stepApp rfl (.tmp 40) (.tmp 42) 24 rfl wg.heap.size 42 i0 (.agg #[.string ⟨#[]⟩, .int .i64 0, .string ⟨#[]⟩]) 3 40 Tryz.underlying24 hi hz0 hz1 hz2 rfl (by decide) v11 _ _ rfl Q11 ⟨wg.heap.size + 1, 0, none⟩ 1 _ (Fl.ocells [(x7, 1, y7)]) rfl hl1 f11 (Fl.oneE _) hmB hbB z11 ?_; intro v20 w20 o20 g20 e20; have O20 : w20.ownsRow wg.heap.size 42 3 v20 LL.length (Fl.ocells LL) := (by rw [← hLL, List.length_append, Fl.ocells_app]; exact ownDn o20 (by omega)); have B20 : Below wg.heap.size wg w20 := (b11.grown g20 z11 (fun j hj => (Q11.lt j hj).1)); obtain ⟨a20, c20, rfl⟩ := Fl.shapeK3 O20; have hSo := Fl.l7SortC a20 c20 LL w20 (Fl.OB.of O20) hLLb)
            | (refine Fl.stepApp rfl (.tmp 40) (.tmp 42) 24 rfl (wg.heap.size + 1) 42 i0 (.agg #[.string ⟨#[]⟩, .int .i64 0, .string ⟨#[]⟩]) 3 40 Tryz.underlying24 hi hz0 hz1 hz2 rfl (by decide) v12 _ _ rfl Q12 ⟨wg.heap.size, 0, none⟩ 1 _ (Fl.ocells [(x7, 1, y7)]) rfl hl1 f12 (Fl.oneE _) hmB hbB y12 ?_; intro v20 w20 o20 g20 e20; have O20 : w20.ownsRow wg.heap.size 42 3 v20 LL.length (Fl.ocells LL) := (by rw [← hLL, List.length_append, Fl.ocells_app]; exact ownDn o20 (by omega)); have B20 : Below wg.heap.size wg w20 := (b12.grown g20 z12 (fun j hj => by have := (Q12.lt j hj).1; omega)); obtain ⟨a20, c20, rfl⟩ := Fl.shapeK3 O20; have hSo := Fl.l7SortC a20 c20 LL w20 (Fl.OB.of O20) hLLb)
            | (refine step_callQ rfl 37 enterSort (.tmp 43) _ rfl _ rfl hSo ?_; rintro e w21 ⟨SS, gS, cS, rfl, oS, bS, sS, pS⟩; refine ⟨_, rfl, ?_⟩))
          all_goals
            have BS : Below wg.heap.size wg w21 := B20.trans (bS.mono B20.size)
            have OS : w21.ownsRow wg.heap.size 42 3 (.slice (some ⟨gS, 0, none⟩) SS.length cS) SS.length (Fl.ocells SS) := ownDn oS B20.size
            have sSS : SmF 20 SS := fun o ho => sLL o (pS.mem_iff.1 ho)
            have HSS : Hid (SS.length + (m - 1) ≤ lf.length + 3) := by show _ ≤ _; rw [pS.length_eq, HLl.out]; omega
            have HS6 : Hid (SS.length ≤ 1048576) := by show _ ≤ _; rw [pS.length_eq]; exact hLLb
            have E21 := EG.bel BS
            have F21 := EG.other BS OS hgw sSS
            have hFF := Fl.specFilesFault (some ⟨gS, 0, none⟩) cS SS w21 (Fl.OB.of OS) (fun o ho => ⟨Nat.le_trans (sSS o ho).1 (by omega), Nat.le_trans (sSS o ho).2 (by omega)⟩) HS6.out
            obtain ⟨R, hR⟩ : ∃ R, Fl.ffl SS = R := ⟨_, rfl⟩
            rw [hR] at hFF
            clear hR OS BS B20 bS oS O20 sS pS sLL c0 c1 c2 k0 k1 k2' bA bB bC oA oB oC AA AB AC fB fC EG rG hSo o20 g20 e20
            go_wp2_with fail
            refine hFF.mono ?_; rintro e w22 ⟨rfl, b22⟩
            have E22 := E21.bel b22
            have F22 := F21.bel b22
            clear E21 F21 b22 hFF
            by_cases h0 : R = 0
            · subst h0
              have HR : Hid (_ ∧ _) := ⟨F22, HSS.out⟩
              clear E22 F22
              go_wp2_with fail
              go_roundw
              case rel => exact ⟨m - 1, _, _, by go_num, rfl, by omega, by first | assumption | exact hnn | (rw [ownBlock_slice]; simp), HR.out.1.up (by omega) (Nat.le_refl _), HR.out.2⟩
              case measure => simp [intOf]; omega
            · have q : (R == 0) = false := by simpa using h0
              have HR : Hid (NW N b a n cap (k + 10 + 20 * (3 - m) + 3) 20 w w22 (.slice (some ⟨g, 0, none⟩) l.length cv) l ∧ l.length + (m - 1) ≤ lf.length + 3) := ⟨E22, by omega⟩
              clear E22 F22 h0
              go_wp2_with fail
              go_roundw
              case rel => exact ⟨m - 1, _, _, by go_num, rfl, by omega, by first | assumption | exact hnn | (rw [ownBlock_slice]; simp), HR.out.1.up (by omega) (Nat.le_refl _), HR.out.2⟩
              case measure => simp [intOf]; omega
        · have fq := fun w => Fl.ef_some hz w
          have HR : Hid (NW N b a n cap (k + 10 + 20 * (3 - m) + 3) 20 w wg _ l ∧ l.length + (m - 1) ≤ lf.length + 3) := ⟨EG, by omega⟩
          clear hz EG rG
          go_wp2_with fail
          go_roundw
          case rel => exact ⟨m - 1, _, _, by go_num, rfl, by omega, by first | assumption | exact hnn | (rw [ownBlock_slice]; simp), HR.out.1.up (by omega) (Nat.le_refl _), HR.out.2⟩
          case measure => simp [intOf]; omega
    · have hp : ¬ (0 : Int) < (m : Int) := by omega
      have HF : Hid (NePost N b a n cap (k + 100) 20 (lf.length + 4) w (.returned (.slice (some ⟨g, 0, none⟩) l.length cv)) wr) := ⟨_, l, rfl, hnn, E.up (by omega) (Nat.le_refl _), by omega⟩
      clear E
      go_wp2_with fail
      go_ret
      exact HF.out
end Go.Proofs.YtkgcpndnlefkoaaGreatDoor
