/- The contract of spec.l7Paths: the paths of two lists of files, rising. No statement is proved here. -/
import Derived.Test.YtkgcpndnlefkoaaGreatDoorRows
import Derived.Test.YtkgcpndnlefkoaaGreatDoorLemQ
import Derived.Test.YtkgcpndnlefkoaaGreatDoorDTabQ
import Derived.Test.YtkgcpndnlefkoaaGreatDoorInQ
import Derived.Test.YtkgcpndnlefkoaaGreatDoorLFLemQ
import Derived.Test.YtkgcpndnlefkoaaGreatDoorFfCQ
import Derived.Test.YtkgcpndnlefkoaaGreatDoorDfMQ
import Derived.Test.YtkgcpndnlefkoaaGreatDoorDfBQ
import Derived.Test.YtkgcpndnlefkoaaGreatDoorShelfCQ
import Derived.Test.YtkgcpndnlefkoaaGreatDoorDfTQ
import Derived.WalkKit
import Derived.ProofKit
import Derived.Below
import Derived.WalkSpells
import Derived.Deep.QuietTactic
import Derived.BigQuiet
import Derived.Deep.RegionWith
import Derived.Deep.RegionHeld
import Derived.Deep.RegionLaw
import Derived.Deep.CutRange
import Derived.Maps.AppendAt
import Derived.Laws.BitsLemmas
import Derived.Laws.Cover1
import Derived.Laws.AppendOwnNone
set_option linter.unusedVariables false
namespace Go.Proofs.YtkgcpndnlefkoaaGreatDoor.Fl
open Go.ChangeShapes Go.WideShapes Go.ChangeAt Go.RowKit

theorem stopMark {p : Prop} (h : Hid p) : p := h
theorem newsO {B : Nat} {w : World} {AD : Addr} {l : List Ob} (h : OB B w (some AD) l) : ∀ j u, (ocells l)[j]? = some u → w.cell? (AD.add j) = some u := by
  intro j u hu
  have hj := ocells_ltE hu
  obtain ⟨g, off, e, _⟩ := h 0 (by omega)
  simp only [Option.some.injEq] at e
  subst e
  rw [ocells_atE l j hj] at hu
  rw [add_plain, h.cellJ j hj]
  exact hu
/-- Files of another list behind a list of the call's own. -/
theorem wpList_appO {w : World} {ops : Array Oper} {rest : List Oper} {o : Oper} {a : Act} {Q : Exit → Act → World → Prop} (hgd : o.guard = none) (s x : Operand)
    (ho : o.op = .call { callee := .builtin .append, args := #[s, x], argTypes := #[24, 24] })
    (base : Nat) (v : Value) (S0 : List Ob) (hs : a.eval s = v) (hown : w.ownsRow base 42 3 v S0.length (ocells S0))
    (ax : Option Addr) (cx B : Nat) (S1 : List Ob) (hx : a.eval x = .slice ax S1.length cx) (hx2 : OB B w ax S1) (hx3 : ax = none → cx = 0)
    (hb : S0.length + S1.length ≤ 2097152) (hbase : base ≤ w.heap.size)
    (h : ∀ v' w', w'.ownsRow base 42 3 v' (S0 ++ S1).length (ocells (S0 ++ S1)) → w.grownBy w' v.ownBlock → wpList Tryz.prog ops Q rest (a.put o.dst v') w') :
    wpList Tryz.prog ops Q (o :: rest) a w := by
  obtain ⟨i0, hi, hz0, hz1, hz2⟩ := info_parts infoObj
  cases ax with
  | none =>
    have e3 : S1 = [] := by
      cases S1 with
      | nil => rfl
      | cons z zs => obtain ⟨b, off, e, _⟩ := hx2 0 (by simp); cases e
    subst e3
    have ec := hx3 rfl
    subst ec
    refine wpList_append_own_none hgd s x _ ho base _ i0 3 Tryz.underlying24 hi v _ _ hs hown hx ?_
    exact h v w (by simpa using hown) (World.grownBy.refl _ _)
  | some AD =>
    refine wpList_append_own_at _ hgd s x _ ho base _ i0 _ 3 40 Tryz.underlying24 hi hz0 hz1 hz2 rfl (by decide) v _ _ hs hown AD S1.length cx (ocells S1) hx (ocells_length _) (newsO hx2) (oneE _) (by unfold maxLen; omega) (by omega) hbase ?_
    intro v' w' o1 g1 _ _
    refine h v' w' ?_ g1
    rw [List.length_append, ocells_app]; exact o1
/-- The paths so far. -/
def PI (S : List Ob) (k : Nat) (P : List ByteArray) : Prop := P.Pairwise plt ∧ (∀ p, p ∈ P ↔ p ∈ (S.take k).map (·.1)) ∧ (0 < k → ∀ x ∈ P, ¬ plt (S.getD (k - 1) onil).1 x)
theorem pi_zero (S : List Ob) : PI S 0 [] := ⟨List.Pairwise.nil, fun p => by simp, fun h => absurd h (by omega)⟩
theorem take_paths {S : List Ob} {k : Nat} (hk : k < S.length) (p : ByteArray) : p ∈ (S.take (k + 1)).map (·.1) ↔ p ∈ (S.take k).map (·.1) ∨ p = (S.getD k onil).1 := by
  rw [ob_take S k hk, List.map_append, List.mem_append]
  simp
theorem sd_at {S : List Ob} (h : Sd S) {i j : Nat} (hij : i < j) (hj : j < S.length) : ¬ plt (S.getD j onil).1 (S.getD i onil).1 := by
  have := List.pairwise_iff_getElem.1 h i j (by omega) hj hij
  simpa [List.getD, hj, show i < S.length from by omega] using this
theorem pi_add {S : List Ob} {k : Nat} {P : List ByteArray} (hs : Sd S) (hk : k < S.length) (h : PI S k P) (hn : 0 < k → ¬ (S.getD k onil).1 = (S.getD (k - 1) onil).1) : PI S (k + 1) (P ++ [(S.getD k onil).1]) := by
  obtain ⟨h1, h2, h3⟩ := h
  have hup : ∀ x ∈ P, plt x (S.getD k onil).1 := fun x hx => by
    have hk0 : 0 < k := by
      rcases Nat.eq_zero_or_pos k with q | q
      · subst q; have := (h2 x).1 hx; simp at this
      · exact q
    have q1 := h3 hk0 x hx
    have q2 := sd_at hs (show k - 1 < k by omega) hk
    have q3 := ple_tr q1 q2
    rcases plt_tri x (S.getD k onil).1 with r | r | r
    · exact r
    · exfalso
      rcases plt_tri (S.getD (k - 1) onil).1 (S.getD k onil).1 with s | s | s
      · exact q1 (by rw [r]; exact s)
      · exact hn hk0 s.symm
      · exact q2 s
    · exact absurd r q3
  refine ⟨List.pairwise_append.2 ⟨h1, by simp, fun x hx y hy => by rw [List.mem_singleton.1 hy]; exact hup x hx⟩, fun p => ?_, fun _ x hx => ?_⟩
  · rw [take_paths hk, List.mem_append, h2, List.mem_singleton]
  · rw [Nat.add_sub_cancel]
    rcases List.mem_append.1 hx with q | q
    · exact plt_as (hup x q)
    · rw [List.mem_singleton.1 q]; exact plt_irr _
theorem pi_same {S : List Ob} {k : Nat} {P : List ByteArray} (hk : k < S.length) (h : PI S k P) (h0 : 0 < k) (e : (S.getD k onil).1 = (S.getD (k - 1) onil).1) : PI S (k + 1) P := by
  obtain ⟨h1, h2, h3⟩ := h
  refine ⟨h1, fun p => ?_, fun _ x hx => by rw [Nat.add_sub_cancel, e]; exact h3 h0 x hx⟩
  rw [take_paths hk, h2]
  constructor
  · exact Or.inl
  · rintro (q | q)
    · exact q
    · rw [q, e]
      refine List.mem_map.2 ⟨S.getD (k - 1) onil, ?_, rfl⟩
      have hk1 : k - 1 < S.length := by omega
      rw [show S.getD (k - 1) onil = (S.take k)[k - 1]'(by rw [List.length_take]; omega) from by simp [List.getD, hk1]]
      exact List.getElem_mem _
theorem pi_end {S la lb : List Ob} {P : List ByteArray} (h : PI S S.length P) (hp : S.Perm (la ++ lb)) : P = ps (pths la lb) := by
  obtain ⟨h1, h2, _⟩ := h
  refine ps_one h1 (fun p => ?_)
  rw [h2, List.take_length]
  unfold pths
  rw [← List.map_append]
  exact (hp.map _).mem_iff
theorem pi_len {S : List Ob} {k : Nat} {P : List ByteArray} (h : PI S k P) : P.length ≤ k := by
  have hn : P.Nodup := h.1.imp (fun {a b} q e => by subst e; exact plt_irr _ q)
  have hs : P ⊆ (S.take k).map (·.1) := fun p hp => (h.2.1 p).1 hp
  have := List.Nodup.length_le_of_subset hn hs
  rw [List.length_map, List.length_take] at this
  omega
/-- Paths in memory of their own. -/
def QP (Q : List ByteArray) (w : World) (e : Ending) (w' : World) : Prop := ∃ g c, e = .returned (.slice (some ⟨g, 0, none⟩) Q.length c) ∧ w'.ownsRow w.heap.size 9 1 (.slice (some ⟨g, 0, none⟩) Q.length c) Q.length (Q.map Value.string) ∧ Below w.heap.size w w'
theorem qp_of {Q P : List ByteArray} {w w' : World} {g c b : Nat} (hb : w.heap.size ≤ b) (e : P = Q) (h1 : w'.ownsRow b 9 1 (.slice (some ⟨g, 0, none⟩) P.length c) P.length (P.map Value.string)) (h2 : Below w.heap.size w w') : QP Q w (.returned (.slice (some ⟨g, 0, none⟩) P.length c)) w' := by
  subst e
  exact ⟨g, c, rfl, ownMonoF h1 hb, h2⟩
set_option maxRecDepth 20000 in
set_option maxHeartbeats 8000000 in
theorem l7PathsC (a b : Option Addr) (ca cb : Nat) (la lb : List Ob) (w : World) (ha : OB w.heap.size w a la) (hb : OB w.heap.size w b lb) (za : a = none → ca = 0) (zb : b = none → cb = 0) (na : la.length ≤ 500000) (nb : lb.length ≤ 500000) :
    Calls Tryz.prog 18 #[.slice a la.length ca, .slice b lb.length cb] w fun e w' => QP (ps (pths la lb)) w e w' := by
  obtain ⟨i0, hi, hz0, hz1, hz2⟩ := info_parts infoString
  have hEnd := fun S P (h : PI S S.length P) (hp : S.Perm (la ++ lb)) => pi_end h hp
  obtain ⟨QQ, hQQ⟩ : ∃ Q, ps (pths la lb) = Q := ⟨_, rfl⟩
  simp only [hQQ] at hEnd ⊢
  clear hQQ
  obtain ⟨W1, hW1⟩ : ∃ W, w.alloc (.cells #[] 42) = W := ⟨_, rfl⟩
  have b1 : Below w.heap.size w W1 := by rw [← hW1]; exact allocBelow _ _
  have o1 : W1.ownsRow w.heap.size 42 3 (.slice (some ⟨w.heap.size, 0, none⟩) 0 0) ([] : List Ob).length (ocells []) := by rw [← hW1]; exact litE _
  have A1 := ha.below b1
  have B1 := hb.below b1
  have z1 : w.heap.size ≤ W1.heap.size := b1.size
  clear ha hb
  go_enter Tryz.func18, Tryz.ntmps18
  go_wp2_with (at_builtin; refine stopMark ?_)
  change wpList _ _ _ _ _ _
  refine wpList_appO rfl (.tmp 8) (.tmp 9) rfl w.heap.size (.slice (some ⟨w.heap.size, 0, none⟩) 0 0) [] rfl o1 a ca _ la rfl A1 za (by simp; omega) z1 ?_
  intro v2 w2 o2 g2
  have b2 : Below w.heap.size w w2 := b1.grown g2 z1 (fun j hj => (o1.lt j hj).1)
  have B2 := B1
  have B2 : OB w.heap.size w2 b lb := by
    intro k hk
    obtain ⟨g, off, e, hg, d0, d1, d2⟩ := B1 k hk
    have hne : some g ≠ (Value.slice (some ⟨w.heap.size, 0, none⟩) 0 0).ownBlock := fun q => by have := (o1.lt g q.symm).1; omega
    exact ⟨g, off, e, hg, g2.cell d0 hne, g2.cell d1 hne, g2.cell d2 hne⟩
  have z2 : w.heap.size ≤ w2.heap.size := b2.size
  clear A1 B1 b1 o1 g2 hW1
  rw [List.nil_append] at o2
  go_wp2_with (at_builtin; refine stopMark ?_)
  change wpList _ _ _ _ _ _
  refine wpList_appO rfl (.tmp 10) (.tmp 11) rfl w.heap.size v2 la rfl o2 b cb _ lb rfl B2 zb (by omega) z2 ?_
  intro v3 w3 o3 g3
  have b3 : Below w.heap.size w w3 := b2.grown g3 z2 (fun j hj => (o2.lt j hj).1)
  have z3 : w.heap.size ≤ w3.heap.size := b3.size
  obtain ⟨AB, hAB⟩ : ∃ L, la ++ lb = L := ⟨_, rfl⟩
  have hABl : AB.length = la.length + lb.length := by rw [← hAB, List.length_append]
  rw [hAB] at o3
  simp only [hAB] at hEnd
  obtain ⟨a3, c3, rfl⟩ := shapeK3 o3
  have hS := l7SortC a3 c3 AB w3 (OB.of o3) (by omega)
  have HABl : Hid (AB.length = la.length + lb.length) := hABl
  clear hAB hABl
  clear o2 B2 b2 g3 z2 o3
  go_wp2_with fail
  refine hS.mono ?_; rintro e w4 ⟨S, gS, cS, rfl, oS, b4, hSd, hPm⟩
  have B4 : Below w.heap.size w w4 := b3.trans (b4.mono z3)
  have z4 := B4.size
  have OS : OB w4.heap.size w4 (some ⟨gS, 0, none⟩) S := OB.of oS
  have hSl : S.length ≤ 1000000 := by have := hPm.length_eq; have := HABl.out; omega
  clear hS b3 b4 oS z3
  obtain ⟨W5, hW5⟩ : ∃ W, w4.alloc (.cells #[] 9) = W := ⟨_, rfl⟩
  have b5 : Below w4.heap.size w4 W5 := by rw [← hW5]; exact allocBelow _ _
  have o5 : W5.ownsRow w4.heap.size 9 1 (.slice (some ⟨w4.heap.size, 0, none⟩) 0 0) ([] : List ByteArray).length (([] : List ByteArray).map Value.string) := by rw [← hW5]; exact World.ownsRow_lit w4 #[] 0 (Nat.le_refl _) (Nat.zero_le _) rfl
  have HEnd : Hid (∀ P, PI S S.length P → P = QQ) := fun P h => hEnd S P h hPm
  have HSd : Hid (Sd S) := hSd
  clear hEnd hPm hSd
  go_wp2
  go_loopw [6, 7] (fun v i wr => ∃ (k : Nat) (P : List ByteArray) (g c : Nat), k ≤ S.length ∧ i = .int .i64 k ∧ v = .slice (some ⟨g, 0, none⟩) P.length c ∧ wr.ownsRow w4.heap.size 9 1 (.slice (some ⟨g, 0, none⟩) P.length c) P.length (P.map Value.string) ∧ Below w4.heap.size w4 wr ∧ PI S k P) (fun _ i _ => S.length - (intOf i).toNat)
  case atStart => exact ⟨0, [], w4.heap.size, 0, Nat.zero_le _, rfl, rfl, o5, b5, pi_zero S⟩
  case round =>
    obtain ⟨k, P, g, c, hk, rfl, rfl, hown, hbel, hPI'⟩ := hrel
    have hPI : Hid (PI S k P) := hPI'
    have hPl : P.length ≤ k := pi_len hPI'
    have hsz := hbel.size
    clear hPI' o5 b5
    by_cases hlt : k < S.length
    rotate_left
    · have q : ¬ (k : Int) < (S.length : Int) := by omega
      have ek : k = S.length := by omega
      have HS : Hid (QP QQ w (.returned (.slice (some ⟨g, 0, none⟩) P.length c)) wr) := qp_of z4 (HEnd.out P (by have := hPI.out; rwa [ek] at this)) hown (B4.trans (hbel.mono z4))
      clear hown hbel B4 ek
      go_wp2
      go_ret
      exact HS.out
    have q : (k : Int) < (S.length : Int) := by omega
    have O2 := OS.below hbel
    obtain ⟨g1, off1, e, hg1, d0, d1, d2⟩ := O2 k hlt
    simp only [Option.some.injEq, Addr.mk.injEq, and_true] at e
    obtain ⟨rfl, rfl⟩ := e
    rw [Nat.zero_add] at d0 d1 d2
    have hAdd := fun hn => pi_add HSd.out hlt hPI.out hn
    have hSame := fun h0 e => pi_same hlt hPI.out h0 e
    obtain ⟨X, hX⟩ : ∃ X, S.getD k onil = X := ⟨_, rfl⟩
    obtain ⟨x0, x1, x2⟩ := X
    rw [hX] at d0 d1 d2 hAdd hSame
    simp only [] at d0 d1 d2 hAdd hSame
    clear d1 d2 hX
    obtain ⟨Gb, hGb⟩ : ∃ G, (decide (k = 0) || (x0.toList != (S.getD (k - 1) onil).1.toList)) = G := ⟨_, rfl⟩
    have HG : Hid ((decide (k = 0) || (x0.toList != (S.getD (k - 1) onil).1.toList)) = Gb) := hGb
    clear hGb
    go_upto_region 6 with fail
    go_cut [36] from 21 to 37 (fun s wy => s = .bool Gb ∧ Below wr.heap.size wr wy)
    case first =>
      have BN : ∀ n, Below wr.heap.size wr (wr.drewN n) := fun n => ⟨rfl, rfl, rfl, Nat.le_refl _, fun _ _ => rfl⟩
      clear hAdd hSame HEnd hPI B4 hbel hown HSd
      rcases Nat.eq_zero_or_pos k with rfl | hpos
      · have hG0 : Gb = true := by rw [← HG.out]; rfl
        subst hG0
        clear O2 HG
        go_quiet (fail)
        all_goals (go_wp2_with fail; go_meet; exact ⟨rfl, BN _⟩)
      · obtain ⟨m, rfl⟩ : ∃ m, k = m + 1 := ⟨k - 1, by omega⟩
        obtain ⟨g', off', e, _, e0, _, _⟩ := O2 m (by omega)
        simp only [Option.some.injEq, Addr.mk.injEq, and_true] at e
        obtain ⟨rfl, rfl⟩ := e
        rw [Nat.zero_add] at e0
        have hG1 := HG.out
        rw [Nat.add_sub_cancel, decide_eq_false (by omega), Bool.false_or] at hG1
        have i1 : ¬ ((m : Int) + 1 = 0) := by omega
        have i1b : ((m : Int) + 1 == 0) = false := by simpa using i1
        have i2 : IntKind.i64.wrap ((m : Int) + 1 - 1) = (m : Int) := by rw [IntKind.wrap_i64]; omega
        have i3 : IntKind.i64.wrap (m : Int) = (m : Int) := by rw [IntKind.wrap_i64]; omega
        have i4 : (m : Int) < (S.length : Int) := by omega
        have i5 : ¬ (m : Int) < 0 := by omega
        obtain ⟨C, hC⟩ : ∃ C, S.getD m onil = C := ⟨_, rfl⟩
        obtain ⟨y0, y1, y2⟩ := C
        rw [hC] at e0 hG1
        simp only [] at e0 hG1
        clear hC O2 HG
        go_quiet (fail)
        all_goals (go_wp2_with fail; go_meet; exact ⟨by rw [← hG1]; rfl, BN _⟩)
    case rest =>
    obtain ⟨rfl, hbC⟩ := hcut
    have B9 := hbel.trans (hbC.mono hsz)
    have e0 := zS hbC d0
    have own9 := hown.kept (grownOfBelow hbC none) (blockCases _ _ fun b c1 c2 => by cases c2)
    have HGo := HG.out
    have z9 : w4.heap.size ≤ wc.heap.size := B9.size
    cases Gb with
    | false =>
      have h0 : 0 < k ∧ x0 = (S.getD (k - 1) onil).1 := by
        obtain ⟨h1, h2⟩ := Bool.or_eq_false_iff.1 HGo
        refine ⟨by have := of_decide_eq_false h1; omega, ?_⟩
        have h3 : (x0.toList == (S.getD (k - 1) onil).1.toList) = true := by simpa [bne] using h2
        exact bytes_inj2 (eq_of_beq h3)
      have HI : Hid (PI S (k + 1) P) := hSame h0.1 h0.2
      have HO : Hid (World.ownsRow _ _ _ _ _ _ _) := own9
      have HB : Hid (Below w4.heap.size w4 wc) := B9
      clear hAdd hSame HGo HG hown hbel hbC own9 B9 h0 O2 d0
      go_wp2
      go_roundw
      case rel => exact ⟨k + 1, P, g, c, by omega, by go_num, rfl, HO.out, HB.out, HI.out⟩
      case measure => first | (simp [intOf]; omega) | simp [intOf]
    | true =>
      have hn : 0 < k → ¬ x0 = (S.getD (k - 1) onil).1 := fun h1 e => by
        rw [e] at HGo
        simp [show ¬ k = 0 from by omega] at HGo
      have HI : Hid (PI S (k + 1) (P ++ [x0])) := hAdd hn
      have nw := cell_one_new wc (.string x0) 9
      have z5 : w4.heap.size ≤ (wc.alloc (.cells #[.string x0] 9)).heap.size := by simp; omega
      have bN := allocBelow wc (.cells #[.string x0] 9)
      have own8 := own9.kept (grownOfBelow bN none) (blockCases _ _ fun b c1 c2 => by cases c2)
      have B8 := B9.trans (bN.mono z9)
      clear hAdd hSame HGo HG hown hbel hbC own9 B9 hn O2 d0
      go_wp2_with (at_builtin; refine stopMark ?_)
      change wpList _ _ _ _ _ _
      refine wpList_append_own_at _ rfl (.tmp 37) (.tmp 43) 39 rfl w4.heap.size 9 i0 (.string ByteArray.empty) 1 16 Tryz.underlying39 hi hz0 hz1 hz2 rfl (by decide) (.slice (some ⟨g, 0, none⟩) P.length c) _ _ rfl own8 ⟨wc.heap.size, 0, none⟩ 1 1 [.string x0] rfl rfl nw (by simp [Value.oneCell']) (by unfold maxLen; omega) (by omega) z5 ?_
      intro v6 w6 o6 g6 _ _
      obtain ⟨g7, c7, rfl⟩ : ∃ g c, v6 = .slice (some ⟨g, 0, none⟩) (P.length + 1) c := by
        rcases o6.2 with ⟨_, h0⟩ | ⟨tg, tc, cur, e, _⟩
        · omega
        · exact ⟨tg, tc, e⟩
      have HO : Hid (w6.ownsRow w4.heap.size 9 1 (.slice (some ⟨g7, 0, none⟩) (P ++ [x0]).length c7) (P ++ [x0]).length ((P ++ [x0]).map Value.string)) := by
        show World.ownsRow _ _ _ _ _ _ _
        rw [List.length_append, List.map_append]; exact o6
      have HB : Hid (Below w4.heap.size w4 w6) := B8.grown g6 z5 (fun j hj => (own8.lt j hj).1)
      have hl : (P ++ [x0]).length = P.length + 1 := by simp
      clear own8 B8 o6 g6 nw
      go_wp2
      go_roundw
      case rel => exact ⟨k + 1, P ++ [x0], g7, c7, by omega, by go_num, (by rw [hl]), HO.out, HB.out, HI.out⟩
      case measure => first | (simp [intOf]; omega) | simp [intOf]
end Go.Proofs.YtkgcpndnlefkoaaGreatDoor.Fl
