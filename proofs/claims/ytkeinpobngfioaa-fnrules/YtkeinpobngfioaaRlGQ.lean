/- A rule is forgotten: the specification. No statement is proved here. -/
import Derived.Test.YtkeinpobngfioaaRows
import Derived.Test.YtkeinpobngfioaaLemQ
import Derived.Test.YtkeinpobngfioaaLFLemQ
import Derived.Test.YtkeinpobngfioaaDTabQ
import Derived.Test.YtkeinpobngfioaaHkTQ
import Derived.Test.YtkeinpobngfioaaRuLQ
import Derived.Test.YtkeinpobngfioaaRuFQ
import Derived.Test.YtkeinpobngfioaaFrCQ
import Derived.Test.YtkeinpobngfioaaRlBQ
import Derived.Test.YtkeinpobngfioaaRlDQ
import Derived.Test.YtkeinpobngfioaaRlEQ
import Derived.WalkKit
import Derived.ProofKit
import Derived.Below
import Derived.WalkSpells
import Derived.Maps.AppendAt
import Derived.Laws.BitsLemmas
import Derived.Deep.QuietTactic
import Derived.BigQuiet
import Derived.Deep.RegionWith
import Derived.Deep.RegionHeld
import Derived.Deep.CutRange
import Derived.Test.YtkeinpobngfioaaTFQ
import Derived.Test.YtkeinpobngfioaaSplQ
import Derived.Test.YtkeinpobngfioaaCpKQ
import Derived.Test.YtkeinpobngfioaaRlHQ
import Derived.Laws.Cover1
set_option linter.unusedVariables false
namespace Go.Proofs.Ytkeinpobngfioaa.Ru
open Go.ChangeShapes Go.WideShapes Go.ChangeAt Go.RowKit
theorem stepApp {P : Program} {ops : Array Oper} {o : Oper} {a : Act} {w : World} {K : Act → World → Prop} {Q : Exit → Act → World → Prop} {E : Prop}
    (hg : o.guard = none) (s x : Operand) (t : TypeId) (hop : o.op = Op.call { callee := Callee.builtin Builtin.append, args := #[s, x], argTypes := #[t, t] })
    (base : Nat) (e : TypeId) (i : TypeInfo) (z : Value) (size bytes : Nat) (ht : P.underlying t = some (.slice e)) (hi : P.info? e = some i) (hz : i.zero = some z)
    (hsize : i.size = size) (hby : i.bytes = bytes) (hzs : z.cells.size = size) (hsz : 0 < size)
    (v : Value) (n : Nat) (xs : List Value) (hs : a.eval s = v) (hown : w.ownsRow base e size v n xs)
    (ad : Addr) (m c : Nat) (news : List Value) (hx : a.eval x = .slice (some ad) m c) (hl : news.length = m * size) (hnews : ∀ j u, news[j]? = some u → w.cell? (ad.add j) = some u) (h1 : ∀ u ∈ news, u.oneCell' = true)
    (h63 : n + m ≤ maxLen) (hbytes : (n + m) * bytes ≤ 140737488355328) (hbase : base ≤ w.heap.size)
    (hK : ∀ v' w', w'.ownsRow base e size v' (n + m) (xs ++ news) → w.grownBy w' v.ownBlock → (v'.ownBlock = v.ownBlock ∨ v'.ownBlock = some w.heap.size) → K (a.put o.dst v') w') :
    if Region.wanted o (yielded ops a.tmps) = true then Oper.wp P o a w K Q else E := by
  have hw : Region.wanted o (yielded ops a.tmps) = true := by simp [Region.wanted, hg]
  rw [if_pos hw]
  obtain ⟨v', w', hr, h2, h3, h4, h5⟩ := run_append_own_at (P := P) w base t o.type e i z size bytes ht hi hz hsize hby hzs hsz v n xs hown ad m c news hl hnews h1 h63 hbytes hbase
  unfold Oper.wp
  simp only [execOp, hop, resolve, invoke, builtin, Sem.run_bind, Sem.run_pure, Result.andThen_ok, List.map_toArray, List.map_cons, List.map_nil, hs, hx, hr]
  exact hK v' w' h2 h3 h5

theorem ocells_at (l : List Ob) (j : Nat) (h : j < l.length * 2) : (ocells l)[j]? = some (ocell l j) := rowG_at _ _ _ h
theorem ocells_lt {l : List Ob} {j : Nat} {u : Value} (h : (ocells l)[j]? = some u) : j < l.length * 2 := by
  have := (List.getElem?_eq_some_iff.1 h).1
  rw [ocells_length] at this
  exact this
theorem OB.cellJ {B g off : Nat} {w : World} {l : List Ob} (h : OB B w (some ⟨g, off, none⟩) l) (j : Nat) (hj : j < l.length * 2) : w.cell? ⟨g, off + j, none⟩ = some (ocell l j) := by
  obtain ⟨g', off', e, _, c0, c1⟩ := h (j / 2) (by omega)
  simp only [Option.some.injEq, Addr.mk.injEq, and_true] at e
  obtain ⟨rfl, rfl⟩ := e
  unfold ocell
  by_cases q : j % 2 = 0
  · rw [if_pos q, ← c0, show off + j / 2 * 2 = off + j by omega]
  · rw [if_neg q, ← c1, show off + j / 2 * 2 + 1 = off + j by omega]
/-- The cells of a part of rules that can be read. -/
theorem newsTake {B g off : Nat} {w : World} {l : List Ob} (h : OB B w (some ⟨g, off, none⟩) l) (n : Nat) (hn : n ≤ l.length) : ∀ j u, (ocells (l.take n))[j]? = some u → w.cell? ((⟨g, off, none⟩ : Addr).add j) = some u := by
  intro j u hu
  have hj := ocells_lt hu
  rw [List.length_take] at hj
  have e : ocells l = ocells (l.take n) ++ ocells (l.drop n) := by rw [← ocells_app, List.take_append_drop]
  have h2 : (ocells l)[j]? = some u := by rw [e, List.getElem?_append_left (by rw [ocells_length, List.length_take]; omega)]; exact hu
  rw [add_plain, h.cellJ j (by omega), ← h2, ocells_at l j (by omega)]
theorem newsDrop {B g off : Nat} {w : World} {l : List Ob} (h : OB B w (some ⟨g, off, none⟩) l) (n : Nat) (hn : n ≤ l.length) : ∀ j u, (ocells (l.drop n))[j]? = some u → w.cell? ((⟨g, off + n * 2, none⟩ : Addr).add j) = some u := by
  intro j u hu
  have hj := ocells_lt hu
  rw [List.length_drop] at hj
  have e : ocells l = ocells (l.take n) ++ ocells (l.drop n) := by rw [← ocells_app, List.take_append_drop]
  have hl : (ocells (l.take n)).length = n * 2 := by rw [ocells_length, List.length_take]; omega
  have h2 : (ocells l)[n * 2 + j]? = some u := by rw [e, List.getElem?_append_right (by rw [hl]; omega), hl, show n * 2 + j - n * 2 = j by omega]; exact hu
  rw [add_plain, show off + n * 2 + j = off + (n * 2 + j) by omega, h.cellJ (n * 2 + j) (by omega), ← h2, ocells_at l _ (by omega)]
theorem zaddR {w : World} {base : Nat} {t : TypeId} {k : Nat} {v : Value} {n : Nat} {xs : List Value} (h : w.ownsRow base t k v (0 + n) ([] ++ xs)) : w.ownsRow base t k v n xs := by rw [Nat.zero_add, List.nil_append] at h; exact h
theorem newsKeep {w w' : World} {row : Option Nat} {g o : Nat} {xs : List Value} (hg : w.grownBy w' row) (hne : some g ≠ row) (h : ∀ j u, xs[j]? = some u → w.cell? ((⟨g, o, none⟩ : Addr).add j) = some u) : ∀ j u, xs[j]? = some u → w'.cell? ((⟨g, o, none⟩ : Addr).add j) = some u := fun j u hu => by
  have q := h j u hu
  rw [add_plain] at q ⊢
  exact hg.cell q hne
theorem wrap1 {j n : Nat} (h : j < n) (hn : n ≤ 1048576) : IntKind.i64.wrap ((j : Int) + 1) = (j : Int) + 1 := by
  have h1 : (j : Int) < 1048576 := by omega
  rw [IntKind.wrap_i64]
  omega
end Go.Proofs.Ytkeinpobngfioaa.Ru
/- A rule is learnt: the specification. No statement is proved here. -/
set_option linter.unusedVariables false
namespace Go.Proofs.Ytkeinpobngfioaa.Ru
open Go.ChangeShapes Go.WideShapes Go.ChangeAt Go.RowKit

theorem neS (n : Nat) : some (n + 1) ≠ (Value.slice (some ⟨n, 0, none⟩) 0 0).ownBlock := fun e => by
  have : n + 1 = n := Option.some.inj e
  omega
theorem neT (n : Nat) : some n ≠ (Value.slice (some ⟨n + 1, 0, none⟩) 0 0).ownBlock := fun e => by
  have : n = n + 1 := Option.some.inj e
  omega
theorem newsBelow {w w' : World} {g o : Nat} {xs : List Value} (hb : Below w.heap.size w w') (h : ∀ j u, xs[j]? = some u → w.cell? ((⟨g, o, none⟩ : Addr).add j) = some u) : ∀ j u, xs[j]? = some u → w'.cell? ((⟨g, o, none⟩ : Addr).add j) = some u := fun j u hu => by
  have q := h j u hu
  rw [add_plain] at q ⊢
  exact zcE hb q
theorem ocells_set1 (l : List Ob) (k : Nat) (p q : ByteArray) (h : k < l.length) (e : (l.getD k onil).1 = p) : (ocells l).set (k * 2 + 1) (.string q) = ocells (l.set k (p, q)) := by
  have h1 := ocells_set l k (p, q) h
  simp only [] at h1
  rw [← h1]
  congr 1
  have hl : k * 2 < (ocells l).length := by rw [ocells_length]; omega
  have hv : (ocells l)[k * 2]? = some (.string p) := by rw [ocells_at l _ (by omega), ocell0, e]
  rw [List.getElem?_eq_getElem hl] at hv
  apply List.ext_getElem?
  intro j
  by_cases hj : j = k * 2
  · subst hj
    rw [List.getElem?_set_self hl, List.getElem?_eq_getElem hl, Option.some.inj hv]
  · rw [List.getElem?_set_ne (by omega)]
theorem notNil {w : World} {base : Nat} {v : Value} {n : Nat} {xs : List Value} (h : w.ownsRow base 36 2 v n xs) (hv : ¬ v = .slice none 0 0) : ∃ g c, v = .slice (some ⟨g, 0, none⟩) n c ∧ n ≤ c := by
  rcases h.2 with ⟨h', h0⟩ | ⟨g, c, cur, e, _, _, hle, _⟩
  · exact absurd h' hv
  · exact ⟨g, c, e, hle⟩
set_option maxRecDepth 20000 in
set_option maxHeartbeats 4000000 in
theorem specLearnRule (g off c : Nat) (l : List Ob) (p q : ByteArray) (w : World) (h : OB w.heap.size w (some ⟨g, off, none⟩) l) (hc : l.length ≤ c) (hs : SmallO l) (hn : l.length ≤ 1048576) (hp : p.size ≤ 1048576) (hq : q.size ≤ 1048576) :
    Calls Try.prog 7 #[.slice (some ⟨g, off, none⟩) l.length c, .string p, .string q] w fun e w' => RQ (lnC l p q) (lnL l p q) w e w' := by
  obtain ⟨b, hb⟩ : ∃ b, w.heap.size = b := ⟨_, rfl⟩
  obtain ⟨W1, hW1⟩ : ∃ W, w.alloc (.cells #[.int .i64 0, .slice none 0 0] 28) = W := ⟨_, rfl⟩
  have b1 : Below b w W1 := by rw [← hW1, ← hb]; exact allocBelow _ _
  have r1 : Rf W1 b [.int .i64 0, .slice none 0 0] := by rw [← hW1, ← hb]; exact Rf.new _ #[.int .i64 0, .slice none 0 0] _
  have z1 : W1.heap.size = b + 1 := by rw [← hW1, ← hb]; simp
  have h1 := (h.below (by rw [hb]; exact b1)).mono (B' := W1.heap.size) (by omega)
  have hR := specRulesFault (some ⟨g, off, none⟩) c l W1 h1 hs hn
  have hP := fun W => specPre p W hp
  have hT := fun W => specTextFault q W hq
  by_cases h0 : rf l = 0
  case neg =>
    have HR := ln_bad (p := p) (q := q) h0
    have HRR : Hid (lnC l p q = rf l ∧ lnL l p q = []) := HR
    have q : (rf l != 0) = true := by simpa using h0
    obtain ⟨R, hRe⟩ : ∃ R, rf l = R := ⟨_, rfl⟩
    rw [hRe] at hR q HRR
    clear h0 hRe HR hP hT
    go_enter Try.func7, Try.ntmps7
    go_wp2_with fail
    refine hR.mono ?_
    clear hR hW1
    rintro e w2 ⟨rfl, b2⟩
    have B2 : Below b w w2 := b1.trans (b2.mono (by omega))
    have r2 := r1.below (by omega) b2
    have d0 := r2.at_ 0 _ rfl
    have d1 := r2.at_ 1 _ rfl
    have f0 := r2.fz 0
    have f1 := r2.fz 1
    clear r2 r1 b2 b1 h1
    go_wp2
    refine bodyPost_ret (v := .agg #[.int .i64 R, .slice none 0 0]) (by simp [results, Try.results7, go_sem, d0, d1]) rfl ?_
    rw [HRR.out.1, HRR.out.2]
    exact rq0 (by rw [hb]; exact below_sets B2 (by omega) _ _)
  rw [h0] at hR
  have hl40 := (rf_zero h0).1
  go_enter Try.func7, Try.ntmps7
  go_wp2_with fail
  refine hR.mono ?_
  clear hR hW1
  rintro e w2 ⟨rfl, b2⟩
  have B2 : Below b w w2 := b1.trans (b2.mono (by omega))
  have z2 := b2.size
  have r2 := r1.below (by omega) b2
  have h2 := (h1.below b2).mono (B' := w2.heap.size) (by omega)
  clear h1 b2 b1 r1
  cases hpre : okPre p with
  | false =>
    have HRR : Hid (lnC l p q = 1 ∧ lnL l p q = []) := ln_pre h0 hpre
    rw [hpre] at hP
    have d0 := r2.at_ 0 _ rfl
    have d1 := r2.at_ 1 _ rfl
    have f0 := r2.fz 0
    have f1 := r2.fz 1
    clear r2 h2 h0 hpre hT
    go_wp2_with fail
    refine (hP _).mono ?_; rintro e W2 ⟨rfl, rfl⟩
    go_wp2
    refine bodyPost_ret (v := .agg #[.int .i64 1, .slice none 0 0]) (by simp [results, Try.results7, go_sem, d0, d1]) rfl ?_
    rw [HRR.out.1, HRR.out.2]
    exact rq0 (by rw [hb]; exact below_sets B2 (by omega) _ _)
  | true =>
  rw [hpre] at hP
  go_wp2_with fail
  refine (hP _).mono ?_; rintro e w2 ⟨rfl, rfl⟩
  clear hP
  by_cases ht : tf q = 0
  case neg =>
    have HRR : Hid (lnC l p q = tf q ∧ lnL l p q = []) := ln_text h0 hpre ht
    have hq2 : (tf q != 0) = true := by simpa using ht
    obtain ⟨R, hRe⟩ : ∃ R, tf q = R := ⟨_, rfl⟩
    rw [hRe] at hT hq2 HRR
    clear ht hRe
    go_wp2_with fail
    refine (hT _).mono ?_; rintro e w3 ⟨rfl, b3⟩
    have B3 : Below b w w3 := B2.trans (b3.mono (by omega))
    have r3 := r2.below (by omega) b3
    have d0 := r3.at_ 0 _ rfl
    have d1 := r3.at_ 1 _ rfl
    have f0 := r3.fz 0
    have f1 := r3.fz 1
    clear r3 r2 b3 B2 h2 h0 hT
    go_wp2
    refine bodyPost_ret (v := .agg #[.int .i64 R, .slice none 0 0]) (by simp [results, Try.results7, go_sem, d0, d1]) rfl ?_
    rw [HRR.out.1, HRR.out.2]
    exact rq0 (by rw [hb]; exact below_sets B3 (by omega) _ _)
  rw [ht] at hT
  go_wp2_with fail
  refine (hT _).mono ?_; rintro e w3 ⟨rfl, b3⟩
  have B3 : Below b w w3 := B2.trans (b3.mono (by omega))
  have z3 := b3.size
  have r3 := r2.below (by omega) b3
  have h3 := (h2.below b3).mono (B' := w3.heap.size) (by omega)
  clear hT b3 B2 r2 h2
  obtain ⟨z0, hz⟩ : ∃ z, w3.heap.size = z := ⟨_, rfl⟩
  have oE : (w3.alloc (.cells #[] 36)).ownsRow z0 36 2 (.slice (some ⟨z0, 0, none⟩) ([] : List Ob).length 0) ([] : List Ob).length (ocells []) := by rw [← hz]; exact World.ownsRow_made w3 #[] 0 (Nat.le_refl _) (by unfold maxLen; omega) rfl
  have bE := allocBelow w3 (.cells #[] 36)
  have hE : OB w3.heap.size (w3.alloc (.cells #[] 36)) (some ⟨g, off, none⟩) l := h3.below bE
  have nE : ∀ j u, (ocells l)[j]? = some u → (w3.alloc (.cells #[] 36)).cell? ((⟨g, off, none⟩ : Addr).add j) = some u := fun j u hu => by
    rw [add_plain, hE.cellJ j (ocells_lt hu), ← hu, ocells_at l j (ocells_lt hu)]
  have zE : z0 ≤ (w3.alloc (.cells #[] 36)).heap.size := by rw [← hz]; exact bE.size
  have hbz0 : b + 1 ≤ z0 := by omega
  have hgz : ∀ k, k < l.length → g < z0 := fun k hk => by
    obtain ⟨g', off', e, hgl, _⟩ := h3 k hk
    simp only [Option.some.injEq, Addr.mk.injEq, and_true] at e
    omega
  go_wp2_with (at_builtin; refine wpList_appR rfl (.tmp 28) (.tmp 29) rfl z0 (.slice (some ⟨z0, 0, none⟩) 0 0) [] rfl oE ⟨g, off, none⟩ c l rfl nE (by simp; omega) zE ?_; intro v4 w4 o4 g4 n4 k4)
  have hv4 : ¬ v4 = .slice none 0 0 := fun e => by have := (n4.1 e).1; cases this
  simp only [List.nil_append] at o4
  obtain ⟨g3, c3, rfl, hc3⟩ := notNil o4 hv4
  have hneg : ∀ k, k < l.length → some g ≠ (Value.slice (some ⟨z0, 0, none⟩) 0 0).ownBlock := fun k hk e => by
    have h9 : g = z0 := Option.some.inj e
    have := hgz k hk
    omega
  have h4 : OB w4.heap.size w4 (some ⟨g, off, none⟩) l := fun k hk => by
    obtain ⟨g', off', e, hgl, q0, q1⟩ := hE k hk
    simp only [Option.some.injEq, Addr.mk.injEq, and_true] at e
    obtain ⟨rfl, rfl⟩ := e
    have hne := hneg k hk
    exact ⟨g, off, rfl, by have := hgz k hk; have := g4.size; omega, g4.cell q0 hne, g4.cell q1 hne⟩
  have neb : some b ≠ (Value.slice (some ⟨z0, 0, none⟩) 0 0).ownBlock := fun e => by
    have h9 : b = z0 := Option.some.inj e
    omega
  have r4 : Rf w4 b [.int .i64 0, .slice none 0 0] := rfGrew (r3.below (by omega) bE) g4 neb (by omega)
  have B4 : Below b w w4 := (B3.trans (bE.mono (by omega))).grown g4 (by omega) (fun i hi => by have h9 : z0 = i := Option.some.inj hi; omega)
  have hF := l13Find (some ⟨g, off, none⟩) c l p w4 h4 hn
  have z4 := (o4.lt g3 rfl)
  clear oE bE hE nE zE h3 r3 B3 g4 n4 k4 hneg hgz neb hv4 h4
  rcases fd_bd l p with hf | ⟨j, hf, hj⟩
  case inr =>
    have HRR : Hid (lnC l p q = 0 ∧ lnL l p q = l.set j (p, q)) := by
      have h9 := ln_ok h0 hpre ht (fun c => by rw [hf] at c; omega)
      refine ⟨h9.1, h9.2.trans ?_⟩
      unfold lnM
      rw [if_neg (by rw [hf]; omega), hf, Int.toNat_natCast]
    have HST : Hid ((ocells l).set (j * 2 + 1) (.string q) = ocells (l.set j (p, q))) := ocells_set1 l j p q hj (fd_at hf)
    rw [hf] at hF
    have qj : (j : Int) < (l.length : Int) := by omega
    have qn : ¬ (j : Int) < 0 := by omega
    have qn2 : (0 : Int) ≤ (j : Int) := by omega
    have c1 := o4.cellAt (j * 2 + 1) (by omega)
    rw [ocells_at l _ (by omega)] at c1
    have f9 := o4.frozenAt (j * 2 + 1)
    have s1 := o4.stored (j * 2 + 1) (.string q)
    rw [HST.out] at s1
    have R5 := r4.other (b' := g3) (o := j * 2 + 1) (by omega) (.string q)
    have d0 := R5.at_ 0 _ rfl
    have d1 := R5.at_ 1 _ rfl
    have f0 := R5.fz 0
    have f1 := R5.fz 1
    have HQ : Hid (RQ 0 (l.set j (p, q)) w (.returned (.agg #[.int .i64 0, .slice (some ⟨g3, 0, none⟩) l.length c3])) (((w4.setCell ⟨g3, j * 2 + 1, none⟩ (.string q)).setCell ⟨b, 0, none⟩ (.int .i64 0)).setCell ⟨b, 1, none⟩ (.slice (some ⟨g3, 0, none⟩) l.length c3))) := by
      have o1 := s1.1.kept (grownSet _ b 0 (.int .i64 0)) (blockCases _ _ fun i c1 c2 => by cases c2; have := (s1.1.lt _ c1).1; omega)
      have o2 := o1.kept (grownSet _ b 1 (.slice (some ⟨g3, 0, none⟩) l.length c3)) (blockCases _ _ fun i c1 c2 => by cases c2; have := (s1.1.lt _ c1).1; omega)
      have B5 : Below b w (w4.setCell ⟨g3, j * 2 + 1, none⟩ (.string q)) := B4.setCell (p := ⟨g3, j * 2 + 1, none⟩) (by show b ≤ g3; omega) _
      refine ⟨_, rfl, ?_, by rw [hb]; exact below_sets B5 (Nat.le_refl _) _ _⟩
      rw [List.length_set]
      exact ownMonoR o2 (by omega)
    clear s1 R5 o4 r4 B4 h0 hpre ht hf
    go_wp2_with fail
    refine hF.mono ?_; rintro e W4 ⟨rfl, rfl⟩
    go_wp2
    refine bodyPost_ret (v := .agg #[.int .i64 0, .slice (some ⟨g3, 0, none⟩) l.length c3]) (by simp [results, Try.results7, go_sem, d0, d1]) rfl ?_
    rw [HRR.out.1, HRR.out.2]
    exact HQ.out
  rw [hf] at hF
  by_cases hm : l.length = 40
  case pos =>
    have HRR : Hid (lnC l p q = 2 ∧ lnL l p q = []) := ln_many h0 hpre ht ⟨hf, hm⟩
    have ql : (40 : Int) ≤ (l.length : Int) := by omega
    have d0 := r4.at_ 0 _ rfl
    have d1 := r4.at_ 1 _ rfl
    have f0 := r4.fz 0
    have f1 := r4.fz 1
    clear r4 o4 h0 hf hm hpre ht
    go_wp2_with fail
    refine hF.mono ?_; rintro e W4 ⟨rfl, rfl⟩
    go_wp2
    refine bodyPost_ret (v := .agg #[.int .i64 2, .slice none 0 0]) (by simp [results, Try.results7, go_sem, d0, d1]) rfl ?_
    rw [HRR.out.1, HRR.out.2]
    exact rq0 (by rw [hb]; exact below_sets B4 (by omega) _ _)
  have HRR : Hid (lnC l p q = 0 ∧ lnL l p q = insL l (pl l p) (p, q)) := by
    have h9 := ln_ok h0 hpre ht (fun c => hm c.2)
    refine ⟨h9.1, h9.2.trans ?_⟩
    unfold lnM
    rw [if_pos hf]
  have ql : ¬ (40 : Int) ≤ (l.length : Int) := by omega
  have hl9 : l.length ≤ 40 := by omega
  have O4 : OB w4.heap.size w4 (some ⟨g3, 0, none⟩) l := OB.of o4
  have hkl0 := pl_le l p
  clear h0 hf hm hpre ht hl40
  go_wp2_with fail
  refine hF.mono ?_; rintro e wr ⟨rfl, rfl⟩
  clear hF
  go_wp2
  go_loop [11] (fun i => ∃ k : Nat, k ≤ l.length ∧ i = .int .i64 k ∧ Hid (pl l p = plF l p (l.length - k) k)) (fun i => l.length - (intOf i).toNat)
  case atStart => exact ⟨0, Nat.zero_le _, rfl, rfl⟩
  case round =>
    obtain ⟨k, hk, rfl, hA⟩ := hrel
    by_cases hlt : k < l.length ∧ Op.bytesLess (l.getD k onil).1.toList p.toList = true
    · obtain ⟨hlt, hless⟩ := hlt
      have qk : (k : Int) < (l.length : Int) := by omega
      obtain ⟨g', off', e, _, c0, c1⟩ := O4 k hlt
      simp only [Option.some.injEq, Addr.mk.injEq, and_true] at e
      obtain ⟨rfl, rfl⟩ := e
      obtain ⟨m, hm⟩ : ∃ m, l.length - k = m + 1 := ⟨l.length - k - 1, by omega⟩
      have hm2 : l.length - (k + 1) = m := by omega
      have HG : Hid (pl l p = plF l p (l.length - (k + 1)) (k + 1)) := by show _ = _; rw [hA.out, hm, plF_go hless, hm2]
      rw [Nat.zero_add] at c0
      obtain ⟨x, hx⟩ : ∃ x, (l.getD k onil).1 = x := ⟨_, rfl⟩
      rw [hx] at c0 hless
      clear hA hx c1 hm hm2
      go_wp2
      go_round
      case rel => exact ⟨k + 1, by omega, by go_num, HG⟩
      case measure => first | (simp [intOf]; omega) | simp [intOf]
    · have hK : pl l p = k := by
        by_cases h1 : k < l.length
        · have h2 : Op.bytesLess (l.getD k onil).1.toList p.toList = false := by
            cases e : Op.bytesLess (l.getD k onil).1.toList p.toList with
            | false => rfl
            | true => exact absurd ⟨h1, e⟩ hlt
          obtain ⟨m, hm⟩ : ∃ m, l.length - k = m + 1 := ⟨l.length - k - 1, by omega⟩
          rw [hA.out, hm, plF_stop h2]
        · rw [hA.out, show l.length - k = 0 by omega]; rfl
      have hkl : k ≤ l.length := hk
      by_cases hin : k < l.length
      · have hless : Op.bytesLess (l.getD k onil).1.toList p.toList = false := by
          cases e : Op.bytesLess (l.getD k onil).1.toList p.toList with
          | false => rfl
          | true => exact absurd ⟨hin, e⟩ hlt
        have qk : (k : Int) < (l.length : Int) := by omega
        obtain ⟨g', off', e, _, c0, c1⟩ := O4 k hin
        simp only [Option.some.injEq, Addr.mk.injEq, and_true] at e
        obtain ⟨rfl, rfl⟩ := e
        rw [Nat.zero_add] at c0
        obtain ⟨x, hx⟩ : ∃ x, (l.getD k onil).1 = x := ⟨_, rfl⟩
        rw [hx] at c0 hless
        clear hx c1 hlt
        rw [hK] at HRR
        clear hA hK hkl0
        have qkc : (k : Int) ≤ (c3 : Int) := by omega
        have qkl : (k : Int) ≤ (l.length : Int) := by omega
        have qn0 : (0 : Int) ≤ (k : Int) := by omega
        obtain ⟨i0, hi, hz0, hz1, hz2⟩ := info_parts infoObj
        obtain ⟨z, hzz⟩ : ∃ z, wr.heap.size = z := ⟨_, rfl⟩
        have hbl : b < z := by omega
        have hbz : b ≤ z := by omega
        have hg3 : g3 < z := by omega
        have neX : ∀ {W : World} {v : Value} {n : Nat} {xs : List Value} (h : W.ownsRow z 36 2 v n xs), some g3 ≠ v.ownBlock := fun h e => by have := (h.lt g3 e.symm).1; omega
        have neY : ∀ {W : World} {v : Value} {n : Nat} {xs : List Value} (h : W.ownsRow z 36 2 v n xs), some b ≠ v.ownBlock := fun h e => by have := (h.lt b e.symm).1; omega
        have bA := allocBelow wr (.cells #[] 36)
        have bAB := allocBelow (wr.alloc (.cells #[] 36)) (.cells #[.string p, .string q] 36)
        have bC := allocBelow wr (.cells #[.string p, .string q] 36)
        have bBA := allocBelow (wr.alloc (.cells #[.string p, .string q] 36)) (.cells #[] 36)
        have bA2 : Below wr.heap.size wr ((wr.alloc (.cells #[] 36)).alloc (.cells #[.string p, .string q] 36)) := bA.trans (bAB.mono bA.size)
        have bC2 : Below wr.heap.size wr ((wr.alloc (.cells #[.string p, .string q] 36)).alloc (.cells #[] 36)) := bC.trans (bBA.mono bC.size)
        have oA0 : (wr.alloc (.cells #[] 36)).ownsRow z 36 2 (.slice (some ⟨z, 0, none⟩) 0 0) 0 [] := by rw [← hzz]; exact World.ownsRow_made wr #[] 0 (Nat.le_refl _) (by unfold maxLen; omega) rfl
        have oA : (wr.alloc (.cells #[] 36)).drew.ownsRow z 36 2 (.slice (some ⟨z, 0, none⟩) 0 0) 0 [] := oA0.drew
        have oAB : ((wr.alloc (.cells #[] 36)).alloc (.cells #[.string p, .string q] 36)).drew.ownsRow z 36 2 (.slice (some ⟨z, 0, none⟩) 0 0) 0 [] := (oA0.kept (grownOfBelow bAB none) (blockCases _ _ fun b c1 c2 => by cases c2)).drew
        have oBA : ((wr.alloc (.cells #[.string p, .string q] 36)).alloc (.cells #[] 36)).drew.ownsRow z 36 2 (.slice (some ⟨z + 1, 0, none⟩) 0 0) 0 [] := by
          have h9 := World.ownsRow_made (base := z + 1) (e := 36) (size := 2) (wr.alloc (.cells #[.string p, .string q] 36)) #[] 0 (by rw [World.size_alloc, hzz]; exact Nat.le_refl _) (by unfold maxLen; omega) rfl
          rw [World.size_alloc, hzz] at h9
          exact (ownMonoR h9 (by omega)).drew
        have zA : z ≤ (wr.alloc (.cells #[] 36)).drew.heap.size := by rw [← hzz]; exact bA.size
        have zAB : z ≤ ((wr.alloc (.cells #[] 36)).alloc (.cells #[.string p, .string q] 36)).drew.heap.size := by rw [← hzz]; exact bA2.size
        have zBA : z ≤ ((wr.alloc (.cells #[.string p, .string q] 36)).alloc (.cells #[] 36)).drew.heap.size := by rw [← hzz]; exact bC2.size
        have BA : Below b w (wr.alloc (.cells #[] 36)).drew := (B4.trans (bA.mono (by omega))).drew
        have BAB : Below b w ((wr.alloc (.cells #[] 36)).alloc (.cells #[.string p, .string q] 36)).drew := (B4.trans (bA2.mono (by omega))).drew
        have BBA : Below b w ((wr.alloc (.cells #[.string p, .string q] 36)).alloc (.cells #[] 36)).drew := (B4.trans (bC2.mono (by omega))).drew
        have rrA : Rf (wr.alloc (.cells #[] 36)).drew b [.int .i64 0, .slice none 0 0] := r4.below (by omega) bA.drew
        have rrB : Rf ((wr.alloc (.cells #[] 36)).alloc (.cells #[.string p, .string q] 36)).drew b [.int .i64 0, .slice none 0 0] := r4.below (by omega) bA2.drew
        have rrC : Rf ((wr.alloc (.cells #[.string p, .string q] 36)).alloc (.cells #[] 36)).drew b [.int .i64 0, .slice none 0 0] := r4.below (by omega) bC2.drew
        have nA := newsTake (O4.below bA.drew) k hkl
        have nAB := newsTake (O4.below bA2.drew) k hkl
        have nBA := newsTake (O4.below bC2.drew) k hkl
        have cAB : ∀ j u, (ocells [(p, q)])[j]? = some u → ((wr.alloc (.cells #[] 36)).alloc (.cells #[.string p, .string q] 36)).drew.cell? ((⟨z + 1, 0, none⟩ : Addr).add j) = some u := by
          have h9 := newR (wr.alloc (.cells #[] 36)) (p, q)
          rw [World.size_alloc, hzz] at h9
          exact h9
        have cBA : ∀ j u, (ocells [(p, q)])[j]? = some u → ((wr.alloc (.cells #[.string p, .string q] 36)).alloc (.cells #[] 36)).drew.cell? ((⟨z, 0, none⟩ : Addr).add j) = some u := by
          have h9 := newR wr (p, q)
          rw [hzz] at h9
          exact newsBelow bBA.drew h9
        have hlt2 : (ocells (l.take k)).length = k * 2 := by rw [ocells_length, List.length_take]; omega
        have hlt := hlt2
        have hld : (ocells (l.drop k)).length = (l.length - k) * 2 := by rw [ocells_length, List.length_drop]
        by_cases hcc : k = c3
        · exact absurd hin (by omega)
        · have qcc : ¬ (c3 : Int) = (k : Int) := by omega
          have qcn : ¬ c3 = k := fun e => hcc e.symm
          have nDA := newsDrop (O4.below bA.drew) k hkl
          have nDB := newsDrop (O4.below bA2.drew) k hkl
          have nDC := newsDrop (O4.below bC2.drew) k hkl
          simp only [Nat.zero_add] at nDA nDB nDC
          clear bA bAB bC bBA bA2 bC2 oA0 O4 o4 B4 r4 hlt2
          go_wp2_with fail
          go_region_law (first
              | (have gd := p5; clear gd; refine stepApp rfl (.tmp 71) (.tmp 74) 24 rfl z 36 i0 (.agg #[.string ⟨#[]⟩, .string ⟨#[]⟩]) 2 32 Try.underlying24 hi hz0 hz1 hz2 rfl (by decide) (.slice ua (k + 1) uc) _ _ rfl p5 ⟨g3, k * 2, none⟩ (l.length - k) _ (ocells (l.drop k)) rfl hld D5 (oneR _) (by unfold maxLen; omega) (by omega) z5 ?_; intro v7 w7 p7 g7 _; have B7 := B5.grown g7 (Nat.le_trans hbz z5) (fun i hi => Nat.le_trans hbz (p5.lt i hi).1); have R7 := rfGrew R5 g7 (neY p5) (Nat.lt_of_lt_of_le hbl z5))
              | (have gd := mkA; clear gd; refine stepApp rfl (.tmp 66) (.tmp 70) 24 rfl z 36 i0 (.agg #[.string ⟨#[]⟩, .string ⟨#[]⟩]) 2 32 Try.underlying24 hi hz0 hz1 hz2 rfl (by decide) (.slice va k vc) _ _ rfl pB ⟨w3.heap.size, 0, none⟩ 1 _ (ocells [(p, q)]) rfl (ocells_length _) nB (oneR _) (by unfold maxLen; omega) (by omega) zB ?_; intro v5 w5 p5 g5 _; obtain ⟨ua, uc, rfl⟩ := shapeK3 p5; have z5 := Nat.le_trans zB g5.size; have B5 := B4.grown g5 (Nat.le_trans hbz zB) (fun i hi => Nat.le_trans hbz (pB.lt i hi).1); have D5 := newsKeep g5 (neX pB) D4; have R5 := rfGrew R4 g5 (neY pB) (Nat.lt_of_lt_of_le hbl zB))
              | (have gd := mkB; clear gd; refine stepApp rfl (.tmp 66) (.tmp 70) 24 rfl z 36 i0 (.agg #[.string ⟨#[]⟩, .string ⟨#[]⟩]) 2 32 Try.underlying24 hi hz0 hz1 hz2 rfl (by decide) (.slice va k vc) _ _ rfl p3 ⟨z + 1, 0, none⟩ 1 _ (ocells [(p, q)]) rfl (ocells_length _) nC (oneR _) (by unfold maxLen; omega) (by omega) zC ?_; intro v5 w5 p5 g5 _; obtain ⟨ua, uc, rfl⟩ := shapeK3 p5; have z5 := Nat.le_trans zC g5.size; have B5 := B3.grown g5 (Nat.le_trans hbz zC) (fun i hi => Nat.le_trans hbz (p3.lt i hi).1); have D5 := newsKeep g5 (neX p3) D3; have R5 := rfGrew R3 g5 (neY p3) (Nat.lt_of_lt_of_le hbl zC))
              | (have gd := mkC; clear gd; refine stepApp rfl (.tmp 66) (.tmp 70) 24 rfl z 36 i0 (.agg #[.string ⟨#[]⟩, .string ⟨#[]⟩]) 2 32 Try.underlying24 hi hz0 hz1 hz2 rfl (by decide) (.slice va k vc) _ _ rfl p3 ⟨z, 0, none⟩ 1 _ (ocells [(p, q)]) rfl (ocells_length _) nE (oneR _) (by unfold maxLen; omega) (by omega) zE ?_; intro v5 w5 p5 g5 _; obtain ⟨ua, uc, rfl⟩ := shapeK3 p5; have z5 := Nat.le_trans zE g5.size; have B5 := B3.grown g5 (Nat.le_trans hbz zE) (fun i hi => Nat.le_trans hbz (p3.lt i hi).1); have D5 := newsKeep g5 (neX p3) D3; have R5 := rfGrew R3 g5 (neY p3) (Nat.lt_of_lt_of_le hbl zE))
              | (refine stepApp rfl (.tmp 62) (.tmp 65) 24 rfl z 36 i0 (.agg #[.string ⟨#[]⟩, .string ⟨#[]⟩]) 2 32 Try.underlying24 hi hz0 hz1 hz2 rfl (by decide) (.slice (some ⟨z, 0, none⟩) 0 0) _ _ rfl oA ⟨g3, 0, none⟩ k _ (ocells (l.take k)) rfl hlt nA (oneR _) (by unfold maxLen; omega) (by omega) zA ?_; intro v3 w3 p3 g3' _; replace p3 := zaddR p3; obtain ⟨va, vc, rfl⟩ := shapeK3 p3; have mkA := p3; have zz3 := g3'.size; have B3 := BA.grown g3' (Nat.le_trans hbz zA) (fun i hi => Nat.le_trans hbz (oA.lt i hi).1); have D3 := newsKeep g3' (neX oA) nDA; have R3 := rfGrew rrA g3' (neY oA) (Nat.lt_of_lt_of_le hbl zA); have pB := p3.kept (grownOfBelow (allocBelow w3 (.cells #[.string p, .string q] 36)) none) (blockCases _ _ fun b c1 c2 => by cases c2); have nB := newR w3 (p, q); have zB : z ≤ (w3.alloc (.cells #[.string p, .string q] 36)).heap.size := Nat.le_trans (Nat.le_trans zA zz3) (allocBelow w3 (.cells #[.string p, .string q] 36)).size; have B4 := B3.trans ((allocBelow w3 (.cells #[.string p, .string q] 36)).mono (Nat.le_trans hbz (Nat.le_trans zA zz3))); have D4 := newsBelow (allocBelow w3 (.cells #[.string p, .string q] 36)) D3; have R4 := R3.below (Nat.lt_of_lt_of_le hbl (Nat.le_trans zA zz3)) (allocBelow w3 (.cells #[.string p, .string q] 36)))
              | (refine stepApp rfl (.tmp 62) (.tmp 65) 24 rfl z 36 i0 (.agg #[.string ⟨#[]⟩, .string ⟨#[]⟩]) 2 32 Try.underlying24 hi hz0 hz1 hz2 rfl (by decide) (.slice (some ⟨z, 0, none⟩) 0 0) _ _ rfl oAB ⟨g3, 0, none⟩ k _ (ocells (l.take k)) rfl hlt nAB (oneR _) (by unfold maxLen; omega) (by omega) zAB ?_; intro v3 w3 p3 g3' _; replace p3 := zaddR p3; obtain ⟨va, vc, rfl⟩ := shapeK3 p3; have mkB := p3; have zz3 := g3'.size; have B3 := BAB.grown g3' (Nat.le_trans hbz zAB) (fun i hi => Nat.le_trans hbz (oAB.lt i hi).1); have D3 := newsKeep g3' (neX oAB) nDB; have R3 := rfGrew rrB g3' (neY oAB) (Nat.lt_of_lt_of_le hbl zAB); have nC := newsKeep (o := 0) g3' (neS z) cAB; have zC := Nat.le_trans zAB zz3)
              | (refine stepApp rfl (.tmp 62) (.tmp 65) 24 rfl z 36 i0 (.agg #[.string ⟨#[]⟩, .string ⟨#[]⟩]) 2 32 Try.underlying24 hi hz0 hz1 hz2 rfl (by decide) (.slice (some ⟨z + 1, 0, none⟩) 0 0) _ _ rfl oBA ⟨g3, 0, none⟩ k _ (ocells (l.take k)) rfl hlt nBA (oneR _) (by unfold maxLen; omega) (by omega) zBA ?_; intro v3 w3 p3 g3' _; replace p3 := zaddR p3; obtain ⟨va, vc, rfl⟩ := shapeK3 p3; have mkC := p3; have zz3 := g3'.size; have B3 := BBA.grown g3' (Nat.le_trans hbz zBA) (fun i hi => Nat.le_trans hbz (oBA.lt i hi).1); have D3 := newsKeep g3' (neX oBA) nDC; have R3 := rfGrew rrC g3' (neY oBA) (Nat.lt_of_lt_of_le hbl zBA); have nE := newsKeep (o := 0) g3' (neT z) cBA; have zE := Nat.le_trans zBA zz3))
          all_goals
            replace p7 : w7.ownsRow z 36 2 v7 (k + 1 + (l.length - k)) _ := p7
            obtain ⟨ta, tc, rfl⟩ := shapeK3 p7
            have d0 := R7.at_ 0 _ rfl
            have d1 := R7.at_ 1 _ rfl
            have f0 := R7.fz 0
            have f1 := R7.fz 1
            have HQ : Hid (RQ 0 (insL l k (p, q)) w (.returned (.agg #[.int .i64 0, .slice ta (k + 1 + (l.length - k)) tc])) ((w7.setCell ⟨b, 0, none⟩ (.int .i64 0)).setCell ⟨b, 1, none⟩ (.slice ta (k + 1 + (l.length - k)) tc))) := by
              have o1 := p7.kept (grownSet w7 b 0 (.int .i64 0)) (blockCases _ _ fun i c1 c2 => by cases c2; have := (p7.lt _ c1).1; omega)
              have o2 := o1.kept (grownSet _ b 1 (.slice ta (k + 1 + (l.length - k)) tc)) (blockCases _ _ fun i c1 c2 => by cases c2; have := (p7.lt _ c1).1; omega)
              refine ⟨_, rfl, ?_, by rw [hb]; exact below_sets B7 (Nat.le_refl _) _ _⟩
              have e1 : (insL l k (p, q)).length = k + 1 + (l.length - k) := by rw [insL_length l k (p, q) hkl]; omega
              have e2 : ocells (insL l k (p, q)) = ocells (l.take k) ++ ocells [(p, q)] ++ ocells (l.drop k) := by unfold insL; rw [ocells_app, ocells_app, List.append_assoc]
              rw [e1, e2]
              exact ownMonoR o2 (by omega)
            clear p7 g7 p5 g5 p3 g3' B7 B5 B3 R7 R5 R3
            go_wp2
            refine bodyPost_ret (v := .agg #[.int .i64 0, .slice ta (k + 1 + (l.length - k)) tc]) (by simp [results, Try.results7, go_sem, d0, d1]) rfl ?_
            rw [HRR.out.1, HRR.out.2]
            exact HQ.out
      · have qk : ¬ (k : Int) < (l.length : Int) := by omega
        clear hlt
        rw [hK] at HRR
        clear hA hK hkl0
        have qkc : (k : Int) ≤ (c3 : Int) := by omega
        have qkl : (k : Int) ≤ (l.length : Int) := by omega
        have qn0 : (0 : Int) ≤ (k : Int) := by omega
        obtain ⟨i0, hi, hz0, hz1, hz2⟩ := info_parts infoObj
        obtain ⟨z, hzz⟩ : ∃ z, wr.heap.size = z := ⟨_, rfl⟩
        have hbl : b < z := by omega
        have hbz : b ≤ z := by omega
        have hg3 : g3 < z := by omega
        have neX : ∀ {W : World} {v : Value} {n : Nat} {xs : List Value} (h : W.ownsRow z 36 2 v n xs), some g3 ≠ v.ownBlock := fun h e => by have := (h.lt g3 e.symm).1; omega
        have neY : ∀ {W : World} {v : Value} {n : Nat} {xs : List Value} (h : W.ownsRow z 36 2 v n xs), some b ≠ v.ownBlock := fun h e => by have := (h.lt b e.symm).1; omega
        have bA := allocBelow wr (.cells #[] 36)
        have bAB := allocBelow (wr.alloc (.cells #[] 36)) (.cells #[.string p, .string q] 36)
        have bC := allocBelow wr (.cells #[.string p, .string q] 36)
        have bBA := allocBelow (wr.alloc (.cells #[.string p, .string q] 36)) (.cells #[] 36)
        have bA2 : Below wr.heap.size wr ((wr.alloc (.cells #[] 36)).alloc (.cells #[.string p, .string q] 36)) := bA.trans (bAB.mono bA.size)
        have bC2 : Below wr.heap.size wr ((wr.alloc (.cells #[.string p, .string q] 36)).alloc (.cells #[] 36)) := bC.trans (bBA.mono bC.size)
        have oA0 : (wr.alloc (.cells #[] 36)).ownsRow z 36 2 (.slice (some ⟨z, 0, none⟩) 0 0) 0 [] := by rw [← hzz]; exact World.ownsRow_made wr #[] 0 (Nat.le_refl _) (by unfold maxLen; omega) rfl
        have oA : (wr.alloc (.cells #[] 36)).drew.ownsRow z 36 2 (.slice (some ⟨z, 0, none⟩) 0 0) 0 [] := oA0.drew
        have oAB : ((wr.alloc (.cells #[] 36)).alloc (.cells #[.string p, .string q] 36)).drew.ownsRow z 36 2 (.slice (some ⟨z, 0, none⟩) 0 0) 0 [] := (oA0.kept (grownOfBelow bAB none) (blockCases _ _ fun b c1 c2 => by cases c2)).drew
        have oBA : ((wr.alloc (.cells #[.string p, .string q] 36)).alloc (.cells #[] 36)).drew.ownsRow z 36 2 (.slice (some ⟨z + 1, 0, none⟩) 0 0) 0 [] := by
          have h9 := World.ownsRow_made (base := z + 1) (e := 36) (size := 2) (wr.alloc (.cells #[.string p, .string q] 36)) #[] 0 (by rw [World.size_alloc, hzz]; exact Nat.le_refl _) (by unfold maxLen; omega) rfl
          rw [World.size_alloc, hzz] at h9
          exact (ownMonoR h9 (by omega)).drew
        have zA : z ≤ (wr.alloc (.cells #[] 36)).drew.heap.size := by rw [← hzz]; exact bA.size
        have zAB : z ≤ ((wr.alloc (.cells #[] 36)).alloc (.cells #[.string p, .string q] 36)).drew.heap.size := by rw [← hzz]; exact bA2.size
        have zBA : z ≤ ((wr.alloc (.cells #[.string p, .string q] 36)).alloc (.cells #[] 36)).drew.heap.size := by rw [← hzz]; exact bC2.size
        have BA : Below b w (wr.alloc (.cells #[] 36)).drew := (B4.trans (bA.mono (by omega))).drew
        have BAB : Below b w ((wr.alloc (.cells #[] 36)).alloc (.cells #[.string p, .string q] 36)).drew := (B4.trans (bA2.mono (by omega))).drew
        have BBA : Below b w ((wr.alloc (.cells #[.string p, .string q] 36)).alloc (.cells #[] 36)).drew := (B4.trans (bC2.mono (by omega))).drew
        have rrA : Rf (wr.alloc (.cells #[] 36)).drew b [.int .i64 0, .slice none 0 0] := r4.below (by omega) bA.drew
        have rrB : Rf ((wr.alloc (.cells #[] 36)).alloc (.cells #[.string p, .string q] 36)).drew b [.int .i64 0, .slice none 0 0] := r4.below (by omega) bA2.drew
        have rrC : Rf ((wr.alloc (.cells #[.string p, .string q] 36)).alloc (.cells #[] 36)).drew b [.int .i64 0, .slice none 0 0] := r4.below (by omega) bC2.drew
        have nA := newsTake (O4.below bA.drew) k hkl
        have nAB := newsTake (O4.below bA2.drew) k hkl
        have nBA := newsTake (O4.below bC2.drew) k hkl
        have cAB : ∀ j u, (ocells [(p, q)])[j]? = some u → ((wr.alloc (.cells #[] 36)).alloc (.cells #[.string p, .string q] 36)).drew.cell? ((⟨z + 1, 0, none⟩ : Addr).add j) = some u := by
          have h9 := newR (wr.alloc (.cells #[] 36)) (p, q)
          rw [World.size_alloc, hzz] at h9
          exact h9
        have cBA : ∀ j u, (ocells [(p, q)])[j]? = some u → ((wr.alloc (.cells #[.string p, .string q] 36)).alloc (.cells #[] 36)).drew.cell? ((⟨z, 0, none⟩ : Addr).add j) = some u := by
          have h9 := newR wr (p, q)
          rw [hzz] at h9
          exact newsBelow bBA.drew h9
        have hlt2 : (ocells (l.take k)).length = k * 2 := by rw [ocells_length, List.length_take]; omega
        have hlt := hlt2
        have hld : (ocells (l.drop k)).length = (l.length - k) * 2 := by rw [ocells_length, List.length_drop]
        by_cases hcc : k = c3
        · have e0 : l.drop k = [] := List.drop_eq_nil_of_le (by omega)
          have nD : ∀ (W : World) i u, (ocells (l.drop k))[i]? = some u → W.cell? ((⟨g3, 0, none⟩ : Addr).add i) = some u := fun W i u hu => by
            have := ocells_lt hu
            rw [e0] at this
            simp at this
          have hld0 : (ocells (l.drop k)).length = 0 * 2 := by rw [e0]; rfl
          have nDA := nD (wr.alloc (.cells #[] 36)).drew
          have nDB := nD ((wr.alloc (.cells #[] 36)).alloc (.cells #[.string p, .string q] 36)).drew
          have nDC := nD ((wr.alloc (.cells #[.string p, .string q] 36)).alloc (.cells #[] 36)).drew
          subst hcc
          clear nD e0 bA bAB bC bBA bA2 bC2 oA0 O4 o4 B4 r4 hlt2
          go_wp2_with fail
          go_region_law (first
              | (have gd := p5; clear gd; refine stepApp rfl (.tmp 71) (.tmp 74) 24 rfl z 36 i0 (.agg #[.string ⟨#[]⟩, .string ⟨#[]⟩]) 2 32 Try.underlying24 hi hz0 hz1 hz2 rfl (by decide) (.slice ua (k + 1) uc) _ _ rfl p5 ⟨g3, 0, none⟩ 0 _ (ocells (l.drop k)) rfl hld0 D5 (oneR _) (by unfold maxLen; omega) (by omega) z5 ?_; intro v7 w7 p7 g7 _; have B7 := B5.grown g7 (Nat.le_trans hbz z5) (fun i hi => Nat.le_trans hbz (p5.lt i hi).1); have R7 := rfGrew R5 g7 (neY p5) (Nat.lt_of_lt_of_le hbl z5))
              | (have gd := mkA; clear gd; refine stepApp rfl (.tmp 66) (.tmp 70) 24 rfl z 36 i0 (.agg #[.string ⟨#[]⟩, .string ⟨#[]⟩]) 2 32 Try.underlying24 hi hz0 hz1 hz2 rfl (by decide) (.slice va k vc) _ _ rfl pB ⟨w3.heap.size, 0, none⟩ 1 _ (ocells [(p, q)]) rfl (ocells_length _) nB (oneR _) (by unfold maxLen; omega) (by omega) zB ?_; intro v5 w5 p5 g5 _; obtain ⟨ua, uc, rfl⟩ := shapeK3 p5; have z5 := Nat.le_trans zB g5.size; have B5 := B4.grown g5 (Nat.le_trans hbz zB) (fun i hi => Nat.le_trans hbz (pB.lt i hi).1); have D5 := newsKeep g5 (neX pB) D4; have R5 := rfGrew R4 g5 (neY pB) (Nat.lt_of_lt_of_le hbl zB))
              | (have gd := mkB; clear gd; refine stepApp rfl (.tmp 66) (.tmp 70) 24 rfl z 36 i0 (.agg #[.string ⟨#[]⟩, .string ⟨#[]⟩]) 2 32 Try.underlying24 hi hz0 hz1 hz2 rfl (by decide) (.slice va k vc) _ _ rfl p3 ⟨z + 1, 0, none⟩ 1 _ (ocells [(p, q)]) rfl (ocells_length _) nC (oneR _) (by unfold maxLen; omega) (by omega) zC ?_; intro v5 w5 p5 g5 _; obtain ⟨ua, uc, rfl⟩ := shapeK3 p5; have z5 := Nat.le_trans zC g5.size; have B5 := B3.grown g5 (Nat.le_trans hbz zC) (fun i hi => Nat.le_trans hbz (p3.lt i hi).1); have D5 := newsKeep g5 (neX p3) D3; have R5 := rfGrew R3 g5 (neY p3) (Nat.lt_of_lt_of_le hbl zC))
              | (have gd := mkC; clear gd; refine stepApp rfl (.tmp 66) (.tmp 70) 24 rfl z 36 i0 (.agg #[.string ⟨#[]⟩, .string ⟨#[]⟩]) 2 32 Try.underlying24 hi hz0 hz1 hz2 rfl (by decide) (.slice va k vc) _ _ rfl p3 ⟨z, 0, none⟩ 1 _ (ocells [(p, q)]) rfl (ocells_length _) nE (oneR _) (by unfold maxLen; omega) (by omega) zE ?_; intro v5 w5 p5 g5 _; obtain ⟨ua, uc, rfl⟩ := shapeK3 p5; have z5 := Nat.le_trans zE g5.size; have B5 := B3.grown g5 (Nat.le_trans hbz zE) (fun i hi => Nat.le_trans hbz (p3.lt i hi).1); have D5 := newsKeep g5 (neX p3) D3; have R5 := rfGrew R3 g5 (neY p3) (Nat.lt_of_lt_of_le hbl zE))
              | (refine stepApp rfl (.tmp 62) (.tmp 65) 24 rfl z 36 i0 (.agg #[.string ⟨#[]⟩, .string ⟨#[]⟩]) 2 32 Try.underlying24 hi hz0 hz1 hz2 rfl (by decide) (.slice (some ⟨z, 0, none⟩) 0 0) _ _ rfl oA ⟨g3, 0, none⟩ k _ (ocells (l.take k)) rfl hlt nA (oneR _) (by unfold maxLen; omega) (by omega) zA ?_; intro v3 w3 p3 g3' _; replace p3 := zaddR p3; obtain ⟨va, vc, rfl⟩ := shapeK3 p3; have mkA := p3; have zz3 := g3'.size; have B3 := BA.grown g3' (Nat.le_trans hbz zA) (fun i hi => Nat.le_trans hbz (oA.lt i hi).1); have D3 := newsKeep g3' (neX oA) nDA; have R3 := rfGrew rrA g3' (neY oA) (Nat.lt_of_lt_of_le hbl zA); have pB := p3.kept (grownOfBelow (allocBelow w3 (.cells #[.string p, .string q] 36)) none) (blockCases _ _ fun b c1 c2 => by cases c2); have nB := newR w3 (p, q); have zB : z ≤ (w3.alloc (.cells #[.string p, .string q] 36)).heap.size := Nat.le_trans (Nat.le_trans zA zz3) (allocBelow w3 (.cells #[.string p, .string q] 36)).size; have B4 := B3.trans ((allocBelow w3 (.cells #[.string p, .string q] 36)).mono (Nat.le_trans hbz (Nat.le_trans zA zz3))); have D4 := newsBelow (allocBelow w3 (.cells #[.string p, .string q] 36)) D3; have R4 := R3.below (Nat.lt_of_lt_of_le hbl (Nat.le_trans zA zz3)) (allocBelow w3 (.cells #[.string p, .string q] 36)))
              | (refine stepApp rfl (.tmp 62) (.tmp 65) 24 rfl z 36 i0 (.agg #[.string ⟨#[]⟩, .string ⟨#[]⟩]) 2 32 Try.underlying24 hi hz0 hz1 hz2 rfl (by decide) (.slice (some ⟨z, 0, none⟩) 0 0) _ _ rfl oAB ⟨g3, 0, none⟩ k _ (ocells (l.take k)) rfl hlt nAB (oneR _) (by unfold maxLen; omega) (by omega) zAB ?_; intro v3 w3 p3 g3' _; replace p3 := zaddR p3; obtain ⟨va, vc, rfl⟩ := shapeK3 p3; have mkB := p3; have zz3 := g3'.size; have B3 := BAB.grown g3' (Nat.le_trans hbz zAB) (fun i hi => Nat.le_trans hbz (oAB.lt i hi).1); have D3 := newsKeep g3' (neX oAB) nDB; have R3 := rfGrew rrB g3' (neY oAB) (Nat.lt_of_lt_of_le hbl zAB); have nC := newsKeep (o := 0) g3' (neS z) cAB; have zC := Nat.le_trans zAB zz3)
              | (refine stepApp rfl (.tmp 62) (.tmp 65) 24 rfl z 36 i0 (.agg #[.string ⟨#[]⟩, .string ⟨#[]⟩]) 2 32 Try.underlying24 hi hz0 hz1 hz2 rfl (by decide) (.slice (some ⟨z + 1, 0, none⟩) 0 0) _ _ rfl oBA ⟨g3, 0, none⟩ k _ (ocells (l.take k)) rfl hlt nBA (oneR _) (by unfold maxLen; omega) (by omega) zBA ?_; intro v3 w3 p3 g3' _; replace p3 := zaddR p3; obtain ⟨va, vc, rfl⟩ := shapeK3 p3; have mkC := p3; have zz3 := g3'.size; have B3 := BBA.grown g3' (Nat.le_trans hbz zBA) (fun i hi => Nat.le_trans hbz (oBA.lt i hi).1); have D3 := newsKeep g3' (neX oBA) nDC; have R3 := rfGrew rrC g3' (neY oBA) (Nat.lt_of_lt_of_le hbl zBA); have nE := newsKeep (o := 0) g3' (neT z) cBA; have zE := Nat.le_trans zBA zz3))
          all_goals
            replace p7 : w7.ownsRow z 36 2 v7 (k + 1) _ := p7
            obtain ⟨ta, tc, rfl⟩ := shapeK3 p7
            have d0 := R7.at_ 0 _ rfl
            have d1 := R7.at_ 1 _ rfl
            have f0 := R7.fz 0
            have f1 := R7.fz 1
            have HQ : Hid (RQ 0 (insL l k (p, q)) w (.returned (.agg #[.int .i64 0, .slice ta (k + 1) tc])) ((w7.setCell ⟨b, 0, none⟩ (.int .i64 0)).setCell ⟨b, 1, none⟩ (.slice ta (k + 1) tc))) := by
              have o1 := p7.kept (grownSet w7 b 0 (.int .i64 0)) (blockCases _ _ fun i c1 c2 => by cases c2; have := (p7.lt _ c1).1; omega)
              have o2 := o1.kept (grownSet _ b 1 (.slice ta (k + 1) tc)) (blockCases _ _ fun i c1 c2 => by cases c2; have := (p7.lt _ c1).1; omega)
              refine ⟨_, rfl, ?_, by rw [hb]; exact below_sets B7 (Nat.le_refl _) _ _⟩
              have e1 : (insL l k (p, q)).length = k + 1 := by rw [insL_length l k (p, q) hkl]; omega
              have e2 : ocells (insL l k (p, q)) = ocells (l.take k) ++ ocells [(p, q)] ++ ocells (l.drop k) := by unfold insL; rw [ocells_app, ocells_app, List.append_assoc]
              rw [e1, e2]
              exact ownMonoR o2 (by omega)
            clear p7 g7 p5 g5 p3 g3' B7 B5 B3 R7 R5 R3
            go_wp2
            refine bodyPost_ret (v := .agg #[.int .i64 0, .slice ta (k + 1) tc]) (by simp [results, Try.results7, go_sem, d0, d1]) rfl ?_
            rw [HRR.out.1, HRR.out.2]
            exact HQ.out
        · have qcc : ¬ (c3 : Int) = (k : Int) := by omega
          have qcn : ¬ c3 = k := fun e => hcc e.symm
          have nDA := newsDrop (O4.below bA.drew) k hkl
          have nDB := newsDrop (O4.below bA2.drew) k hkl
          have nDC := newsDrop (O4.below bC2.drew) k hkl
          simp only [Nat.zero_add] at nDA nDB nDC
          clear bA bAB bC bBA bA2 bC2 oA0 O4 o4 B4 r4 hlt2
          go_wp2_with fail
          go_region_law (first
              | (have gd := p5; clear gd; refine stepApp rfl (.tmp 71) (.tmp 74) 24 rfl z 36 i0 (.agg #[.string ⟨#[]⟩, .string ⟨#[]⟩]) 2 32 Try.underlying24 hi hz0 hz1 hz2 rfl (by decide) (.slice ua (k + 1) uc) _ _ rfl p5 ⟨g3, k * 2, none⟩ (l.length - k) _ (ocells (l.drop k)) rfl hld D5 (oneR _) (by unfold maxLen; omega) (by omega) z5 ?_; intro v7 w7 p7 g7 _; have B7 := B5.grown g7 (Nat.le_trans hbz z5) (fun i hi => Nat.le_trans hbz (p5.lt i hi).1); have R7 := rfGrew R5 g7 (neY p5) (Nat.lt_of_lt_of_le hbl z5))
              | (have gd := mkA; clear gd; refine stepApp rfl (.tmp 66) (.tmp 70) 24 rfl z 36 i0 (.agg #[.string ⟨#[]⟩, .string ⟨#[]⟩]) 2 32 Try.underlying24 hi hz0 hz1 hz2 rfl (by decide) (.slice va k vc) _ _ rfl pB ⟨w3.heap.size, 0, none⟩ 1 _ (ocells [(p, q)]) rfl (ocells_length _) nB (oneR _) (by unfold maxLen; omega) (by omega) zB ?_; intro v5 w5 p5 g5 _; obtain ⟨ua, uc, rfl⟩ := shapeK3 p5; have z5 := Nat.le_trans zB g5.size; have B5 := B4.grown g5 (Nat.le_trans hbz zB) (fun i hi => Nat.le_trans hbz (pB.lt i hi).1); have D5 := newsKeep g5 (neX pB) D4; have R5 := rfGrew R4 g5 (neY pB) (Nat.lt_of_lt_of_le hbl zB))
              | (have gd := mkB; clear gd; refine stepApp rfl (.tmp 66) (.tmp 70) 24 rfl z 36 i0 (.agg #[.string ⟨#[]⟩, .string ⟨#[]⟩]) 2 32 Try.underlying24 hi hz0 hz1 hz2 rfl (by decide) (.slice va k vc) _ _ rfl p3 ⟨z + 1, 0, none⟩ 1 _ (ocells [(p, q)]) rfl (ocells_length _) nC (oneR _) (by unfold maxLen; omega) (by omega) zC ?_; intro v5 w5 p5 g5 _; obtain ⟨ua, uc, rfl⟩ := shapeK3 p5; have z5 := Nat.le_trans zC g5.size; have B5 := B3.grown g5 (Nat.le_trans hbz zC) (fun i hi => Nat.le_trans hbz (p3.lt i hi).1); have D5 := newsKeep g5 (neX p3) D3; have R5 := rfGrew R3 g5 (neY p3) (Nat.lt_of_lt_of_le hbl zC))
              | (have gd := mkC; clear gd; refine stepApp rfl (.tmp 66) (.tmp 70) 24 rfl z 36 i0 (.agg #[.string ⟨#[]⟩, .string ⟨#[]⟩]) 2 32 Try.underlying24 hi hz0 hz1 hz2 rfl (by decide) (.slice va k vc) _ _ rfl p3 ⟨z, 0, none⟩ 1 _ (ocells [(p, q)]) rfl (ocells_length _) nE (oneR _) (by unfold maxLen; omega) (by omega) zE ?_; intro v5 w5 p5 g5 _; obtain ⟨ua, uc, rfl⟩ := shapeK3 p5; have z5 := Nat.le_trans zE g5.size; have B5 := B3.grown g5 (Nat.le_trans hbz zE) (fun i hi => Nat.le_trans hbz (p3.lt i hi).1); have D5 := newsKeep g5 (neX p3) D3; have R5 := rfGrew R3 g5 (neY p3) (Nat.lt_of_lt_of_le hbl zE))
              | (refine stepApp rfl (.tmp 62) (.tmp 65) 24 rfl z 36 i0 (.agg #[.string ⟨#[]⟩, .string ⟨#[]⟩]) 2 32 Try.underlying24 hi hz0 hz1 hz2 rfl (by decide) (.slice (some ⟨z, 0, none⟩) 0 0) _ _ rfl oA ⟨g3, 0, none⟩ k _ (ocells (l.take k)) rfl hlt nA (oneR _) (by unfold maxLen; omega) (by omega) zA ?_; intro v3 w3 p3 g3' _; replace p3 := zaddR p3; obtain ⟨va, vc, rfl⟩ := shapeK3 p3; have mkA := p3; have zz3 := g3'.size; have B3 := BA.grown g3' (Nat.le_trans hbz zA) (fun i hi => Nat.le_trans hbz (oA.lt i hi).1); have D3 := newsKeep g3' (neX oA) nDA; have R3 := rfGrew rrA g3' (neY oA) (Nat.lt_of_lt_of_le hbl zA); have pB := p3.kept (grownOfBelow (allocBelow w3 (.cells #[.string p, .string q] 36)) none) (blockCases _ _ fun b c1 c2 => by cases c2); have nB := newR w3 (p, q); have zB : z ≤ (w3.alloc (.cells #[.string p, .string q] 36)).heap.size := Nat.le_trans (Nat.le_trans zA zz3) (allocBelow w3 (.cells #[.string p, .string q] 36)).size; have B4 := B3.trans ((allocBelow w3 (.cells #[.string p, .string q] 36)).mono (Nat.le_trans hbz (Nat.le_trans zA zz3))); have D4 := newsBelow (allocBelow w3 (.cells #[.string p, .string q] 36)) D3; have R4 := R3.below (Nat.lt_of_lt_of_le hbl (Nat.le_trans zA zz3)) (allocBelow w3 (.cells #[.string p, .string q] 36)))
              | (refine stepApp rfl (.tmp 62) (.tmp 65) 24 rfl z 36 i0 (.agg #[.string ⟨#[]⟩, .string ⟨#[]⟩]) 2 32 Try.underlying24 hi hz0 hz1 hz2 rfl (by decide) (.slice (some ⟨z, 0, none⟩) 0 0) _ _ rfl oAB ⟨g3, 0, none⟩ k _ (ocells (l.take k)) rfl hlt nAB (oneR _) (by unfold maxLen; omega) (by omega) zAB ?_; intro v3 w3 p3 g3' _; replace p3 := zaddR p3; obtain ⟨va, vc, rfl⟩ := shapeK3 p3; have mkB := p3; have zz3 := g3'.size; have B3 := BAB.grown g3' (Nat.le_trans hbz zAB) (fun i hi => Nat.le_trans hbz (oAB.lt i hi).1); have D3 := newsKeep g3' (neX oAB) nDB; have R3 := rfGrew rrB g3' (neY oAB) (Nat.lt_of_lt_of_le hbl zAB); have nC := newsKeep (o := 0) g3' (neS z) cAB; have zC := Nat.le_trans zAB zz3)
              | (refine stepApp rfl (.tmp 62) (.tmp 65) 24 rfl z 36 i0 (.agg #[.string ⟨#[]⟩, .string ⟨#[]⟩]) 2 32 Try.underlying24 hi hz0 hz1 hz2 rfl (by decide) (.slice (some ⟨z + 1, 0, none⟩) 0 0) _ _ rfl oBA ⟨g3, 0, none⟩ k _ (ocells (l.take k)) rfl hlt nBA (oneR _) (by unfold maxLen; omega) (by omega) zBA ?_; intro v3 w3 p3 g3' _; replace p3 := zaddR p3; obtain ⟨va, vc, rfl⟩ := shapeK3 p3; have mkC := p3; have zz3 := g3'.size; have B3 := BBA.grown g3' (Nat.le_trans hbz zBA) (fun i hi => Nat.le_trans hbz (oBA.lt i hi).1); have D3 := newsKeep g3' (neX oBA) nDC; have R3 := rfGrew rrC g3' (neY oBA) (Nat.lt_of_lt_of_le hbl zBA); have nE := newsKeep (o := 0) g3' (neT z) cBA; have zE := Nat.le_trans zBA zz3))
          all_goals
            replace p7 : w7.ownsRow z 36 2 v7 (k + 1 + (l.length - k)) _ := p7
            obtain ⟨ta, tc, rfl⟩ := shapeK3 p7
            have d0 := R7.at_ 0 _ rfl
            have d1 := R7.at_ 1 _ rfl
            have f0 := R7.fz 0
            have f1 := R7.fz 1
            have HQ : Hid (RQ 0 (insL l k (p, q)) w (.returned (.agg #[.int .i64 0, .slice ta (k + 1 + (l.length - k)) tc])) ((w7.setCell ⟨b, 0, none⟩ (.int .i64 0)).setCell ⟨b, 1, none⟩ (.slice ta (k + 1 + (l.length - k)) tc))) := by
              have o1 := p7.kept (grownSet w7 b 0 (.int .i64 0)) (blockCases _ _ fun i c1 c2 => by cases c2; have := (p7.lt _ c1).1; omega)
              have o2 := o1.kept (grownSet _ b 1 (.slice ta (k + 1 + (l.length - k)) tc)) (blockCases _ _ fun i c1 c2 => by cases c2; have := (p7.lt _ c1).1; omega)
              refine ⟨_, rfl, ?_, by rw [hb]; exact below_sets B7 (Nat.le_refl _) _ _⟩
              have e1 : (insL l k (p, q)).length = k + 1 + (l.length - k) := by rw [insL_length l k (p, q) hkl]; omega
              have e2 : ocells (insL l k (p, q)) = ocells (l.take k) ++ ocells [(p, q)] ++ ocells (l.drop k) := by unfold insL; rw [ocells_app, ocells_app, List.append_assoc]
              rw [e1, e2]
              exact ownMonoR o2 (by omega)
            clear p7 g7 p5 g5 p3 g3' B7 B5 B3 R7 R5 R3
            go_wp2
            refine bodyPost_ret (v := .agg #[.int .i64 0, .slice ta (k + 1 + (l.length - k)) tc]) (by simp [results, Try.results7, go_sem, d0, d1]) rfl ?_
            rw [HRR.out.1, HRR.out.2]
            exact HQ.out
end Go.Proofs.Ytkeinpobngfioaa.Ru
