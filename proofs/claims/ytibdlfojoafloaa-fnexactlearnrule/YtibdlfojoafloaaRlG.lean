/- A rule is forgotten: the specification. No statement is proved here. -/
import Derived.Test.YtibdlfojoafloaaRows
import Derived.Test.YtibdlfojoafloaaLem
import Derived.Test.YtibdlfojoafloaaStrs
import Derived.Test.YtibdlfojoafloaaLFLem
import Derived.Test.YtibdlfojoafloaaDTab
import Derived.Test.YtibdlfojoafloaaOwn
import Derived.Test.YtibdlfojoafloaaFr
import Derived.Test.YtibdlfojoafloaaHkT
import Derived.Test.YtibdlfojoafloaaRuL
import Derived.Test.YtibdlfojoafloaaRuF
import Derived.Test.YtibdlfojoafloaaFrC
import Derived.Test.YtibdlfojoafloaaRlB
import Derived.Test.YtibdlfojoafloaaRlC
import Derived.Test.YtibdlfojoafloaaRlD
import Derived.Test.YtibdlfojoafloaaRlE
import Derived.Test.YtibdlfojoafloaaRlF
import Derived.WalkKit
import Derived.ProofKit
import Derived.Below
import Derived.WalkSpells
import Derived.Maps.AppendAt
import Derived.Laws.BitsLemmas
import Derived.Deep.QuietTactic
import Derived.BigQuiet
import Derived.Deep.RegionWith
import Derived.Deep.RegionHeld
import Derived.Deep.CutRange
set_option linter.unusedVariables false
namespace Go.Proofs.Ytibdlfojoafloaa.Ru
open Go.ChangeShapes Go.WideShapes Go.ChangeAt Go.RowKit
theorem stepApp {P : Program} {ops : Array Oper} {o : Oper} {a : Act} {w : World} {K : Act → World → Prop} {Q : Exit → Act → World → Prop} {E : Prop}
    (hg : o.guard = none) (s x : Operand) (t : TypeId) (hop : o.op = Op.call { callee := Callee.builtin Builtin.append, args := #[s, x], argTypes := #[t, t] })
    (base : Nat) (e : TypeId) (i : TypeInfo) (z : Value) (size bytes : Nat) (ht : P.underlying t = some (.slice e)) (hi : P.info? e = some i) (hz : i.zero = some z)
    (hsize : i.size = size) (hby : i.bytes = bytes) (hzs : z.cells.size = size) (hsz : 0 < size)
    (v : Value) (n : Nat) (xs : List Value) (hs : a.eval s = v) (hown : w.ownsRow base e size v n xs)
    (ad : Addr) (m c : Nat) (news : List Value) (hx : a.eval x = .slice (some ad) m c) (hl : news.length = m * size) (hnews : ∀ j u, news[j]? = some u → w.cell? (ad.add j) = some u) (h1 : ∀ u ∈ news, u.oneCell' = true)
    (h63 : n + m ≤ maxLen) (hbytes : (n + m) * bytes ≤ 140737488355328) (hbase : base ≤ w.heap.size)
    (hK : ∀ v' w', w'.ownsRow base e size v' (n + m) (xs ++ news) → w.grownBy w' v.ownBlock → (v'.ownBlock = v.ownBlock ∨ v'.ownBlock = some w.heap.size) → K (a.put o.dst v') w') :
    if Region.wanted o (yielded ops a.tmps) = true then Oper.wp P o a w K Q else E := by
  have hw : Region.wanted o (yielded ops a.tmps) = true := by simp [Region.wanted, hg]
  rw [if_pos hw]
  obtain ⟨v', w', hr, h2, h3, h4, h5⟩ := run_append_own_at (P := P) w base t o.type e i z size bytes ht hi hz hsize hby hzs hsz v n xs hown ad m c news hl hnews h1 h63 hbytes hbase
  unfold Oper.wp
  simp only [execOp, hop, resolve, invoke, builtin, Sem.run_bind, Sem.run_pure, Result.andThen_ok, List.map_toArray, List.map_cons, List.map_nil, hs, hx, hr]
  exact hK v' w' h2 h3 h5

theorem ocells_at (l : List Ob) (j : Nat) (h : j < l.length * 2) : (ocells l)[j]? = some (ocell l j) := rowG_at _ _ _ h
theorem ocells_lt {l : List Ob} {j : Nat} {u : Value} (h : (ocells l)[j]? = some u) : j < l.length * 2 := by
  have := (List.getElem?_eq_some_iff.1 h).1
  rw [ocells_length] at this
  exact this
theorem OB.cellJ {B g off : Nat} {w : World} {l : List Ob} (h : OB B w (some ⟨g, off, none⟩) l) (j : Nat) (hj : j < l.length * 2) : w.cell? ⟨g, off + j, none⟩ = some (ocell l j) := by
  obtain ⟨g', off', e, _, c0, c1⟩ := h (j / 2) (by omega)
  simp only [Option.some.injEq, Addr.mk.injEq, and_true] at e
  obtain ⟨rfl, rfl⟩ := e
  unfold ocell
  by_cases q : j % 2 = 0
  · rw [if_pos q, ← c0, show off + j / 2 * 2 = off + j by omega]
  · rw [if_neg q, ← c1, show off + j / 2 * 2 + 1 = off + j by omega]
/-- The cells of a part of rules that can be read. -/
theorem newsTake {B g off : Nat} {w : World} {l : List Ob} (h : OB B w (some ⟨g, off, none⟩) l) (n : Nat) (hn : n ≤ l.length) : ∀ j u, (ocells (l.take n))[j]? = some u → w.cell? ((⟨g, off, none⟩ : Addr).add j) = some u := by
  intro j u hu
  have hj := ocells_lt hu
  rw [List.length_take] at hj
  have e : ocells l = ocells (l.take n) ++ ocells (l.drop n) := by rw [← ocells_app, List.take_append_drop]
  have h2 : (ocells l)[j]? = some u := by rw [e, List.getElem?_append_left (by rw [ocells_length, List.length_take]; omega)]; exact hu
  rw [add_plain, h.cellJ j (by omega), ← h2, ocells_at l j (by omega)]
theorem newsDrop {B g off : Nat} {w : World} {l : List Ob} (h : OB B w (some ⟨g, off, none⟩) l) (n : Nat) (hn : n ≤ l.length) : ∀ j u, (ocells (l.drop n))[j]? = some u → w.cell? ((⟨g, off + n * 2, none⟩ : Addr).add j) = some u := by
  intro j u hu
  have hj := ocells_lt hu
  rw [List.length_drop] at hj
  have e : ocells l = ocells (l.take n) ++ ocells (l.drop n) := by rw [← ocells_app, List.take_append_drop]
  have hl : (ocells (l.take n)).length = n * 2 := by rw [ocells_length, List.length_take]; omega
  have h2 : (ocells l)[n * 2 + j]? = some u := by rw [e, List.getElem?_append_right (by rw [hl]; omega), hl, show n * 2 + j - n * 2 = j by omega]; exact hu
  rw [add_plain, show off + n * 2 + j = off + (n * 2 + j) by omega, h.cellJ (n * 2 + j) (by omega), ← h2, ocells_at l _ (by omega)]
theorem zaddR {w : World} {base : Nat} {t : TypeId} {k : Nat} {v : Value} {n : Nat} {xs : List Value} (h : w.ownsRow base t k v (0 + n) ([] ++ xs)) : w.ownsRow base t k v n xs := by rw [Nat.zero_add, List.nil_append] at h; exact h
theorem newsKeep {w w' : World} {row : Option Nat} {g o : Nat} {xs : List Value} (hg : w.grownBy w' row) (hne : some g ≠ row) (h : ∀ j u, xs[j]? = some u → w.cell? ((⟨g, o, none⟩ : Addr).add j) = some u) : ∀ j u, xs[j]? = some u → w'.cell? ((⟨g, o, none⟩ : Addr).add j) = some u := fun j u hu => by
  have q := h j u hu
  rw [add_plain] at q ⊢
  exact hg.cell q hne
theorem wrap1 {j n : Nat} (h : j < n) (hn : n ≤ 1048576) : IntKind.i64.wrap ((j : Int) + 1) = (j : Int) + 1 := by
  have h1 : (j : Int) < 1048576 := by omega
  rw [IntKind.wrap_i64]
  omega
set_option maxRecDepth 20000 in
set_option maxHeartbeats 4000000 in
theorem specForgetRule (a : Option Addr) (c : Nat) (l : List Ob) (p : ByteArray) (w : World) (h : OB w.heap.size w a l) (hs : SmallO l) (hn : l.length ≤ 1048576) (hc : l.length ≤ c) :
    Calls Try.prog 21 #[.slice a l.length c, .string p] w fun e w' => RQ (fgC l p) (fgL l p) w e w' := by
  obtain ⟨b, hb⟩ : ∃ b, w.heap.size = b := ⟨_, rfl⟩
  obtain ⟨W1, hW1⟩ : ∃ W, w.alloc (.cells #[.int .i64 0, .slice none 0 0] 28) = W := ⟨_, rfl⟩
  have b1 : Below b w W1 := by rw [← hW1, ← hb]; exact allocBelow _ _
  have r1 : Rf W1 b [.int .i64 0, .slice none 0 0] := by rw [← hW1, ← hb]; exact Rf.new _ #[.int .i64 0, .slice none 0 0] _
  have z1 : W1.heap.size = b + 1 := by rw [← hW1, ← hb]; simp
  have h1 := (h.below (by rw [hb]; exact b1)).mono (B' := W1.heap.size) (by omega)
  have hR := specRulesFault a c l W1 h1 hs hn
  by_cases h0 : rf l = 0
  · rw [h0] at hR
    have hl40 := (rf_zero h0).1
    go_enter Try.func21, Try.ntmps21
    go_wp2_with fail
    refine hR.mono ?_
    clear hR hW1
    rintro e w2 ⟨rfl, b2⟩
    have B2 : Below b w w2 := b1.trans (b2.mono (by omega))
    have z2 := b2.size
    have r2 := r1.below (by omega) b2
    have h2 := (h1.below b2).mono (B' := w2.heap.size) (by omega)
    have hF := l13Find a c l p w2 h2 hn
    clear h1 b2 b1 r1
    rcases fd_bd l p with hf | ⟨j, hf, hj⟩
    · have HR : Hid (fgC l p = 4 ∧ fgL l p = []) := ⟨by unfold fgC; rw [if_pos h0, if_pos hf], by unfold fgL; rw [if_neg (fun c => c.2 hf)]⟩
      rw [hf] at hF
      have d0 := r2.at_ 0 _ rfl
      have d1 := r2.at_ 1 _ rfl
      have f0 := r2.fz 0
      have f1 := r2.fz 1
      clear r2 h2 hf
      go_wp2_with fail
      refine hF.mono ?_
      rintro e w3 ⟨rfl, rfl⟩
      go_wp2
      refine bodyPost_ret (v := .agg #[.int .i64 4, .slice none 0 0]) (by simp [results, Try.results21, go_sem, d0, d1]) rfl ?_
      rw [HR.out.1, HR.out.2]
      exact rq0 (by rw [hb]; exact below_sets B2 (by omega) _ _)
    · have HR : Hid (fgC l p = 0 ∧ fgL l p = l.eraseIdx j) := ⟨by unfold fgC; rw [if_pos h0, if_neg (by rw [hf]; omega)], by unfold fgL; rw [if_pos ⟨h0, by rw [hf]; omega⟩, hf]; rfl⟩
      have HE : Hid (l.eraseIdx j = l.take j ++ l.drop (j + 1)) := List.eraseIdx_eq_take_drop_succ _ _
      rw [hf] at hF
      obtain ⟨g, off, ea, hgl, _, _⟩ := h2 j hj
      subst ea
      have qn : ¬ (j : Int) < 0 := by omega
      have qj : (j : Int) ≤ (c : Int) := by omega
      have qj1 : (j : Int) + 1 ≤ (l.length : Int) := by omega
      have qw := wrap1 hj hn
      have qj2 : (j : Int) ≤ (j : Int) + 1 := by omega
      have qj3 : (0 : Int) ≤ (j : Int) + 1 := by omega
      clear h0 hf
      go_wp2_with fail
      refine hF.mono ?_
      rintro e wr ⟨rfl, rfl⟩
      clear hF
      obtain ⟨i0, hi, hz0, hz1, hz2⟩ := info_parts infoObj
      obtain ⟨q, hq⟩ : ∃ q, wr.heap.size = q := ⟨_, rfl⟩
      have bA := allocBelow wr (.cells #[] 36)
      have oA : (wr.alloc (.cells #[] 36)).drew.ownsRow q 36 2 (.slice (some ⟨q, 0, none⟩) 0 0) 0 [] := by rw [← hq]; exact (World.ownsRow_made wr #[] 0 (Nat.le_refl _) (by unfold maxLen; omega) rfl).drew
      have zA : q ≤ (wr.alloc (.cells #[] 36)).drew.heap.size := by rw [← hq]; exact bA.size
      have hA : OB wr.heap.size (wr.alloc (.cells #[] 36)).drew (some ⟨g, off, none⟩) l := h2.below bA.drew
      have BA : Below b w (wr.alloc (.cells #[] 36)).drew := (B2.trans (bA.mono (by omega))).drew
      have nA := newsTake hA j (by omega)
      have nD := newsDrop hA (j + 1) (by omega)
      have rA : Rf (wr.alloc (.cells #[] 36)).drew b [.int .i64 0, .slice none 0 0] := r2.below (by omega) bA.drew
      have hlt : (ocells (l.take j)).length = j * 2 := by rw [ocells_length, List.length_take]; omega
      have hld : (ocells (l.drop (j + 1))).length = (l.length - (j + 1)) * 2 := by rw [ocells_length, List.length_drop]
      have hgq : g < q := by omega
      have hbq : b < q := by omega
      clear hA bA r2 h2 B2
      by_cases hcc : c = j + 1
      · have e0 : l.drop (j + 1) = [] := List.drop_eq_nil_of_le (by omega)
        have nD0 : ∀ i u, (ocells (l.drop (j + 1)))[i]? = some u → (wr.alloc (.cells #[] 36)).drew.cell? ((⟨g, off, none⟩ : Addr).add i) = some u := fun i u hu => by
          have := ocells_lt hu
          rw [e0] at this
          simp at this
        clear nD
        have nD := nD0
        clear nD0 e0
        have qcc : (c : Int) = (j : Int) + 1 := by omega
        have neG : some g ≠ (Value.slice (some ⟨q, 0, none⟩) 0 0).ownBlock := fun e => by
          have : g = q := Option.some.inj e
          omega
        have neB : some b ≠ (Value.slice (some ⟨q, 0, none⟩) 0 0).ownBlock := fun e => by
          have : b = q := Option.some.inj e
          omega
        go_wp2_with fail
        go_region_law (first
          | (refine stepApp rfl (.tmp 23) (.tmp 27) 24 rfl q 36 i0 (.agg #[.string ⟨#[]⟩, .string ⟨#[]⟩]) 2 32 Try.underlying24 hi hz0 hz1 hz2 rfl (by decide) (.slice va j vc) _ _ rfl p3 ⟨g, off, none⟩ (l.length - (j + 1)) _ (ocells (l.drop (j + 1))) rfl hld n3 (oneR _) (by unfold maxLen; omega) (by omega) zz3 ?_; intro v5 w5 p5 g5 _; obtain ⟨ua, uc, rfl⟩ := shapeK3 p5; have B5 := B3.grown g5 (by omega) (fun i hi => Nat.le_trans (by omega) (p3.lt i hi).1); have R5 := rfGrew R3 g5 (fun e => (by have := (p3.lt b e.symm).1; omega)) (by omega); have d0 := R5.at_ 0 _ rfl; have d1 := R5.at_ 1 _ rfl; have f0 := R5.fz 0; have f1 := R5.fz 1)
          | (refine stepApp rfl (.tmp 19) (.tmp 22) 24 rfl q 36 i0 (.agg #[.string ⟨#[]⟩, .string ⟨#[]⟩]) 2 32 Try.underlying24 hi hz0 hz1 hz2 rfl (by decide) (.slice (some ⟨q, 0, none⟩) 0 0) _ _ rfl oA ⟨g, off, none⟩ j _ (ocells (l.take j)) rfl hlt nA (oneR _) (by unfold maxLen; omega) (by omega) zA ?_; intro v3 w3 p3 g3 _; replace p3 := zaddR p3; obtain ⟨va, vc, rfl⟩ := shapeK3 p3; have zz3 := Nat.le_trans zA g3.size; have B3 := BA.grown g3 (by omega) (fun i hi => (by have : q = i := Option.some.inj hi; omega)); have n3 := newsKeep g3 neG nD; have R3 := rfGrew rA g3 neB (by omega)))
        all_goals
          have HQ : Hid (RQ 0 (l.eraseIdx j) w (.returned (.agg #[.int .i64 0, .slice ua (j + (l.length - (j + 1))) uc])) ((w5.setCell ⟨b, 0, none⟩ (.int .i64 0)).setCell ⟨b, 1, none⟩ (.slice ua (j + (l.length - (j + 1))) uc))) := by
            have o1 := p5.kept (grownSet w5 b 0 (.int .i64 0)) (blockCases _ _ fun i c1 c2 => by cases c2; have := (p5.lt _ c1).1; omega)
            have o2 := o1.kept (grownSet _ b 1 (.slice ua (j + (l.length - (j + 1))) uc)) (blockCases _ _ fun i c1 c2 => by cases c2; have := (p5.lt _ c1).1; omega)
            rw [HE.out]
            refine ⟨_, rfl, ?_, by rw [hb]; exact below_sets B5 (Nat.le_refl _) _ _⟩
            rw [ocells_app, List.length_append, List.length_take, List.length_drop, Nat.min_eq_left (Nat.le_of_lt hj)]
            exact ownMonoR o2 (by omega)
          clear p5 g5 p3 g3 B5 B3 R5 R3
          go_wp2
          refine bodyPost_ret (v := .agg #[.int .i64 0, .slice ua (j + (l.length - (j + 1))) uc]) (by simp [results, Try.results21, go_sem, d0, d1]) rfl ?_
          rw [HR.out.1, HR.out.2]
          exact HQ.out
      · have qcc : ¬ (c : Int) = (j : Int) + 1 := by omega
        have neG : some g ≠ (Value.slice (some ⟨q, 0, none⟩) 0 0).ownBlock := fun e => by
          have : g = q := Option.some.inj e
          omega
        have neB : some b ≠ (Value.slice (some ⟨q, 0, none⟩) 0 0).ownBlock := fun e => by
          have : b = q := Option.some.inj e
          omega
        go_wp2_with fail
        go_region_law (first
          | (refine stepApp rfl (.tmp 23) (.tmp 27) 24 rfl q 36 i0 (.agg #[.string ⟨#[]⟩, .string ⟨#[]⟩]) 2 32 Try.underlying24 hi hz0 hz1 hz2 rfl (by decide) (.slice va j vc) _ _ rfl p3 ⟨g, off + (j + 1) * 2, none⟩ (l.length - (j + 1)) _ (ocells (l.drop (j + 1))) rfl hld n3 (oneR _) (by unfold maxLen; omega) (by omega) zz3 ?_; intro v5 w5 p5 g5 _; obtain ⟨ua, uc, rfl⟩ := shapeK3 p5; have B5 := B3.grown g5 (by omega) (fun i hi => Nat.le_trans (by omega) (p3.lt i hi).1); have R5 := rfGrew R3 g5 (fun e => (by have := (p3.lt b e.symm).1; omega)) (by omega); have d0 := R5.at_ 0 _ rfl; have d1 := R5.at_ 1 _ rfl; have f0 := R5.fz 0; have f1 := R5.fz 1)
          | (refine stepApp rfl (.tmp 19) (.tmp 22) 24 rfl q 36 i0 (.agg #[.string ⟨#[]⟩, .string ⟨#[]⟩]) 2 32 Try.underlying24 hi hz0 hz1 hz2 rfl (by decide) (.slice (some ⟨q, 0, none⟩) 0 0) _ _ rfl oA ⟨g, off, none⟩ j _ (ocells (l.take j)) rfl hlt nA (oneR _) (by unfold maxLen; omega) (by omega) zA ?_; intro v3 w3 p3 g3 _; replace p3 := zaddR p3; obtain ⟨va, vc, rfl⟩ := shapeK3 p3; have zz3 := Nat.le_trans zA g3.size; have B3 := BA.grown g3 (by omega) (fun i hi => (by have : q = i := Option.some.inj hi; omega)); have n3 := newsKeep g3 neG nD; have R3 := rfGrew rA g3 neB (by omega)))
        all_goals
          have HQ : Hid (RQ 0 (l.eraseIdx j) w (.returned (.agg #[.int .i64 0, .slice ua (j + (l.length - (j + 1))) uc])) ((w5.setCell ⟨b, 0, none⟩ (.int .i64 0)).setCell ⟨b, 1, none⟩ (.slice ua (j + (l.length - (j + 1))) uc))) := by
            have o1 := p5.kept (grownSet w5 b 0 (.int .i64 0)) (blockCases _ _ fun i c1 c2 => by cases c2; have := (p5.lt _ c1).1; omega)
            have o2 := o1.kept (grownSet _ b 1 (.slice ua (j + (l.length - (j + 1))) uc)) (blockCases _ _ fun i c1 c2 => by cases c2; have := (p5.lt _ c1).1; omega)
            rw [HE.out]
            refine ⟨_, rfl, ?_, by rw [hb]; exact below_sets B5 (Nat.le_refl _) _ _⟩
            rw [ocells_app, List.length_append, List.length_take, List.length_drop, Nat.min_eq_left (Nat.le_of_lt hj)]
            exact ownMonoR o2 (by omega)
          clear p5 g5 p3 g3 B5 B3 R5 R3
          go_wp2
          refine bodyPost_ret (v := .agg #[.int .i64 0, .slice ua (j + (l.length - (j + 1))) uc]) (by simp [results, Try.results21, go_sem, d0, d1]) rfl ?_
          rw [HR.out.1, HR.out.2]
          exact HQ.out
  · have HR : Hid (fgC l p = rf l ∧ fgL l p = []) := ⟨by unfold fgC; rw [if_neg h0], by unfold fgL; rw [if_neg (fun c => h0 c.1)]⟩
    have q : (rf l != 0) = true := by simpa using h0
    obtain ⟨R, hRe⟩ : ∃ R, rf l = R := ⟨_, rfl⟩
    rw [hRe] at hR q HR
    clear h0 hRe
    go_enter Try.func21, Try.ntmps21
    go_wp2_with fail
    refine hR.mono ?_
    clear hR hW1
    rintro e w2 ⟨rfl, b2⟩
    have B2 : Below b w w2 := b1.trans (b2.mono (by omega))
    have r2 := r1.below (by omega) b2
    have d0 := r2.at_ 0 _ rfl
    have d1 := r2.at_ 1 _ rfl
    have f0 := r2.fz 0
    have f1 := r2.fz 1
    clear r2 r1 b2 b1 h1
    go_wp2
    refine bodyPost_ret (v := .agg #[.int .i64 R, .slice none 0 0]) (by simp [results, Try.results21, go_sem, d0, d1]) rfl ?_
    rw [HR.out.1, HR.out.2]
    exact rq0 (by rw [hb]; exact below_sets B2 (by omega) _ _)
end Go.Proofs.Ytibdlfojoafloaa.Ru
