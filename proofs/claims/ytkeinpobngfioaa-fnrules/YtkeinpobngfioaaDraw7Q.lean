/- The contract of the specification's l1Near over this seat's program. No statement is proved here. -/
import Derived.Test.YtkeinpobngfioaaRows
import Derived.Test.YtkeinpobngfioaaLemQ
import Derived.Test.YtkeinpobngfioaaMarksQ
import Derived.Test.YtkeinpobngfioaaDrawQ
import Derived.Test.YtkeinpobngfioaaDraw5Q
import Derived.Test.YtkeinpobngfioaaDTabQ
import Derived.WalkKit
import Derived.ProofKit
import Derived.Below
import Derived.WalkSpells
import Derived.Laws.Concat
import Derived.Maps.AppendAt
import Derived.Deep.RegionLaw
import Derived.Deep.QuietTactic
import Derived.BigQuiet
namespace Go.Proofs.Ytkeinpobngfioaa
open Go.ChangeShapes Go.WideShapes Go.ChangeAt Go.RowKit

theorem own_nn {W : World} {base : Nat} {e : TypeId} {v : Value} {k : Nat} {xs : List Value} (h : W.ownsRow base e 1 v k xs) (hn : ¬ v = .slice none 0 0) : ∃ g cap, v = .slice (some ⟨g, 0, none⟩) k cap := by
  rcases h.2 with ⟨h', _⟩ | ⟨g, cap, _, h', _⟩
  · exact absurd h' hn
  · exact ⟨g, cap, h'⟩
theorem rowNews {w : World} {base g n c : Nat} {ts : List ByteArray} (ho : w.ownsRow base 9 1 (.slice (some ⟨g, 0, none⟩) n c) n (ts.map Value.string)) (i m : Nat) :
    ∀ j u, (((ts.drop i).take m).map Value.string)[j]? = some u → w.cell? ((⟨g, i, none⟩ : Addr).add j) = some u := by
  intro j u hj
  have hl : ts.length = n := by have := ho.1; simpa using this
  have hjl : j < ((ts.drop i).take m).length := by have := (List.getElem?_eq_some_iff.1 hj).1; simpa using this
  have hjl' := hjl
  rw [List.length_take, List.length_drop] at hjl'
  rw [add_plain, ho.cellAt (i + j) (by omega), ← hj]
  rw [List.getElem?_map, List.getElem?_map, List.getElem?_take_of_lt (by omega), List.getElem?_drop]
theorem grown_drewN (w : World) (m : Nat) (row : Option Nat) : w.grownBy (w.drewN m) row := ⟨rfl, rfl, rfl, Nat.le_refl _, fun _ _ _ => rfl⟩
theorem ownCap {w : World} {base e s g n c : Nat} {xs : List Value} (h : w.ownsRow base e s (.slice (some ⟨g, 0, none⟩) n c) n xs) : n ≤ c := by
  rcases h.2 with ⟨h', _⟩ | ⟨g', cap, cur, h', _, _, h4⟩
  · cases h'
  · simp only [Value.slice.injEq] at h'
    obtain ⟨_, _, rfl⟩ := h'
    have := h4
    omega
theorem step_appD {P : Program} {ops : Array Oper} {o : Oper} {a : Act} {w : World} {K : Act → World → Prop} {Q : Exit → Act → World → Prop} {E : Prop}
    (hg : o.guard = none) (s x : Operand) (t : TypeId) (hop : o.op = Op.call { callee := Callee.builtin Builtin.append, args := #[s, x], argTypes := #[t, t] })
    (base : Nat) (e : TypeId) (i : TypeInfo) (z : Value) (size bytes : Nat) (ht : P.underlying t = some (.slice e)) (hi : P.info? e = some i) (hz : i.zero = some z)
    (hsize : i.size = size) (hby : i.bytes = bytes) (hzs : z.cells.size = size) (hsz : 0 < size)
    (v : Value) (n : Nat) (xs : List Value) (hs : a.eval s = v) (hown : w.ownsRow base e size v n xs)
    (ad : Addr) (m c : Nat) (news : List Value) (hx : a.eval x = .slice (some ad) m c) (hl : news.length = m * size) (hnews : ∀ j u, news[j]? = some u → w.cell? (ad.add j) = some u) (h1 : ∀ u ∈ news, u.oneCell' = true)
    (h63 : n + m ≤ maxLen) (hbytes : (n + m) * bytes ≤ 140737488355328) (hbase : base ≤ w.heap.size)
    (hK : ∀ v' w', w'.ownsRow base e size v' (n + m) (xs ++ news) → w.grownBy w' v.ownBlock → (v'.ownBlock = v.ownBlock ∨ v'.ownBlock = some w.heap.size) → K (a.put o.dst v') w') :
    if Region.wanted o (yielded ops a.tmps) = true then Oper.wp P o a w K Q else E := by
  have hw : Region.wanted o (yielded ops a.tmps) = true := by simp [Region.wanted, hg]
  rw [if_pos hw]
  obtain ⟨v', w', hr, h2, h3, h4, h5⟩ := run_append_own_at (P := P) w base t o.type e i z size bytes ht hi hz hsize hby hzs hsz v n xs hown ad m c news hl hnews h1 h63 hbytes hbase
  unfold Oper.wp
  simp only [execOp, hop, resolve, invoke, builtin, Sem.run_bind, Sem.run_pure, Result.andThen_ok, List.map_toArray, List.map_cons, List.map_nil, hs, hx, hr]
  exact hK v' w' h2 h3 h5
theorem own_blk {W : World} {base : Nat} {e : TypeId} {v : Value} {k : Nat} {xs : List Value} (h : W.ownsRow base e 1 v k xs) {j : Nat} (hj : v.ownBlock = some j) : ∃ g cap, v = .slice (some ⟨g, 0, none⟩) k cap := by
  rcases h.2 with ⟨h', _⟩ | ⟨g, cap, _, h', _⟩
  · rw [h'] at hj; cases hj
  · exact ⟨g, cap, h'⟩
theorem newsKept {w w' : World} {row : Option Nat} {news : List Value} {g i : Nat} (h : ∀ j u, news[j]? = some u → w.cell? ((⟨g, i, none⟩ : Addr).add j) = some u) (hg : w.grownBy w' row) (hne : some g ≠ row) : ∀ j u, news[j]? = some u → w'.cell? ((⟨g, i, none⟩ : Addr).add j) = some u := fun j u hj => by
  have := h j u hj
  rw [add_plain] at this ⊢
  exact hg.cell this hne
theorem step_call1 {ops : Array Oper} {o : Oper} {a : Act} {w : World} {K : Act → World → Prop} {Q : Exit → Act → World → Prop} {E : Prop}
    (hg : o.guard = none) (f : FuncId) (hf : ∀ vs w, (callFunc f vs).run Try.prog w = .ok (.enter f vs) w) (x1 : Operand) (ts : Array TypeId) (hop : o.op = Op.call { callee := Callee.value (Operand.func f), args := #[x1], argTypes := ts })
    (v1 : Value) (h1 : a.eval x1 = v1) {P : Ending → World → Prop} (hc : Calls Try.prog f #[v1] w P) (hK : ∀ e w', P e w' → ∃ v, e = .returned v ∧ K (a.put o.dst v) w') :
    if Region.wanted o (yielded ops a.tmps) = true then Oper.wp Try.prog o a w K Q else E := by
  have hw : Region.wanted o (yielded ops a.tmps) = true := by simp [Region.wanted, hg]
  rw [if_pos hw]
  have hrun : (execOp a.eval o).run Try.prog w = .ok (.enter f #[v1]) w := by
    simp [execOp, hop, resolve, invoke, go_sem, hf]
    cases x1 with | tmp t => simpa [Act.eval] using h1 | const v => exact h1 | global g => exact h1 | func f => exact h1
  unfold Oper.wp
  rw [hrun, Oper.upon_enter]
  refine hc.mono ?_
  intro e w' hp
  obtain ⟨v, rfl, hk⟩ := hK e w' hp
  exact hk
theorem enterWord : ∀ vs w, (callFunc 32 vs).run Try.prog w = .ok (.enter 32 vs) w := fun vs w => by
  have h1 : (Try.f32.name == "runtime.NumGoroutine") = false := by kernel_rfl
  have hb : Try.f32.body.isNone = false := by kernel_rfl
  have h2 : ¬ Try.f32.name = "runtime.NumGoroutine" := by simpa using h1
  have h3 : ¬ Try.f32.body = none := fun e => by rw [e] at hb; cases hb
  simp [callFunc, Try.func32, h2, h3]
/-- What a row that is being made lets stand: the source, the older blocks. -/
structure St (N b : Nat) (a : Option Addr) (n cap : Nat) (k : Int) (M : Nat) (w w5 : World) (v : Value) : Prop where
  src : Src N w5 b a n cap k
  gr : w.grownBy w5 (some b)
  sz : M ≤ w5.heap.size
  blk : ∃ j, v.ownBlock = some j ∧ M ≤ j
theorem St.app {N b : Nat} {a : Option Addr} {n cap : Nat} {k : Int} {M : Nat} {w w5 w6 : World} {v v' : Value} (h : St N b a n cap k M w w5 v) (hb : b < M) (hw : w.heap.size ≤ M) (g : w5.grownBy w6 v.ownBlock) (hk : v'.ownBlock = v.ownBlock ∨ v'.ownBlock = some w5.heap.size) : St N b a n cap k M w w6 v' := by
  obtain ⟨j, hj, hM⟩ := h.blk
  have hN := h.src.ge
  have hs := h.sz
  refine ⟨h.src.kept g (by rw [hj]; simp; omega) (fun i hi => by rw [hj] at hi; cases hi; omega), grown_new h.gr g (fun i hi => by rw [hj] at hi; cases hi; omega), Nat.le_trans hs g.size, ?_⟩
  rcases hk with hk | hk
  · exact ⟨j, hk.trans hj, hM⟩
  · exact ⟨_, hk, hs⟩
theorem St.lit {N b : Nat} {a : Option Addr} {n cap : Nat} {k : Int} {w w4 : World} (o : Obj) (hs : Src N w4 b a n cap k) (hg : w.grownBy w4 (some b)) : St N b a n cap k w4.heap.size w ((w4.alloc o).drew) (.slice (some ⟨w4.heap.size, 0, none⟩) 0 0) := by
  have g1 : w4.grownBy ((w4.alloc o).drew) (some b) := by
    have := World.grownBy_alloc w4 o (some b)
    exact ⟨this.os, this.tape, this.output, this.size, this.block⟩
  have g0 : w4.grownBy ((w4.alloc o).drew) none := by
    have := World.grownBy_alloc w4 o none
    exact ⟨this.os, this.tape, this.output, this.size, this.block⟩
  exact ⟨hs.kept g0 (by simp) (fun _ e => by cases e), grown_trans hg g1, by show _ ≤ (w4.alloc o).heap.size; simp, ⟨_, rfl, Nat.le_refl _⟩⟩
theorem St.call {N b : Nat} {a : Option Addr} {n cap : Nat} {k k' : Int} {M : Nat} {w w5 w6 : World} {v : Value} (h : St N b a n cap k M w w5 v) (hs : Src N w6 b a n cap k') (g : w5.grownBy w6 (some b)) : St N b a n cap k' M w w6 v :=
  ⟨hs, grown_trans h.gr g, Nat.le_trans h.sz g.size, h.blk⟩
theorem St.alloc {N b : Nat} {a : Option Addr} {n cap : Nat} {k : Int} {M : Nat} {w w5 : World} {v : Value} (h : St N b a n cap k M w w5 v) (o : Obj) : St N b a n cap k M w (w5.alloc o) v :=
  ⟨h.src.below ((Below.refl _ _).alloc (Nat.le_refl _) _), grown_trans h.gr (World.grownBy_alloc _ _ _), by simp; exact Nat.le_succ_of_le h.sz, h.blk⟩
theorem St.ne {N b : Nat} {a : Option Addr} {n cap : Nat} {k : Int} {M : Nat} {w w5 : World} {v : Value} (h : St N b a n cap k M w w5 v) (hb : b < M) : v.ownBlock = none ∨ v.ownBlock ≠ some b := by
  obtain ⟨j, hj, hM⟩ := h.blk
  exact .inr (by rw [hj]; simp; omega)
theorem St.own {N b : Nat} {a : Option Addr} {n cap : Nat} {k : Int} {M : Nat} {w w5 : World} {v : Value} (h : St N b a n cap k M w w5 v) {base : Nat} {e : TypeId} {m : Nat} {xs : List Value} (ho : w5.ownsRow base e 1 v m xs) : ∃ g cap, v = .slice (some ⟨g, 0, none⟩) m cap := by
  obtain ⟨j, hj, _⟩ := h.blk
  exact own_blk ho hj
def NearPostM (M N b : Nat) (a : Option Addr) (n cap : Nat) (k : Int) (w : World) (e : Ending) (w' : World) : Prop :=
  ∃ (ts : List ByteArray) (g c : Nat) (k' : Int), e = .returned (.slice (some ⟨g, 0, none⟩) ts.length c) ∧ ts.length ≤ M + 3 ∧ Small 9 ts ∧
      w'.ownsRow w.heap.size 9 1 (.slice (some ⟨g, 0, none⟩) ts.length c) ts.length (ts.map Value.string) ∧ Src N w' b a n cap k' ∧ k' ≤ k + 20 ∧ w.grownBy w' (some b)
/-- The lines ahead of i may have nine bytes, the others eight; none is empty. -/
def Sp (i : Nat) (ts : List ByteArray) : Prop := ∀ j x, ts[j]? = some x → 0 < x.size ∧ x.size ≤ (if j < i then 9 else 8)

set_option maxRecDepth 20000 in
set_option maxHeartbeats 4000000 in
theorem l1NearM (M : Nat) (hM : M ≤ 900) (N b base : Nat) (a : Option Addr) (n cap : Nat) (k : Int) (ss : List ByteArray) (g c : Nat) (w : World) (h : Src N w b a n cap k) (hk : k ≤ 1000000) (_ : b < base) (hl : ss.length ≤ M) (hsm : SmL 8 ss)
    (ho : w.ownsRow base 9 1 (.slice (some ⟨g, 0, none⟩) ss.length c) ss.length (ss.map Value.string)) :
    Calls Try.prog 40 #[.pointer (some ⟨b, 0, none⟩), .slice (some ⟨g, 0, none⟩) ss.length c] w fun e w' => NearPostM M N b a n cap k w e w' := by
  obtain ⟨i0, hi, hz0, hz1, hz2⟩ := info_parts infoString
  have hlt := h.lt
  have hge := h.ge
  have hgg := ho.lt g rfl
  have hcells : ∀ (o : Obj) (j : Nat) (u : Value), (ss.map Value.string)[j]? = some u → (w.alloc o).cell? ((⟨g, 0, none⟩ : Addr).add j) = some u := by
    intro o j u hj
    have hjl : j < ss.length := by have := (List.getElem?_eq_some_iff.1 hj).1; simpa using this
    rw [add_plain, Nat.zero_add, World.cell?_alloc_past _ _ _ hgg.2, ho.cellAt j (by omega)]
    exact hj
  go_enter Try.func40, Try.ntmps40
  go_wp2_with (at_builtin; refine wpList_append_own _ rfl (.tmp 10) (.tmp 11) 56 rfl w.heap.size 9 i0 (.string ByteArray.empty) 1 16 Try.underlying56 hi hz0 hz1 hz2 rfl (by decide) (.slice (some ⟨w.heap.size, 0, none⟩) 0 0) 0 [] rfl (World.ownsRow_lit w #[] 0 (Nat.le_refl _) (Nat.zero_le _) rfl) ⟨g, 0, none⟩ ss.length c (ss.map Value.string) rfl (by simp) (hcells _) (by simp [Value.oneCell']) (by unfold maxLen; omega) (by omega) (by simp) ?_; intro v1 w1 hown1 hg1 hnn; simp only [Nat.zero_add, List.nil_append] at hown1; obtain ⟨g1, c1, rfl⟩ := own_nn hown1 (fun e => by have := (hnn.1 e).1; simp at this); clear hnn)
  have hB : ∀ o, Below w.heap.size w (w.alloc o) := fun o => (Below.refl _ _).alloc (Nat.le_refl _) _
  have hgg1 := hown1.lt g1 rfl
  have S1 := hg1.size
  simp only [World.size_alloc] at S1
  have hsrc1 : Src N w1 b a n cap k := (h.below (hB _)).kept hg1 (by rw [ownBlock_slice]; simp; omega) (fun j hj => by rw [ownBlock_slice] at hj; cases hj; omega)
  have gr1 : w.grownBy w1 (some b) := grown_new (World.grownBy_alloc w _ (some b)) hg1 (fun j hj => by rw [ownBlock_slice] at hj; cases hj; omega)
  clear hg1 hcells
  refine (l1Next N b a n cap k 4 _ hsrc1 (by omega)).mono ?_; rintro e w2 ⟨r, rfl, hd, hsrc2, g2⟩
  have hd0 := hd.1
  have hd1 : r < 4 := hd.2.1 (by omega)
  obtain ⟨j0, rfl⟩ := Int.eq_ofNat_of_zero_le hd0
  have hown2 := hown1.kept g2 (.inr (by rw [ownBlock_slice]; simp; omega))
  have gr2 := grown_trans gr1 g2
  have S2 := g2.size
  clear hown1 gr1 g2 hd hsrc1 hd0
  go_wp2
  go_loopw [5, 6, 7, 8] (fun v i _n _i wr => ∃ (m : Nat) (ts : List ByteArray) (g c : Nat) (k' : Int), i = .int .i64 m ∧ v = .slice (some ⟨g, 0, none⟩) ts.length c ∧ ts.length + m ≤ M + 3 ∧ SmL 8 ts ∧
      wr.ownsRow w.heap.size 9 1 (.slice (some ⟨g, 0, none⟩) ts.length c) ts.length (ts.map Value.string) ∧ Src N wr b a n cap k' ∧ k' + 3 * m ≤ k + 10 ∧ w.grownBy wr (some b)) (fun _ i _ _ _ => (intOf i).toNat)
  case atStart => exact ⟨j0, ss, g1, c1, k + 1, rfl, rfl, by omega, hsm, hown2, hsrc2, by omega, gr2⟩
  case round =>
    clear hown2 hsrc2 gr2 hsm ho hgg hgg1 hl
    obtain ⟨m, ts, g, c, k', rfl, rfl, hm, hsm, hown, hsrc, hkm, hgr⟩ := hrel
    have hgg := hown.lt g rfl
    have hsz := hgr.size
    by_cases hpos : 0 < m
    · have hp : (0 : Int) < (m : Int) := by omega
      go_wp2_with fail
      refine (l1Next N b a n cap k' _ _ hsrc (by omega)).mono ?_; rintro e w3 ⟨r, rfl, hd, hsrc3, g3⟩
      have hd0 := hd.1
      have hd1 : r < (ts.length : Int) + 1 := hd.2.1 (by omega)
      obtain ⟨i, rfl⟩ := Int.eq_ofNat_of_zero_le hd0
      have hown3 := hown.kept g3 (.inr (by rw [ownBlock_slice]; simp; omega))
      have gr3 := grown_trans hgr g3
      have S3 := g3.size
      clear hown hgr g3 hd hsrc hd0
      go_wp2_with fail
      refine (l1Next N b a n cap (k' + 1) 4 _ hsrc3 (by omega)).mono ?_; rintro e w4 ⟨r, rfl, hd, hsrc4, g4⟩
      have hd0 := hd.1
      have hd2 : r < 4 := hd.2.1 (by omega)
      have hown4 := hown3.kept g4 (.inr (by rw [ownBlock_slice]; simp; omega))
      have gr4 := grown_trans gr3 g4
      have S4 := g4.size
      clear hown3 gr3 g4 hd hsrc3
      have hiI : (i : Int) ≤ (ts.length : Int) := by omega
      have hiN : i ≤ ts.length := by omega
      have h4 : r = 0 ∨ r = 1 ∨ r = 2 ∨ r = 3 := by omega
      clear hd0 hd2 hd1
      rcases h4 with rfl | rfl | rfl | rfl
      · by_cases hlt2 : i < ts.length
        · have q : (i : Int) < (ts.length : Int) := by omega
          have hcp := ownCap hown4
          have hN1 := rowNews (hown4.alloc (.cells #[] 9)).drew 0 i
          have hl1 : ((((ts.drop 0).take i).map Value.string).length = i * 1) := by simp; omega
          have hbw : w.heap.size ≤ w4.heap.size := by omega
          obtain ⟨i1, hi1⟩ : ∃ i1, i + 1 = i1 := ⟨_, rfl⟩
          have hw1 : IntKind.i64.wrap ((i : Int) + 1) = (i1 : Int) := by rw [IntKind.wrap_i64]; omega
          have u1 : (i : Int) ≤ (c : Int) := by omega
          have u2 : (i1 : Int) ≤ (ts.length : Int) := by omega
          have u3 : (ts.length : Int) ≤ (c : Int) := by omega
          have hN2 := rowNews (hown4.alloc (.cells #[] 9)).drew i1 (ts.length - i1)
          have hl2 : ((((ts.drop i1).take (ts.length - i1)).map Value.string).length = (ts.length - i1) * 1) := by simp
          by_cases hc : c = i1
          · subst hc
            have T4 := St.lit (.cells #[] 9) hsrc4 gr4
            have hD : SmL 8 ((ts.drop 0).take i) := (hsm.drop _).take _
            have hDl : ((ts.drop 0).take i).length = i := by simp; omega
            have HDl : Hid (_ = _) := hDl
            clear hN2 hl2
            go_wp2
            go_region_law (first | (refine step_appD rfl (.tmp 32) (.tmp 35) 56 rfl w.heap.size 9 i0 (.string ByteArray.empty) 1 16 Try.underlying56 hi hz0 hz1 hz2 rfl (by decide) (.slice (some ⟨w4.heap.size, 0, none⟩) 0 0) 0 [] rfl ((World.ownsRow_lit w4 #[] 0 hbw (Nat.zero_le _) rfl).drew) ⟨g, 0, none⟩ i c _ rfl hl1 hN1 (oneStr _) (by unfold maxLen; omega) (by omega) (by show _ ≤ (w4.alloc _).heap.size; simp; omega) ?_; intro v5 w5 o5 g5 k5; have T5 := T4.app (by omega) hbw g5 k5; have z5 := T5.sz) | (refine step_appD rfl (.tmp 36) (.tmp 40) 56 rfl w.heap.size 9 i0 (.string ByteArray.empty) 1 16 Try.underlying56 hi hz0 hz1 hz2 rfl (by decide) _ _ _ rfl o5 ⟨g, 0, none⟩ 0 _ [] rfl rfl (fun j u hj => by simp at hj) (fun u hu => by cases hu) (by unfold maxLen; omega) (by omega) (by omega) ?_; intro v6 w6 o6 g6 k6; have T6 := T5.app (by omega) hbw g6 k6; obtain ⟨g7, c7, rfl⟩ := T6.own o6))
            all_goals
              have o7 := o6
              rw [List.nil_append, List.append_nil, Nat.add_zero, Nat.zero_add] at o7
              have O7 : Hid (World.ownsRow _ _ _ _ _ _ _) := o7
              clear o5 o6 o7 g5 g6 k5 k6 T5 hN1 T4
              go_wp2
              go_roundw
              case rel => exact ⟨m - 1, (ts.drop 0).take i, g7, c7, k' + 1 + 1, by go_num, by rw [HDl.out]; try rfl, by rw [HDl.out]; omega, hD, by rw [HDl.out]; exact O7.out, T6.src, by omega, T6.gr⟩
              case measure => simp [intOf]; omega
          · have hc0 : ¬ c - i1 = 0 := by omega
            have T4 := St.lit (.cells #[] 9) hsrc4 gr4
            have hD : SmL 8 ((ts.drop 0).take i ++ (ts.drop i1).take (ts.length - i1)) := ((hsm.drop _).take _).app ((hsm.drop _).take _)
            have hDl : ((ts.drop 0).take i ++ (ts.drop i1).take (ts.length - i1)).length = 0 + i + (ts.length - i1) := by simp; omega
            have HDl : Hid (_ = _) := hDl
            go_wp2
            go_region_law (first | (refine step_appD rfl (.tmp 32) (.tmp 35) 56 rfl w.heap.size 9 i0 (.string ByteArray.empty) 1 16 Try.underlying56 hi hz0 hz1 hz2 rfl (by decide) (.slice (some ⟨w4.heap.size, 0, none⟩) 0 0) 0 [] rfl ((World.ownsRow_lit w4 #[] 0 hbw (Nat.zero_le _) rfl).drew) ⟨g, 0, none⟩ i c _ rfl hl1 hN1 (oneStr _) (by unfold maxLen; omega) (by omega) (by show _ ≤ (w4.alloc _).heap.size; simp; omega) ?_; intro v5 w5 o5 g5 k5; have T5 := T4.app (by omega) hbw g5 k5; have N5 := newsKept hN2 g5 (by rw [ownBlock_slice]; simp; omega); have z5 := T5.sz) | (refine step_appD rfl (.tmp 36) (.tmp 40) 56 rfl w.heap.size 9 i0 (.string ByteArray.empty) 1 16 Try.underlying56 hi hz0 hz1 hz2 rfl (by decide) _ _ _ rfl o5 ⟨g, i1, none⟩ (ts.length - i1) _ _ rfl hl2 N5 (oneStr _) (by unfold maxLen; omega) (by omega) (by omega) ?_; intro v6 w6 o6 g6 k6; have T6 := T5.app (by omega) hbw g6 k6; obtain ⟨g7, c7, rfl⟩ := T6.own o6))
            all_goals
              have o7 := o6
              rw [List.nil_append, ← List.map_append, ← HDl.out] at o7
              have O7 : Hid (World.ownsRow _ _ _ _ _ _ _) := o7
              clear o5 o6 o7 g5 g6 k5 k6 N5 T5 hN1 hN2 T4
              go_wp2
              go_roundw
              case rel => exact ⟨m - 1, (ts.drop 0).take i ++ (ts.drop i1).take (ts.length - i1), g7, c7, k' + 1 + 1, by go_num, by rw [HDl.out, Nat.zero_add], by rw [HDl.out]; omega, hD, O7.out, T6.src, by omega, T6.gr⟩
              case measure => simp [intOf]; omega
        · have q : ¬ (i : Int) < (ts.length : Int) := by omega
          go_wp2
          go_roundw
          case rel => exact ⟨m - 1, ts, g, c, k' + 1 + 1, by go_num, rfl, by omega, hsm, hown4, hsrc4, by omega, gr4⟩
          case measure => simp [intOf]; omega
-- INSERTED
      · have hcp := ownCap hown4
        have hN1 := rowNews (hown4.alloc (.cells #[] 9)).drew 0 i
        have hl1 : ((((ts.drop 0).take i).map Value.string).length = i * 1) := by simp; omega
        have hbw : w.heap.size ≤ w4.heap.size := by omega
        have u1 : (i : Int) ≤ (c : Int) := by omega
        have u3 : (ts.length : Int) ≤ (c : Int) := by omega
        have hN2 := rowNews (hown4.alloc (.cells #[] 9)).drew i (ts.length - i)
        have hl2 : ((((ts.drop i).take (ts.length - i)).map Value.string).length = (ts.length - i) * 1) := by simp
        have T4 := St.lit (.cells #[] 9) hsrc4 gr4
        have hgb : some g ≠ some b := by simp; omega
        have hk3 : k' + 1 + 1 ≤ 4294967296 := by omega
        by_cases hc : c = i
        · subst hc
          clear hN2 hl2
          go_wp2
          go_region_law (first | (refine step_appD rfl (.tmp 45) (.tmp 48) 56 rfl w.heap.size 9 i0 (.string ByteArray.empty) 1 16 Try.underlying56 hi hz0 hz1 hz2 rfl (by decide) (.slice (some ⟨w4.heap.size, 0, none⟩) 0 0) 0 [] rfl ((World.ownsRow_lit w4 #[] 0 hbw (Nat.zero_le _) rfl).drew) ⟨g, 0, none⟩ c c _ rfl hl1 hN1 (oneStr _) (by unfold maxLen; omega) (by omega) (by show _ ≤ (w4.alloc _).heap.size; simp; omega) ?_; intro v5 w5 o5 g5 k5; have T5 := T4.app (by omega) hbw g5 k5; have z5 := T5.sz) | (refine step_call1 rfl 32 enterWord (.tmp 50) _ rfl _ rfl (l1Word N b a n cap (k' + 1 + 1) _ T5.src hk3) ?_; rintro e w6 ⟨x, rfl, hx, hs6, g6⟩; refine ⟨_, rfl, ?_⟩; have T6 := T5.call hs6 g6; have o6 := o5.kept g6 (T5.ne (by omega)); have z6 := T6.sz; have hx9 : ¬ 9223372036854775807 < x.size + 1 := (by omega); have hx8 : ¬ 9223372036854775807 < x.size + (⟨#[10]⟩ : ByteArray).size := hx9) | (refine step_appD rfl (.tmp 49) (.tmp 53) 56 rfl w.heap.size 9 i0 (.string ByteArray.empty) 1 16 Try.underlying56 hi hz0 hz1 hz2 rfl (by decide) v5 _ _ rfl (o6.alloc _) ⟨w6.heap.size, 0, none⟩ 1 1 [.string (x ++ ⟨#[10]⟩)] rfl rfl (cell_one_new w6 _ _) (by simp [Value.oneCell']) (by unfold maxLen; omega) (by omega) (by simp; omega) ?_; intro v7 w7 o7 g7 k7; have T7 := (T6.alloc _).app (by omega) hbw g7 k7; have z7 := T7.sz) | (refine step_appD rfl (.tmp 54) (.tmp 57) 56 rfl w.heap.size 9 i0 (.string ByteArray.empty) 1 16 Try.underlying56 hi hz0 hz1 hz2 rfl (by decide) v7 _ _ rfl o7 ⟨g, 0, none⟩ 0 _ [] rfl rfl (fun j u hj => by simp at hj) (fun u hu => by cases hu) (by unfold maxLen; omega) (by omega) (by omega) ?_; intro v8 w8 o8 g8 k8; have T8 := T7.app (by omega) hbw g8 k8; obtain ⟨g9, c9, rfl⟩ := T8.own o8))
          all_goals
            have hyy : (x ++ (⟨#[10]⟩ : ByteArray)).size = x.size + 1 := by rw [ByteArray.size_append]; rfl
            have hD : SmL 8 ((ts.drop 0).take c ++ [x ++ (⟨#[10]⟩ : ByteArray)]) := ((hsm.drop _).take _).snoc ⟨by rw [hyy]; omega, by rw [hyy]; omega⟩
            have HDl : Hid (((ts.drop 0).take c ++ [x ++ (⟨#[10]⟩ : ByteArray)]).length = 0 + c + 1) := by show _ = _; simp; try omega
            have O9 : Hid (w8.ownsRow w.heap.size 9 1 (.slice (some ⟨g9, 0, none⟩) ((ts.drop 0).take c ++ [x ++ (⟨#[10]⟩ : ByteArray)]).length c9) ((ts.drop 0).take c ++ [x ++ (⟨#[10]⟩ : ByteArray)]).length (((ts.drop 0).take c ++ [x ++ (⟨#[10]⟩ : ByteArray)]).map Value.string)) := by
              show World.ownsRow _ _ _ _ _ _ _
              rw [HDl.out]
              have := o8
              simp only [List.nil_append, List.append_nil, Nat.add_zero, Nat.zero_add] at this ⊢
              simpa using this
            clear o5 o6 o7 o8 g5 g6 g7 g8 k5 k7 k8 T5 T6 T7 T4 hN1 hs6
            go_wp2
            go_roundw
            case rel => exact ⟨m - 1, (ts.drop 0).take c ++ [x ++ (⟨#[10]⟩ : ByteArray)], g9, c9, k' + 1 + 1 + 1, by go_num, by rw [HDl.out]; simp, by rw [HDl.out]; omega, hD, O9.out, T8.src, by omega, T8.gr⟩
            case measure => simp [intOf]; omega
        · have hc0 : ¬ c - i = 0 := by omega
          go_wp2
          go_region_law (first | (refine step_appD rfl (.tmp 45) (.tmp 48) 56 rfl w.heap.size 9 i0 (.string ByteArray.empty) 1 16 Try.underlying56 hi hz0 hz1 hz2 rfl (by decide) (.slice (some ⟨w4.heap.size, 0, none⟩) 0 0) 0 [] rfl ((World.ownsRow_lit w4 #[] 0 hbw (Nat.zero_le _) rfl).drew) ⟨g, 0, none⟩ i c _ rfl hl1 hN1 (oneStr _) (by unfold maxLen; omega) (by omega) (by show _ ≤ (w4.alloc _).heap.size; simp; omega) ?_; intro v5 w5 o5 g5 k5; have T5 := T4.app (by omega) hbw g5 k5; have z5 := T5.sz; have N5 := newsKept hN2 g5 (by rw [ownBlock_slice]; simp; omega)) | (refine step_call1 rfl 32 enterWord (.tmp 50) _ rfl _ rfl (l1Word N b a n cap (k' + 1 + 1) _ T5.src hk3) ?_; rintro e w6 ⟨x, rfl, hx, hs6, g6⟩; refine ⟨_, rfl, ?_⟩; have T6 := T5.call hs6 g6; have o6 := o5.kept g6 (T5.ne (by omega)); have z6 := T6.sz; have hx9 : ¬ 9223372036854775807 < x.size + 1 := (by omega); have hx8 : ¬ 9223372036854775807 < x.size + (⟨#[10]⟩ : ByteArray).size := hx9; have N6 := newsKept N5 g6 hgb) | (refine step_appD rfl (.tmp 49) (.tmp 53) 56 rfl w.heap.size 9 i0 (.string ByteArray.empty) 1 16 Try.underlying56 hi hz0 hz1 hz2 rfl (by decide) v5 _ _ rfl (o6.alloc _) ⟨w6.heap.size, 0, none⟩ 1 1 [.string (x ++ ⟨#[10]⟩)] rfl rfl (cell_one_new w6 _ _) (by simp [Value.oneCell']) (by unfold maxLen; omega) (by omega) (by simp; omega) ?_; intro v7 w7 o7 g7 k7; have T7 := (T6.alloc _).app (by omega) hbw g7 k7; have z7 := T7.sz; have N7 := newsKept (newsKept N6 (World.grownBy_alloc w6 _ none) (by simp)) g7 (by obtain ⟨j, hj, hM⟩ := T6.blk; rw [hj]; simp; omega)) | (refine step_appD rfl (.tmp 54) (.tmp 57) 56 rfl w.heap.size 9 i0 (.string ByteArray.empty) 1 16 Try.underlying56 hi hz0 hz1 hz2 rfl (by decide) v7 _ _ rfl o7 ⟨g, i, none⟩ (ts.length - i) _ _ rfl hl2 N7 (oneStr _) (by unfold maxLen; omega) (by omega) (by omega) ?_; intro v8 w8 o8 g8 k8; have T8 := T7.app (by omega) hbw g8 k8; obtain ⟨g9, c9, rfl⟩ := T8.own o8))
          all_goals
            have hyy : (x ++ (⟨#[10]⟩ : ByteArray)).size = x.size + 1 := by rw [ByteArray.size_append]; rfl
            have hD : SmL 8 ((ts.drop 0).take i ++ [x ++ (⟨#[10]⟩ : ByteArray)] ++ (ts.drop i).take (ts.length - i)) := (((hsm.drop _).take _).snoc ⟨by rw [hyy]; omega, by rw [hyy]; omega⟩).app ((hsm.drop _).take _)
            have HDl : Hid (((ts.drop 0).take i ++ [x ++ (⟨#[10]⟩ : ByteArray)] ++ (ts.drop i).take (ts.length - i)).length = 0 + i + 1 + (ts.length - i)) := by show _ = _; simp; try omega
            have O9 : Hid (w8.ownsRow w.heap.size 9 1 (.slice (some ⟨g9, 0, none⟩) ((ts.drop 0).take i ++ [x ++ (⟨#[10]⟩ : ByteArray)] ++ (ts.drop i).take (ts.length - i)).length c9) ((ts.drop 0).take i ++ [x ++ (⟨#[10]⟩ : ByteArray)] ++ (ts.drop i).take (ts.length - i)).length (((ts.drop 0).take i ++ [x ++ (⟨#[10]⟩ : ByteArray)] ++ (ts.drop i).take (ts.length - i)).map Value.string)) := by
              show World.ownsRow _ _ _ _ _ _ _
              rw [HDl.out]
              have := o8
              simp only [List.nil_append, Nat.zero_add] at this ⊢
              simpa using this
            clear o5 o6 o7 o8 g5 g6 g7 g8 k5 k7 k8 T5 T6 T7 T4 hN1 hs6 N5 N6 N7 hN2
            go_wp2
            go_roundw
            case rel => exact ⟨m - 1, (ts.drop 0).take i ++ [x ++ (⟨#[10]⟩ : ByteArray)] ++ (ts.drop i).take (ts.length - i), g9, c9, k' + 1 + 1 + 1, by go_num, by rw [HDl.out]; simp, by rw [HDl.out]; omega, hD, O9.out, T8.src, by omega, T8.gr⟩
            case measure => simp [intOf]; omega
      · have hcp := ownCap hown4
        have hN1 := rowNews (hown4.alloc (.cells #[] 9)).drew 0 i
        have hl1 : ((((ts.drop 0).take i).map Value.string).length = i * 1) := by simp; omega
        have hbw : w.heap.size ≤ w4.heap.size := by omega
        have u1 : (i : Int) ≤ (c : Int) := by omega
        have u3 : (ts.length : Int) ≤ (c : Int) := by omega
        have hN2 := rowNews (hown4.alloc (.cells #[] 9)).drew i (ts.length - i)
        have hl2 : ((((ts.drop i).take (ts.length - i)).map Value.string).length = (ts.length - i) * 1) := by simp
        have T4 := St.lit (.cells #[] 9) hsrc4 gr4
        have hgb : some g ≠ some b := by simp; omega
        have hk3 : k' + 1 + 1 ≤ 4294967296 := by omega
        by_cases hc : c = i
        · subst hc
          clear hN2 hl2
          go_wp2
          go_region_law (first | (refine step_appD rfl (.tmp 45) (.tmp 48) 56 rfl w.heap.size 9 i0 (.string ByteArray.empty) 1 16 Try.underlying56 hi hz0 hz1 hz2 rfl (by decide) (.slice (some ⟨w4.heap.size, 0, none⟩) 0 0) 0 [] rfl ((World.ownsRow_lit w4 #[] 0 hbw (Nat.zero_le _) rfl).drew) ⟨g, 0, none⟩ c c _ rfl hl1 hN1 (oneStr _) (by unfold maxLen; omega) (by omega) (by show _ ≤ (w4.alloc _).heap.size; simp; omega) ?_; intro v5 w5 o5 g5 k5; have T5 := T4.app (by omega) hbw g5 k5; have z5 := T5.sz) | (refine step_call1 rfl 32 enterWord (.tmp 50) _ rfl _ rfl (l1Word N b a n cap (k' + 1 + 1) _ T5.src hk3) ?_; rintro e w6 ⟨x, rfl, hx, hs6, g6⟩; refine ⟨_, rfl, ?_⟩; have T6 := T5.call hs6 g6; have o6 := o5.kept g6 (T5.ne (by omega)); have z6 := T6.sz; have hx9 : ¬ 9223372036854775807 < x.size + 1 := (by omega); have hx8 : ¬ 9223372036854775807 < x.size + (⟨#[10]⟩ : ByteArray).size := hx9) | (refine step_appD rfl (.tmp 49) (.tmp 53) 56 rfl w.heap.size 9 i0 (.string ByteArray.empty) 1 16 Try.underlying56 hi hz0 hz1 hz2 rfl (by decide) v5 _ _ rfl (o6.alloc _) ⟨w6.heap.size, 0, none⟩ 1 1 [.string (x ++ ⟨#[10]⟩)] rfl rfl (cell_one_new w6 _ _) (by simp [Value.oneCell']) (by unfold maxLen; omega) (by omega) (by simp; omega) ?_; intro v7 w7 o7 g7 k7; have T7 := (T6.alloc _).app (by omega) hbw g7 k7; have z7 := T7.sz) | (refine step_appD rfl (.tmp 54) (.tmp 57) 56 rfl w.heap.size 9 i0 (.string ByteArray.empty) 1 16 Try.underlying56 hi hz0 hz1 hz2 rfl (by decide) v7 _ _ rfl o7 ⟨g, 0, none⟩ 0 _ [] rfl rfl (fun j u hj => by simp at hj) (fun u hu => by cases hu) (by unfold maxLen; omega) (by omega) (by omega) ?_; intro v8 w8 o8 g8 k8; have T8 := T7.app (by omega) hbw g8 k8; obtain ⟨g9, c9, rfl⟩ := T8.own o8))
          all_goals
            have hyy : (x ++ (⟨#[10]⟩ : ByteArray)).size = x.size + 1 := by rw [ByteArray.size_append]; rfl
            have hD : SmL 8 ((ts.drop 0).take c ++ [x ++ (⟨#[10]⟩ : ByteArray)]) := ((hsm.drop _).take _).snoc ⟨by rw [hyy]; omega, by rw [hyy]; omega⟩
            have HDl : Hid (((ts.drop 0).take c ++ [x ++ (⟨#[10]⟩ : ByteArray)]).length = 0 + c + 1) := by show _ = _; simp; try omega
            have O9 : Hid (w8.ownsRow w.heap.size 9 1 (.slice (some ⟨g9, 0, none⟩) ((ts.drop 0).take c ++ [x ++ (⟨#[10]⟩ : ByteArray)]).length c9) ((ts.drop 0).take c ++ [x ++ (⟨#[10]⟩ : ByteArray)]).length (((ts.drop 0).take c ++ [x ++ (⟨#[10]⟩ : ByteArray)]).map Value.string)) := by
              show World.ownsRow _ _ _ _ _ _ _
              rw [HDl.out]
              have := o8
              simp only [List.nil_append, List.append_nil, Nat.add_zero, Nat.zero_add] at this ⊢
              simpa using this
            clear o5 o6 o7 o8 g5 g6 g7 g8 k5 k7 k8 T5 T6 T7 T4 hN1 hs6
            go_wp2
            go_roundw
            case rel => exact ⟨m - 1, (ts.drop 0).take c ++ [x ++ (⟨#[10]⟩ : ByteArray)], g9, c9, k' + 1 + 1 + 1, by go_num, by rw [HDl.out]; simp, by rw [HDl.out]; omega, hD, O9.out, T8.src, by omega, T8.gr⟩
            case measure => simp [intOf]; omega
        · have hc0 : ¬ c - i = 0 := by omega
          go_wp2
          go_region_law (first | (refine step_appD rfl (.tmp 45) (.tmp 48) 56 rfl w.heap.size 9 i0 (.string ByteArray.empty) 1 16 Try.underlying56 hi hz0 hz1 hz2 rfl (by decide) (.slice (some ⟨w4.heap.size, 0, none⟩) 0 0) 0 [] rfl ((World.ownsRow_lit w4 #[] 0 hbw (Nat.zero_le _) rfl).drew) ⟨g, 0, none⟩ i c _ rfl hl1 hN1 (oneStr _) (by unfold maxLen; omega) (by omega) (by show _ ≤ (w4.alloc _).heap.size; simp; omega) ?_; intro v5 w5 o5 g5 k5; have T5 := T4.app (by omega) hbw g5 k5; have z5 := T5.sz; have N5 := newsKept hN2 g5 (by rw [ownBlock_slice]; simp; omega)) | (refine step_call1 rfl 32 enterWord (.tmp 50) _ rfl _ rfl (l1Word N b a n cap (k' + 1 + 1) _ T5.src hk3) ?_; rintro e w6 ⟨x, rfl, hx, hs6, g6⟩; refine ⟨_, rfl, ?_⟩; have T6 := T5.call hs6 g6; have o6 := o5.kept g6 (T5.ne (by omega)); have z6 := T6.sz; have hx9 : ¬ 9223372036854775807 < x.size + 1 := (by omega); have hx8 : ¬ 9223372036854775807 < x.size + (⟨#[10]⟩ : ByteArray).size := hx9; have N6 := newsKept N5 g6 hgb) | (refine step_appD rfl (.tmp 49) (.tmp 53) 56 rfl w.heap.size 9 i0 (.string ByteArray.empty) 1 16 Try.underlying56 hi hz0 hz1 hz2 rfl (by decide) v5 _ _ rfl (o6.alloc _) ⟨w6.heap.size, 0, none⟩ 1 1 [.string (x ++ ⟨#[10]⟩)] rfl rfl (cell_one_new w6 _ _) (by simp [Value.oneCell']) (by unfold maxLen; omega) (by omega) (by simp; omega) ?_; intro v7 w7 o7 g7 k7; have T7 := (T6.alloc _).app (by omega) hbw g7 k7; have z7 := T7.sz; have N7 := newsKept (newsKept N6 (World.grownBy_alloc w6 _ none) (by simp)) g7 (by obtain ⟨j, hj, hM⟩ := T6.blk; rw [hj]; simp; omega)) | (refine step_appD rfl (.tmp 54) (.tmp 57) 56 rfl w.heap.size 9 i0 (.string ByteArray.empty) 1 16 Try.underlying56 hi hz0 hz1 hz2 rfl (by decide) v7 _ _ rfl o7 ⟨g, i, none⟩ (ts.length - i) _ _ rfl hl2 N7 (oneStr _) (by unfold maxLen; omega) (by omega) (by omega) ?_; intro v8 w8 o8 g8 k8; have T8 := T7.app (by omega) hbw g8 k8; obtain ⟨g9, c9, rfl⟩ := T8.own o8))
          all_goals
            have hyy : (x ++ (⟨#[10]⟩ : ByteArray)).size = x.size + 1 := by rw [ByteArray.size_append]; rfl
            have hD : SmL 8 ((ts.drop 0).take i ++ [x ++ (⟨#[10]⟩ : ByteArray)] ++ (ts.drop i).take (ts.length - i)) := (((hsm.drop _).take _).snoc ⟨by rw [hyy]; omega, by rw [hyy]; omega⟩).app ((hsm.drop _).take _)
            have HDl : Hid (((ts.drop 0).take i ++ [x ++ (⟨#[10]⟩ : ByteArray)] ++ (ts.drop i).take (ts.length - i)).length = 0 + i + 1 + (ts.length - i)) := by show _ = _; simp; try omega
            have O9 : Hid (w8.ownsRow w.heap.size 9 1 (.slice (some ⟨g9, 0, none⟩) ((ts.drop 0).take i ++ [x ++ (⟨#[10]⟩ : ByteArray)] ++ (ts.drop i).take (ts.length - i)).length c9) ((ts.drop 0).take i ++ [x ++ (⟨#[10]⟩ : ByteArray)] ++ (ts.drop i).take (ts.length - i)).length (((ts.drop 0).take i ++ [x ++ (⟨#[10]⟩ : ByteArray)] ++ (ts.drop i).take (ts.length - i)).map Value.string)) := by
              show World.ownsRow _ _ _ _ _ _ _
              rw [HDl.out]
              have := o8
              simp only [List.nil_append, Nat.zero_add] at this ⊢
              simpa using this
            clear o5 o6 o7 o8 g5 g6 g7 g8 k5 k7 k8 T5 T6 T7 T4 hN1 hs6 N5 N6 N7 hN2
            go_wp2
            go_roundw
            case rel => exact ⟨m - 1, (ts.drop 0).take i ++ [x ++ (⟨#[10]⟩ : ByteArray)] ++ (ts.drop i).take (ts.length - i), g9, c9, k' + 1 + 1 + 1, by go_num, by rw [HDl.out]; simp, by rw [HDl.out]; omega, hD, O9.out, T8.src, by omega, T8.gr⟩
            case measure => simp [intOf]; omega
-- DONE
      · by_cases hlt2 : i < ts.length
        · have q : (i : Int) < (ts.length : Int) := by omega
          go_wp2_with fail
          refine (l1Word N b a n cap (k' + 1 + 1) _ hsrc4 (by omega)).mono ?_; rintro e w5 ⟨x, rfl, hx, hsrc5, g5⟩
          have hown5 := hown4.kept g5 (.inr (by rw [ownBlock_slice]; simp; omega))
          have gr5 := grown_trans gr4 g5
          have S5 := g5.size
          have hxs : (x ++ (⟨#[10]⟩ : ByteArray)).size = x.size + 1 := by rw [ByteArray.size_append]; rfl
          obtain ⟨y, hy⟩ : ∃ y, x ++ (⟨#[10]⟩ : ByteArray) = y := ⟨_, rfl⟩
          rw [hy] at hxs
          have hy8 : y.size ≤ 8 ∧ 0 < y.size := by omega
          have hx9 : x.size + (⟨#[10]⟩ : ByteArray).size ≤ 9223372036854775807 := by have : (⟨#[10]⟩ : ByteArray).size = 1 := rfl
                                                                                     omega
          have hfz := hown5.frozenAt i
          obtain ⟨u0, hold⟩ : ∃ u, w5.cell? ⟨g, i, none⟩ = some u := ⟨_, (hown5.cellAt i (by omega)).trans (List.getElem?_eq_getElem (by simp; omega))⟩
          obtain ⟨hs1, hs2⟩ := hown5.stored i (.string y)
          rw [map_set] at hs1
          have hs3 : Hid ((w5.setCell ⟨g, i, none⟩ (.string y)).ownsRow w.heap.size 9 1 (.slice (some ⟨g, 0, none⟩) (ts.set i y).length c) (ts.set i y).length ((ts.set i y).map Value.string)) := by show World.ownsRow _ _ _ _ _ _ _; simpa using hs1
          have gr6 : Hid (w.grownBy (w5.setCell ⟨g, i, none⟩ (.string y)) (some b)) := grown_new gr5 hs2 (fun j hj => by cases hj; omega)
          have hsrc6 : Hid (Src N (w5.setCell ⟨g, i, none⟩ (.string y)) b a n cap (k' + 1 + 1 + 1)) := hsrc5.kept hs2 (by simp; omega) (fun j hj => by cases hj; omega)
          clear hxs hown4 hown5 hs1 hs2 gr5 gr4 hsrc4 hsrc5 g5
          go_wp2_with fail
          go_roundw
          case rel => exact ⟨m - 1, ts.set i y, g, c, k' + 1 + 1 + 1, by go_num, by simp, by simp; omega, hsm.set hy8 i, hs3.out, hsrc6.out, by omega, gr6.out⟩
          case measure => simp [intOf]; omega
        · have q : ¬ (i : Int) < (ts.length : Int) := by omega
          go_wp2
          go_roundw
          case rel => exact ⟨m - 1, ts, g, c, k' + 1 + 1, by go_num, rfl, by omega, hsm, hown4, hsrc4, by omega, gr4⟩
          case measure => simp [intOf]; omega
-- SECOND
    · have hp : ¬ (0 : Int) < (m : Int) := by omega
      have hl3 : ts.length ≤ M + 3 := by omega
      have hSp : Sp 0 ts := fun j x hj => by
        have := hsm x (List.mem_of_getElem? hj)
        rw [if_neg (by omega)]
        exact ⟨this.2, this.1⟩
      obtain ⟨n0, hn0⟩ : ∃ n0, ts.length = n0 := ⟨_, rfl⟩
      rw [hn0] at hown hl3 ⊢
      have HN0 : Hid (ts.length = n0) := hn0
      clear hn0 hsm hm
      go_wp2
      go_loopw [9] (fun i wr => ∃ (q : Nat) (us : List ByteArray), i = .int .i64 q ∧ q ≤ n0 ∧ Hid (us.length = n0) ∧ Hid (Sp q us) ∧ wr.ownsRow w.heap.size 9 1 (.slice (some ⟨g, 0, none⟩) n0 c) n0 (us.map Value.string) ∧ Src N wr b a n cap k' ∧ w.grownBy wr (some b)) (fun i _ => n0 - (intOf i).toNat)
      case atStart => exact ⟨0, ts, rfl, Nat.zero_le _, HN0.out, hSp, hown, hsrc, hgr⟩
      case round =>
        clear hSp hown hsrc hgr HN0
        obtain ⟨q, us, rfl, hq, hul, hS, hor, hsr, hgr⟩ := hrel
        by_cases hlt3 : q + 1 < n0
        · have q1 : (q : Int) < (n0 : Int) - 1 := by omega
          have q2 : (q : Int) < (n0 : Int) := by omega
          have huL := hul.out
          have hc0 := hor.cellAt q (by omega)
          have hget : us[q]? = some (us[q]'(by omega)) := List.getElem?_eq_getElem (by omega)
          have hss := hS.out q _ hget
          rw [if_neg (by omega)] at hss
          have hc : wr.cell? ⟨g, q, none⟩ = some (.string (us[q]'(by omega))) := by rw [hc0, List.getElem?_map, hget]; rfl
          have hst := fun y => hor.stored q (.string y)
          have hfz := hor.frozenAt q
          obtain ⟨s, hse⟩ : ∃ s, us[q]'(by omega) = s := ⟨_, rfl⟩
          rw [hse] at hc hss
          obtain ⟨hp1, hss8⟩ := hss
          have hlast : s.size - 1 < s.size := Nat.sub_lt hp1 (Nat.lt_succ_self 0)
          have hI : (1 : Int) ≤ (s.size : Int) := by omega
          have hI0 : (0 : Int) ≤ (s.size : Int) - 1 := by omega
          have hI1 : (s.size : Int) - 1 < (s.size : Int) := by omega
          clear hc0 hget hse huL
          cases hen : (((s[s.size - 1]'hlast).toNat : Int) != 10) with
          | false =>
            have HS2 : Hid (Sp (q + 1) us) := by
              intro j x hj
              have := hS.out j x hj
              refine ⟨this.1, ?_⟩
              have h2 := this.2
              split at h2 <;> split <;> omega
            clear hst hfz hS
            go_wp2
            go_quiet (fail)
            go_wp2
            go_roundw
            case rel => exact ⟨q + 1, us, by go_num, by omega, hul, HS2, hor, hsr.kept (grown_drewN wr nq none) (by simp) (fun _ e => by cases e), grown_trans hgr (grown_drewN wr nq _)⟩
            case measure => simp [intOf]; omega
          | true =>
            have hy9 : (s ++ (⟨#[10]⟩ : ByteArray)).size = s.size + 1 := by rw [ByteArray.size_append]; rfl
            obtain ⟨y, hy⟩ : ∃ y, s ++ (⟨#[10]⟩ : ByteArray) = y := ⟨_, rfl⟩
            rw [hy] at hy9
            have hx9 : s.size + (⟨#[10]⟩ : ByteArray).size ≤ 9223372036854775807 := by have : (⟨#[10]⟩ : ByteArray).size = 1 := rfl
                                                                                       omega
            have HS2 : Hid (Sp (q + 1) (us.set q y)) := by
              intro j x hj
              by_cases e : j = q
              · subst e
                rw [List.getElem?_set_self (by have := hul.out; omega)] at hj
                simp only [Option.some.injEq] at hj
                subst hj
                rw [if_pos (by omega)]
                omega
              · rw [List.getElem?_set_ne (by omega)] at hj
                have := hS.out j x hj
                refine ⟨this.1, ?_⟩
                have h2 := this.2
                split at h2 <;> split <;> omega
            have hst2 := hst y
            rw [map_set] at hst2
            have HO : Hid (World.ownsRow _ _ _ _ _ _ _) := hst2.1
            have HG : Hid (World.grownBy _ _ _) := hst2.2
            have HUL : Hid ((us.set q y).length = n0) := by show _ = _; rw [List.length_set]; exact hul.out
            clear hst hst2 hS hy9
            go_wp2
            go_quiet (fail)
            go_wp2
            have G2 : wr.grownBy ((wr.drewN nq).setCell ⟨g, q, none⟩ (.string y)) (Value.slice (some ⟨g, 0, none⟩) n0 c).ownBlock := ⟨HG.out.os, HG.out.tape, HG.out.output, HG.out.size, HG.out.block⟩
            have O2 : ((wr.drewN nq).setCell ⟨g, q, none⟩ (.string y)).ownsRow w.heap.size 9 1 (.slice (some ⟨g, 0, none⟩) n0 c) n0 ((us.set q y).map Value.string) := HO.out
            go_roundw
            case rel => exact ⟨q + 1, us.set q y, by go_num, by omega, HUL, HS2, O2, hsr.kept G2 (by rw [ownBlock_slice]; simp; omega) (fun j hj => by rw [ownBlock_slice] at hj; cases hj; omega), grown_new hgr G2 (fun j hj => by rw [ownBlock_slice] at hj; cases hj; omega)⟩
            case measure => simp [intOf]; omega
        · have q1 : ¬ (q : Int) < (n0 : Int) - 1 := by omega
          have HF : Hid (NearPostM M N b a n cap k w (.returned (.slice (some ⟨g, 0, none⟩) n0 c)) wr) := by
            have e := hul.out
            refine ⟨us, g, c, k', by rw [e], by omega, ?_, by rw [e]; exact hor, hsr, by omega, hgr⟩
            intro x hx
            obtain ⟨j, hj⟩ := List.getElem?_of_mem hx
            have := (hS.out j x hj).2
            split at this <;> omega
          clear hor hsr hgr hS hul
          go_wp2
          go_ret
          exact HF.out
def NearPost (N b : Nat) (a : Option Addr) (n cap : Nat) (k : Int) (w : World) (e : Ending) (w' : World) : Prop :=
  ∃ (ts : List ByteArray) (g c : Nat) (k' : Int), e = .returned (.slice (some ⟨g, 0, none⟩) ts.length c) ∧ ts.length ≤ 1000 ∧ Small 9 ts ∧
      w'.ownsRow w.heap.size 9 1 (.slice (some ⟨g, 0, none⟩) ts.length c) ts.length (ts.map Value.string) ∧ Src N w' b a n cap k' ∧ k' ≤ k + 20 ∧ w.grownBy w' (some b)
theorem l1Near (N b base : Nat) (a : Option Addr) (n cap : Nat) (k : Int) (ss : List ByteArray) (g c : Nat) (w : World) (h : Src N w b a n cap k) (hk : k ≤ 1000000) (hb : b < base) (hl : ss.length ≤ 900) (hsm : SmL 8 ss)
    (ho : w.ownsRow base 9 1 (.slice (some ⟨g, 0, none⟩) ss.length c) ss.length (ss.map Value.string)) :
    Calls Try.prog 40 #[.pointer (some ⟨b, 0, none⟩), .slice (some ⟨g, 0, none⟩) ss.length c] w fun e w' => NearPost N b a n cap k w e w' :=
  (l1NearM 900 (Nat.le_refl _) N b base a n cap k ss g c w h hk hb hl hsm ho).mono fun _ _ ⟨ts, g, c, k', h1, h2, h3⟩ => ⟨ts, g, c, k', h1, by omega, h3⟩
end Go.Proofs.Ytkeinpobngfioaa
