/- The contract of the program's readTree. No statement is proved here. -/
import Derived.Test.YtijphomojljckaaGreatDoorIterQ
import Derived.Test.YtijphomojljckaaGreatDoorShelfBQ
import Derived.Test.YtijphomojljckaaGreatDoorMarksQ
import Derived.Test.YtijphomojljckaaGreatDoorComQ
import Derived.Test.YtijphomojljckaaGreatDoorWvCQ
import Derived.Test.YtijphomojljckaaGreatDoorTeLQ
import Derived.Test.YtijphomojljckaaGreatDoorTrCQ
import Derived.Test.YtijphomojljckaaGreatDoorTrSQ
import Derived.Test.YtijphomojljckaaGreatDoorDtLQ
import Derived.Test.YtijphomojljckaaGreatDoorIxBQ
import Derived.Test.YtijphomojljckaaGreatDoorDtMQ
import Derived.Test.YtijphomojljckaaGreatDoorRegRQ
import Derived.Test.YtijphomojljckaaGreatDoorWtCQ
import Derived.RangeFuncWrites
import Derived.Maps.AppendAt
import Derived.OwnWalkIn
import Derived.Deep.RegionHeld
import Derived.Test.YtijphomojljckaaGreatDoorRows
import Derived.Test.YtijphomojljckaaGreatDoorLemQ
import Derived.Test.YtijphomojljckaaGreatDoorHkTQ
import Derived.Test.YtijphomojljckaaGreatDoorAsCQ
import Derived.WalkKit
import Derived.ProofKit
import Derived.Below
import Derived.WalkSpells
import Derived.Deep.QuietTactic
import Derived.BigQuiet
namespace Go.Proofs.YtijphomojljckaaGreatDoor.Te
open Go.RowKit Go.Shelf
attribute [local go_sem] Oper.semAt_some

/-- What is read of a list of lines. -/
def pL (xs : List ByteArray) : List Ob := xs.map (fun x => pEnt x.data.toList)
theorem pL_snoc (xs : List ByteArray) (x : ByteArray) : pL (xs ++ [x]) = pL xs ++ [pEnt x.data.toList] := by simp [pL]
theorem pL_lines (s : ByteArray) : pL (linesOf s) = dtP s := by simp [pL, dtP, linesOf, linesFrom, mkB_data, Function.comp_def]
theorem ocells_snoc (l : List Ob) (o : Ob) : ocells (l ++ [o]) = ocells l ++ [.string o.1, .int .i64 o.2.1, .string o.2.2] := by
  unfold ocells
  rw [List.length_append, List.length_singleton, show (l.length + 1) * 3 = l.length * 3 + 3 by omega, rowG_append]
  congr 1
  · exact rowG_congr fun j hj => by
      unfold ocell
      have : (l ++ [o]).getD (j / 3) onil = l.getD (j / 3) onil := by
        have h3 : j / 3 < l.length := by omega
        simp [List.getD, List.getElem?_append_left h3]
      rw [this]
  · have e : (l ++ [o]).getD l.length onil = o := by simp [List.getD]
    show [ocell _ (l.length * 3 + 0), ocell _ (l.length * 3 + 1), ocell _ (l.length * 3 + 2)] = _
    rw [Nat.add_zero, ocell0, ocell1, ocell2, e]
theorem ownsRow_mono3 {w : World} {B B' : Nat} {e : TypeId} {size n : Nat} {v : Value} {xs : List Value} (h : w.ownsRow B e size v n xs) (hB : B' ≤ B) : w.ownsRow B' e size v n xs :=
  ⟨h.1, h.2.imp id fun ⟨g, cap, cur, h1, h2, h3⟩ => ⟨g, cap, cur, h1, Nat.le_trans hB h2, h3⟩⟩
/-- What stands behind the copy of a line. -/
structure RC3 (w1 W w2 : World) (v : Value) (ss : List Ob) : Prop where
  box : Boxed w2 w1.heap.size 25 v
  row : w2.ownsRow (w1.heap.size + 2) 72 3 v ss.length (ocells ss)
  below : Below w1.heap.size w1 w2
  size : w1.heap.size + 2 ≤ w2.heap.size
  keepB : KeepB (w1.heap.size + 1) W w2
  keeps : KeepsOthers W w2
theorem after_clone3 {w1 W w2 : World} {v : Value} {ss : List Ob} (hv : Boxed W w1.heap.size 25 v) (hrow : W.ownsRow (w1.heap.size + 2) 72 3 v ss.length (ocells ss))
    (hB : Below w1.heap.size w1 W) (hsz : w1.heap.size + 2 ≤ W.heap.size) (hb2 : Below W.heap.size W w2) : RC3 w1 W w2 v ss where
  box := hv.kept (grown_of_below hb2 none) (by simp)
  row := hrow.kept (grown_of_below hb2 none) (by
    rcases h : v.ownBlock with _ | j
    · exact .inl rfl
    · exact .inr (by simp))
  below := hB.trans (hb2.mono hB.size)
  size := Nat.le_trans hsz hb2.size
  keepB := hb2.block _ (by omega)
  keeps := KeepsOthers.of_grownBy (grown_of_below hb2 none) (fun j o ej _ => by cases ej)
theorem after_append3 {w1 W w2 w3 : World} {v v' : Value} {ss : List Ob} {ys : List Value} {tmp : Obj} {m : Nat} (R : RC3 w1 W w2 v ss)
    (hown' : w3.ownsRow (w1.heap.size + 2) 72 3 v' m ys) (hgrow : (w2.alloc tmp).grownBy w3 v.ownBlock) :
    Boxed w3 w1.heap.size 25 v ∧ KeepsOthers W (w3.setCell ⟨w1.heap.size, 0, none⟩ v') ∧ KeepB (w1.heap.size + 1) W (w3.setCell ⟨w1.heap.size, 0, none⟩ v') ∧ Boxed (w3.setCell ⟨w1.heap.size, 0, none⟩ v') w1.heap.size 25 v' ∧
      (w3.setCell ⟨w1.heap.size, 0, none⟩ v').ownsRow (w1.heap.size + 2) 72 3 v' m ys ∧ Below w1.heap.size w1 (w3.setCell ⟨w1.heap.size, 0, none⟩ v') ∧ w1.heap.size + 2 ≤ (w3.setCell ⟨w1.heap.size, 0, none⟩ v').heap.size := by
  have hne : (25 : TypeId) ≠ 72 := by decide
  have hv1 : Boxed w3 w1.heap.size 25 v := (R.box.alloc tmp).kept hgrow (R.box.not_row hne R.row)
  have hge : ∀ j, v.ownBlock = some j → w1.heap.size + 2 ≤ j := fun j hj => (R.row.lt j hj).1
  have hsz3 : w1.heap.size + 2 ≤ w3.heap.size := by have h1 := hgrow.size; have h2 := R.size; simp at h1; omega
  refine ⟨hv1, ?_, ?_, hv1.set v', hown'.kept (grownBy_setCell' w3 _ v') (.inr (hv1.not_row hne hown').symm), ?_, ?_⟩
  · refine ((R.keeps.trans (KeepsOthers.alloc w2 tmp)).trans (KeepsOthers.of_grownBy hgrow fun j o ej hj => ?_)).trans (KeepsOthers.setCell _ _ _)
    rcases (R.row.alloc tmp).2 with ⟨rfl, _⟩ | ⟨g, cap, cur, rfl, _, hgb, _⟩
    · simp [Value.ownBlock] at ej
    · obtain rfl : g = j := by simpa [Value.ownBlock] using ej
      rw [hgb] at hj; cases hj; rfl
  · have e1 : (w3.setCell ⟨w1.heap.size, 0, none⟩ v').heap[w1.heap.size + 1]? = w3.heap[w1.heap.size + 1]? := Below.heap_setCell _ _ _ _ (by simp)
    have e2 : w3.heap[w1.heap.size + 1]? = (w2.alloc tmp).heap[w1.heap.size + 1]? := hgrow.block _ (by have := R.size; simp; omega) (fun e => by have := hge _ e.symm; omega)
    have e3 : (w2.alloc tmp).heap[w1.heap.size + 1]? = w2.heap[w1.heap.size + 1]? := Below.heap_alloc _ _ _ (by have := R.size; omega)
    exact e1.trans (e2.trans (e3.trans R.keepB))
  · refine ((R.below.alloc (by have := R.size; omega) tmp).grown hgrow (by have := R.size; simp; omega) fun j ej => ?_).setCell (p := ⟨w1.heap.size, 0, none⟩) (Nat.le_refl _) v'
    have := hge j ej; omega
  · simpa using hsz3


/-- append onto a row of the call's own, as one step of a region that draws. -/
theorem stepH_append_own {P : Program} {ops : Array Oper} {o : Oper} {a : Act} {w : World} {K : Act → World → Prop} {Q : Exit → Act → World → Prop} {E : Prop}
    (hg : o.guard = none) (s x : Operand) (t : TypeId) (hop : o.op = Op.call { callee := Callee.builtin Builtin.append, args := #[s, x], argTypes := #[t, t] })
    (base : Nat) (e : TypeId) (i : TypeInfo) (z : Value) (size bytes : Nat) (h1 : P.underlying t = some (.slice e)) (h2 : P.info? e = some i) (h3 : i.zero = some z) (h4 : i.size = size) (h5 : i.bytes = bytes) (h6 : z.cells.size = size) (h7 : 0 < size)
    (v : Value) (k : Nat) (xs : List Value) (hs : a.eval s = v) (hown : w.ownsRow base e size v k xs) (ad : Addr) (m c : Nat) (news : List Value) (hx : a.eval x = .slice (some ad) m c) (hn : news.length = m * size)
    (hc : ∀ j u, news[j]? = some u → w.cell? (ad.add j) = some u) (h1c : ∀ u ∈ news, u.oneCell' = true) (b1 : k + m ≤ maxLen) (b2 : (k + m) * bytes ≤ 140737488355328) (b3 : base ≤ w.heap.size)
    (hK : ∀ v' w', w'.ownsRow base e size v' (k + m) (xs ++ news) → w.grownBy w' v.ownBlock → K (a.put o.dst v') w') :
    if Region.wanted o (yielded ops a.tmps) = true then Oper.wp P o a w K Q else E := by
  have hw : Region.wanted o (yielded ops a.tmps) = true := by simp [Region.wanted, hg]
  rw [if_pos hw]
  obtain ⟨v', w', hrun, r1, r2, _⟩ := run_append_own (P := P) w base t o.type e i z size bytes h1 h2 h3 h4 h5 h6 h7 v k xs hown ad m c news hn hc h1c b1 b2 b3
  unfold Oper.wp
  simp [execOp, hop, resolve, invoke, builtin, hs, hx, hrun, Result.andThen]
  exact hK v' w' r1 r2
theorem aft_len (l : List UInt8) : (aft l).length ≤ l.length := by
  unfold aft
  rw [List.length_drop]
  have := (List.dropWhile_sublist (fun c : UInt8 => c != 32) (l := l)).length_le
  omega
theorem bef_len (l : List UInt8) : (bef l).length ≤ l.length := (List.takeWhile_sublist _).length_le
theorem trim_len (l : List UInt8) : (trimL l).length ≤ l.length := by
  unfold trimL
  split
  · simp
  · exact Nat.le_refl _
theorem mkB_size (l : List UInt8) : (mkB l).size = l.length := by rw [← size_eq, mkB_data]
theorem three_new (w : World) (x y z : Value) (t : TypeId) : ∀ (j : Nat) (u : Value), [x, y, z][j]? = some u → (w.alloc (.cells #[x, y, z] t)).cell? ((⟨w.heap.size, 0, none⟩ : Addr).add j) = some u := fun j u h => by
  have := word_cell w t #[x, y, z] j u h
  rw [WideShapes.add_plain, Nat.zero_add]
  exact this
def onlyN (Q : Exit → Act → World → Prop) (e : Exit) (a : Act) (w : World) : Prop := e = .normal ∧ Q e a w
theorem region_wide {P : Program} {ops : Array Oper} {n id : Nat} {Q : Exit → Act → World → Prop} {S : World → Prop} {a : Act} {w : World} (hm : P.follows .mixedOrders = true) (hS : S w.drew)
    (h : S w.drew → wpAnyH P .any ops (onlyN Q) S ops.size (Array.replicate ops.size false) a w.drew) : (Code.region id ops true).wpIn Fence.wide n P Q a w :=
  wpIn_wide.2 (wp_mono (wp_region_held_drew hm hS h) (fun _ _ _ q => q.2))

/-- How readTree ends. -/
def RT (s : ByteArray) (w : World) (e : Ending) (w' : World) : Prop := Below w.heap.size w w' ∧
  ((dtI s = true ∧ ∃ v, e = .returned (.tuple #[v, .nilIface]) ∧ w'.ownsRow w.heap.size 72 3 v (dtP s).length (ocells (dtP s))) ∨ (dtI s = false ∧ ∃ v T u, e = .returned (.tuple #[v, .iface 80 (.agg #[.iface T u])])))

theorem pL_length (xs : List ByteArray) : (pL xs).length = xs.length := by simp [pL]
set_option maxRecDepth 100000 in
set_option maxHeartbeats 4000000 in
theorem readTree_ok (s : ByteArray) (w : World) (hs : s.size ≤ 1048576) (h0 : tf s = 0) (hg : MwG w) (hgB : 0 < w.heap.size) (ho : OfG w) (hoB : 1 < w.heap.size) :
    Calls Tryz.prog 21 #[.string s] w fun e w' => RT s w e w' := by
  have hT := fun w => implTextFault s w hs
  rw [h0] at hT
  obtain ⟨i0, hi, hz0, hz1, hz2⟩ := info_parts infoObj
  have hll := lines_le s
  refine (callsIn_wide (n := 5)).1 ?_
  refine callsIn_of_wp_marks Tryz.func21 rfl trivial ?_ rfl
  simp only [Tryz.ntmps21, List.size_toArray, List.length_cons, List.length_nil, Nat.reduceAdd, Nat.reduceSub, Array.replicate_succ, Array.replicate_zero, List.push_toArray, List.append_toArray, List.nil_append, List.cons_append]
  gi_wp2_with (refine ⟨trivial, ?_⟩; gi_at_call 39; refine (callsIn_wide.2 (hT _)).mono ?_; rintro e w1 ⟨rfl, hb1⟩)
  have S1 := hb1.size
  have hM1 := hg.below hb1 hgB
  clear hT
  refine ⟨trivial, ?_⟩
  refine (callsIn_wide.2 (linesIn_any _ _)).mono ?_; rintro e w' ⟨rfl, rfl⟩
  gi_wp2
  have bO := Boxed.new w1 25 (.slice none 0 0)
  have hbx : ((w1.alloc (.cells #[.slice none 0 0] 25)).alloc (.cells #[.string s] 9)).heap[w1.heap.size + 1]? = some (.cells #[.string s] 9 (0, 0)) := by
    have := World.alloc_heap_new (w1.alloc (.cells #[.slice none 0 0] 25)) (.cells #[.string s] 9)
    rwa [World.size_alloc] at this
  have hB0 : Below w1.heap.size w1 ((w1.alloc (.cells #[.slice none 0 0] 25)).alloc (.cells #[.string s] 9)) := ((Below.refl _ w1).alloc (Nat.le_refl _) _).alloc (by simp) _
  refine wpIn_rangeFunc_ownG rfl (by omega) (gf := 63) (lb := #[.pointer (some ⟨w1.heap.size + 1, 0, none⟩)]) rfl trivial (enters_of Tryz.func63 (by kernel_rfl) rfl)
    (lines_stopsS _ (by omega) (w1.heap.size + 1) s hs _ (by simp) hbx) keepB_t (keepB_b (by simp)) (Below.refl _ _) (fun _ => rfl)
    (fun pre W => (∃ v, Boxed W w1.heap.size 25 v ∧ W.ownsRow (w1.heap.size + 2) 72 3 v (pL (unS pre)).length (ocells (pL (unS pre))) ∧ True) ∧ Below w1.heap.size w1 W ∧ w1.heap.size + 2 ≤ W.heap.size)
    (fun _ _ _ => False)
    (OwnFrom.and (Own.from (holdsRow_own (w1.heap.size + 2) w1.heap.size 25 72 3 (fun pre => (pL (unS pre)).length) (fun pre => ocells (pL (unS pre))) (fun _ _ => True)) _) (OwnFrom.and (ownFrom_below (Nat.le_refl _) (by simp; omega)) (fun _ _ _ _ hs hg _ => Nat.le_trans hs hg.size)))
    (fun _ _ _ _ _ hs _ _ => hs)
    ⟨⟨_, bO.alloc _, World.ownsRow_nil _ _ _ _, trivial⟩, hB0, by simp⟩
    (fun x => { tmps := #[.string s, undef, .slice none 0 0, .nilIface, .int .i64 0, .pointer (some ⟨w1.heap.size, 0, none⟩), .string x.1, undef, undef, undef, undef, undef, .string s, .int .i64 0, .int .i64 0, .bool false, undef, undef, undef, undef, undef, .string s, .func (.func 63) #[] #[.pointer (some ⟨w1.heap.size + 1, 0, none⟩)], .string x.1, undef, undef, undef, undef, undef, undef, undef, undef, undef, undef, undef, undef, undef, undef, undef, undef, undef, undef, undef, undef, undef, undef, undef, undef, undef, undef], defers := [] }) ?assign ?body ?done ?stop
  case assign =>
    intro l x W K hK
    gi_wp2
    first | exact hK | simpa using hK
  case body =>
    rintro l pre x W ⟨⟨v, hv, hrow, _⟩, hB, hsz⟩ hlen
    have hul : (unS pre).length < (linesOf s).length := by simpa [unS] using hlen
    have hF := fun w => fieldOfC x.1 w x.2
    have t0 := trim_len x.1.data.toList
    have t1 := aft_len (trimL x.1.data.toList)
    have t2 := aft_len (aft (trimL x.1.data.toList))
    have t3 := bef_len (aft (trimL x.1.data.toList))
    have t4 := x.2
    rw [← size_eq] at t4
    have hC := fun w => cutC (mkB (aft (trimL x.1.data.toList))) w (by rw [mkB_size]; omega)
    unfold CutR at hC
    simp only [mkB_data] at hC
    have hPx : Hid (pEnt x.1.data.toList = (mkB (aft (aft (trimL x.1.data.toList))), md (mkB (bef (trimL x.1.data.toList))).data.toList, mkB (bef (aft (trimL x.1.data.toList))))) := rfl
    have sN : (mkB (aft (aft (trimL x.1.data.toList)))).size ≤ 1048576 := by rw [mkB_size]; omega
    have sI : (mkB (bef (aft (trimL x.1.data.toList)))).size ≤ 1048576 := by rw [mkB_size]; omega
    obtain ⟨X1, hX1⟩ : ∃ X, mkB (bef (trimL x.1.data.toList)) = X := ⟨_, rfl⟩
    obtain ⟨Y1, hY1⟩ : ∃ X, mkB (aft (trimL x.1.data.toList)) = X := ⟨_, rfl⟩
    obtain ⟨I1, hI1⟩ : ∃ X, mkB (bef (aft (trimL x.1.data.toList))) = X := ⟨_, rfl⟩
    obtain ⟨N1, hN1⟩ : ∃ X, mkB (aft (aft (trimL x.1.data.toList))) = X := ⟨_, rfl⟩
    simp only [hX1, hY1, hI1, hN1] at hF hC hPx sN sI
    clear hX1 hY1 hI1 hN1 t0 t1 t2 t3 t4
    gi_wp2_with (first | (refine ⟨trivial, ?_⟩; gi_at_call 41; refine (CallsIn.inRound l (callsIn_wide.2 (hF _))).mono ?_; rintro e W2 ⟨rfl, hb2⟩) | (refine ⟨trivial, ?_⟩; gi_at_call 42; refine (CallsIn.inRound l (callsIn_wide.2 (hC _))).mono ?_; rintro e W3 ⟨⟨bb, rfl⟩, hb3⟩))
    have B3 : Below W.heap.size W W3 := hb2.trans (hb3.mono hb2.size)
    have hl0 : w1.heap.size < W.heap.size := hv.lt
    have hl3 : w1.heap.size < W3.heap.size := Nat.lt_of_lt_of_le hl0 B3.size
    have c3 : W3.cell? ⟨w1.heap.size, 0, none⟩ = some v := (B3.cell (p := ⟨w1.heap.size, 0, none⟩) hl0).trans hv.cell
    have hgl1 : 0 < w1.heap.size := Nat.lt_of_lt_of_le hgB S1
    have hgl : 0 < W3.heap.size := by omega
    have hM3 : MwG W3 := (hM1.below hB hgl1).below B3 (by omega)
    clear hF hC
    refine region_round (S := fun _ => True) (by kernel_rfl) (by kernel_rfl) trivial (fun _ => ?_)
    refine takeD (i := 1) (d := 36) (oi := _) (v := ?_) (listed' := #[false, true, false, false, false, false, false, false, false, false, false]) rfl (by kernel_rfl) (by kernel_rfl) (by kernel_rfl) (fun _ _ _ h => h) (Or.inl ⟨by rfl, ?_⟩) trivial (by kernel_rfl) (by kernel_rfl) ?_
    rotate_left
    · intro w hSw
      try dsimp only at hSw
      first
        | (go_simp; done)
        | (go_simp; with_reducible rfl)
    simp only [Act.put, List.setIfInBounds_toArray, List.set_cons_zero, List.set_cons_succ]
    refine takeD (i := 3) (d := 38) (oi := _) (v := ?_) (listed' := #[false, true, false, true, false, false, false, false, false, false, false]) rfl (by kernel_rfl) (by kernel_rfl) (by kernel_rfl) (fun _ _ _ h => h) (Or.inl ⟨by rfl, ?_⟩) trivial (by kernel_rfl) (by kernel_rfl) ?_
    rotate_left
    · intro w hSw
      try dsimp only at hSw
      first
        | (go_simp; done)
        | (go_simp; with_reducible rfl)
    simp only [Act.put, List.setIfInBounds_toArray, List.set_cons_zero, List.set_cons_succ]
    refine takeD (i := 5) (d := 40) (oi := _) (v := ?_) (listed' := #[false, true, false, true, false, true, false, false, false, false, false]) rfl (by kernel_rfl) (by kernel_rfl) (by kernel_rfl) (fun _ _ _ h => h) (Or.inl ⟨by rfl, ?_⟩) trivial (by kernel_rfl) (by kernel_rfl) ?_
    rotate_left
    · intro w hSw
      try dsimp only at hSw
      first
        | (go_simp; done)
        | (go_simp; with_reducible rfl)
    simp only [Act.put, List.setIfInBounds_toArray, List.set_cons_zero, List.set_cons_succ]
    refine wpAnyH_ready (rs := [0, 2]) (by kernel_rfl) (by simp) ?_
    refine AllReadyH.cons (o := _) rfl (fun K hK => ?_) (AllReadyH.cons (o := _) rfl (fun K hK => ?_) AllReadyH.nil)
    · go_simp
      refine hK.out _ _ trivial (fun _ => ?_)
      clear hK K
      simp only [List.setIfInBounds_toArray, List.set_cons_zero]
      refine wpAnyH_ready (rs := [2]) (by kernel_rfl) (by simp) ?_
      refine AllReadyH.cons (o := _) rfl (fun K hK => ?_) AllReadyH.nil
      go_simp
      refine (cloneS N1 _ (by omega)).mono ?_
      rintro e u2 ⟨rfl, k2⟩
      have K2 : Below W3.heap.size W3 u2 := (below_drew (Below.refl _ W3)).trans k2
      have S2 : u2.cell? ⟨w1.heap.size, 0, none⟩ = some v := (K2.cell (p := ⟨w1.heap.size, 0, none⟩) hl3).trans c3
      refine hK.out _ _ trivial (fun _ => ?_)
      clear hK K
      simp only [List.setIfInBounds_toArray, List.set_cons_zero, List.set_cons_succ]
      refine wpAnyH_ready (rs := [4]) (by kernel_rfl) (by simp) ?_
      refine AllReadyH.cons (o := _) rfl (fun K hK => ?_) AllReadyH.nil
      go_simp
      refine (modeOfC X1 u2 (hM3.below K2 hgl)).mono ?_
      rintro e u4 ⟨rfl, rfl⟩
      refine hK.out _ _ trivial (fun _ => ?_)
      clear hK K
      simp only [List.setIfInBounds_toArray, List.set_cons_zero, List.set_cons_succ]
      refine wpAnyH_ready (rs := [6]) (by kernel_rfl) (by simp) ?_
      refine AllReadyH.cons (o := _) rfl (fun K hK => ?_) AllReadyH.nil
      go_simp
      refine (cloneS I1 _ (by omega)).mono ?_
      rintro e u6 ⟨rfl, k6⟩
      have K6 : Below W3.heap.size W3 u6 := K2.trans (k6.mono K2.size)
      have S6 : u6.cell? ⟨w1.heap.size, 0, none⟩ = some v := (K6.cell (p := ⟨w1.heap.size, 0, none⟩) hl3).trans c3
      refine hK.out _ _ trivial (fun _ => ?_)
      clear hK K
      simp only [List.setIfInBounds_toArray, List.set_cons_zero, List.set_cons_succ]
      refine takeD (i := 7) (d := 42) (oi := _) (v := ?_) (listed' := #[true, true, true, true, true, true, true, true, false, false, false]) rfl (by kernel_rfl) (by kernel_rfl) (by kernel_rfl) (fun _ _ _ h => h) (Or.inl ⟨by rfl, ?_⟩) trivial (by kernel_rfl) (by kernel_rfl) ?_
      rotate_left
      · intro w hSw
        try dsimp only at hSw
        first
          | (go_simp; done)
          | (go_simp; with_reducible rfl)
      simp only [Act.put, List.setIfInBounds_toArray, List.set_cons_zero, List.set_cons_succ]
      refine wpAnyH_ready (rs := [8]) (by kernel_rfl) (by simp) ?_
      refine AllReadyH.cons (o := _) rfl (fun K hK => ?_) AllReadyH.nil
      go_simp
      have S8 := keep3 (allocBelow u6 (.cells #[.string N1, .int .i64 (md X1.data.toList), .string I1] 72)) (Nat.lt_of_lt_of_le hl3 K6.size) S6
      refine hK.out _ _ trivial (fun _ => ?_)
      clear hK K
      simp only [List.setIfInBounds_toArray, List.set_cons_zero, List.set_cons_succ]
      refine wpAnyH_ready (rs := [9]) (by kernel_rfl) (by simp) ?_
      refine AllReadyH.cons (o := _) rfl (fun K hK => ?_) AllReadyH.nil
      have R := after_clone3 hv hrow hB hsz (B3.trans (K6.mono B3.size))
      refine stepH_append_own rfl (.tmp 35) (.tmp 43) 25 rfl (w1.heap.size + 2) 72 i0 (.agg #[.string ⟨#[]⟩, .int .i64 0, .string ⟨#[]⟩]) 3 40 Tryz.underlying25 hi hz0 hz1 hz2 rfl (by decide) v _ _ rfl (R.row.alloc _) ⟨u6.heap.size, 0, none⟩ 1 1 [.string N1, .int .i64 (md X1.data.toList), .string I1] rfl rfl (three_new _ _ _ _ _) (by simp [Value.oneCell']) (by unfold maxLen; rw [pL_length]; omega) (by rw [pL_length]; omega) (by have := R.size; simp; omega) ?_
      intro v' w3 hown' hgrow
      obtain ⟨g', cap', rfl⟩ := ownsRow_succ hown'
      obtain ⟨hbx3, kO, kB, fbox, frow, fbel, fsz⟩ := after_append3 R hown' hgrow
      have d3 := hbx3.cell
      have f3 := hbx3.frozen
      refine hK.out _ _ trivial (fun _ => ?_)
      clear hK K
      simp only [List.setIfInBounds_toArray, List.set_cons_zero, List.set_cons_succ]
      refine wpAnyH_ready (rs := [10]) (by kernel_rfl) (by simp) ?_
      refine AllReadyH.cons (o := _) rfl (fun K hK => ?_) AllReadyH.nil
      go_simp
      refine hK.out _ _ trivial (fun _ => ?_)
      clear hK K
      simp only [List.setIfInBounds_toArray, List.set_cons_zero, List.set_cons_succ]
      refine wpAnyH_done (by kernel_rfl) ?_ _
      refine ⟨by simp, ?_⟩
      gi_wp2
      exact ⟨kO.from _, kB, ⟨_, fbox, by rw [show unS (pre ++ [x]) = unS pre ++ [x.1] by simp [unS], pL_snoc, hPx.out, ocells_snoc, List.length_append]; exact frow, trivial⟩, fbel, fsz⟩
    · go_simp
      refine (cloneS N1 _ (by omega)).mono ?_
      rintro e u2 ⟨rfl, k2⟩
      have K2 : Below W3.heap.size W3 u2 := (below_drew (Below.refl _ W3)).trans k2
      have S2 : u2.cell? ⟨w1.heap.size, 0, none⟩ = some v := (K2.cell (p := ⟨w1.heap.size, 0, none⟩) hl3).trans c3
      refine hK.out _ _ trivial (fun _ => ?_)
      clear hK K
      simp only [List.setIfInBounds_toArray, List.set_cons_zero, List.set_cons_succ]
      refine wpAnyH_ready (rs := [0, 4]) (by kernel_rfl) (by simp) ?_
      refine AllReadyH.cons (o := _) rfl (fun K hK => ?_) (AllReadyH.cons (o := _) rfl (fun K hK => ?_) AllReadyH.nil)
      · go_simp
        refine hK.out _ _ trivial (fun _ => ?_)
        clear hK K
        simp only [List.setIfInBounds_toArray, List.set_cons_zero]
        refine wpAnyH_ready (rs := [4]) (by kernel_rfl) (by simp) ?_
        refine AllReadyH.cons (o := _) rfl (fun K hK => ?_) AllReadyH.nil
        go_simp
        refine (modeOfC X1 u2 (hM3.below K2 hgl)).mono ?_
        rintro e u4 ⟨rfl, rfl⟩
        refine hK.out _ _ trivial (fun _ => ?_)
        clear hK K
        simp only [List.setIfInBounds_toArray, List.set_cons_zero, List.set_cons_succ]
        refine wpAnyH_ready (rs := [6]) (by kernel_rfl) (by simp) ?_
        refine AllReadyH.cons (o := _) rfl (fun K hK => ?_) AllReadyH.nil
        go_simp
        refine (cloneS I1 _ (by omega)).mono ?_
        rintro e u6 ⟨rfl, k6⟩
        have K6 : Below W3.heap.size W3 u6 := K2.trans (k6.mono K2.size)
        have S6 : u6.cell? ⟨w1.heap.size, 0, none⟩ = some v := (K6.cell (p := ⟨w1.heap.size, 0, none⟩) hl3).trans c3
        refine hK.out _ _ trivial (fun _ => ?_)
        clear hK K
        simp only [List.setIfInBounds_toArray, List.set_cons_zero, List.set_cons_succ]
        refine takeD (i := 7) (d := 42) (oi := _) (v := ?_) (listed' := #[true, true, true, true, true, true, true, true, false, false, false]) rfl (by kernel_rfl) (by kernel_rfl) (by kernel_rfl) (fun _ _ _ h => h) (Or.inl ⟨by rfl, ?_⟩) trivial (by kernel_rfl) (by kernel_rfl) ?_
        rotate_left
        · intro w hSw
          try dsimp only at hSw
          first
            | (go_simp; done)
            | (go_simp; with_reducible rfl)
        simp only [Act.put, List.setIfInBounds_toArray, List.set_cons_zero, List.set_cons_succ]
        refine wpAnyH_ready (rs := [8]) (by kernel_rfl) (by simp) ?_
        refine AllReadyH.cons (o := _) rfl (fun K hK => ?_) AllReadyH.nil
        go_simp
        have S8 := keep3 (allocBelow u6 (.cells #[.string N1, .int .i64 (md X1.data.toList), .string I1] 72)) (Nat.lt_of_lt_of_le hl3 K6.size) S6
        refine hK.out _ _ trivial (fun _ => ?_)
        clear hK K
        simp only [List.setIfInBounds_toArray, List.set_cons_zero, List.set_cons_succ]
        refine wpAnyH_ready (rs := [9]) (by kernel_rfl) (by simp) ?_
        refine AllReadyH.cons (o := _) rfl (fun K hK => ?_) AllReadyH.nil
        have R := after_clone3 hv hrow hB hsz (B3.trans (K6.mono B3.size))
        refine stepH_append_own rfl (.tmp 35) (.tmp 43) 25 rfl (w1.heap.size + 2) 72 i0 (.agg #[.string ⟨#[]⟩, .int .i64 0, .string ⟨#[]⟩]) 3 40 Tryz.underlying25 hi hz0 hz1 hz2 rfl (by decide) v _ _ rfl (R.row.alloc _) ⟨u6.heap.size, 0, none⟩ 1 1 [.string N1, .int .i64 (md X1.data.toList), .string I1] rfl rfl (three_new _ _ _ _ _) (by simp [Value.oneCell']) (by unfold maxLen; rw [pL_length]; omega) (by rw [pL_length]; omega) (by have := R.size; simp; omega) ?_
        intro v' w3 hown' hgrow
        obtain ⟨g', cap', rfl⟩ := ownsRow_succ hown'
        obtain ⟨hbx3, kO, kB, fbox, frow, fbel, fsz⟩ := after_append3 R hown' hgrow
        have d3 := hbx3.cell
        have f3 := hbx3.frozen
        refine hK.out _ _ trivial (fun _ => ?_)
        clear hK K
        simp only [List.setIfInBounds_toArray, List.set_cons_zero, List.set_cons_succ]
        refine wpAnyH_ready (rs := [10]) (by kernel_rfl) (by simp) ?_
        refine AllReadyH.cons (o := _) rfl (fun K hK => ?_) AllReadyH.nil
        go_simp
        refine hK.out _ _ trivial (fun _ => ?_)
        clear hK K
        simp only [List.setIfInBounds_toArray, List.set_cons_zero, List.set_cons_succ]
        refine wpAnyH_done (by kernel_rfl) ?_ _
        refine ⟨by simp, ?_⟩
        gi_wp2
        exact ⟨kO.from _, kB, ⟨_, fbox, by rw [show unS (pre ++ [x]) = unS pre ++ [x.1] by simp [unS], pL_snoc, hPx.out, ocells_snoc, List.length_append]; exact frow, trivial⟩, fbel, fsz⟩
      · go_simp
        refine (modeOfC X1 u2 (hM3.below K2 hgl)).mono ?_
        rintro e u4 ⟨rfl, rfl⟩
        refine hK.out _ _ trivial (fun _ => ?_)
        clear hK K
        simp only [List.setIfInBounds_toArray, List.set_cons_zero, List.set_cons_succ]
        refine wpAnyH_ready (rs := [0, 6]) (by kernel_rfl) (by simp) ?_
        refine AllReadyH.cons (o := _) rfl (fun K hK => ?_) (AllReadyH.cons (o := _) rfl (fun K hK => ?_) AllReadyH.nil)
        · go_simp
          refine hK.out _ _ trivial (fun _ => ?_)
          clear hK K
          simp only [List.setIfInBounds_toArray, List.set_cons_zero]
          refine wpAnyH_ready (rs := [6]) (by kernel_rfl) (by simp) ?_
          refine AllReadyH.cons (o := _) rfl (fun K hK => ?_) AllReadyH.nil
          go_simp
          refine (cloneS I1 _ (by omega)).mono ?_
          rintro e u6 ⟨rfl, k6⟩
          have K6 : Below W3.heap.size W3 u6 := K2.trans (k6.mono K2.size)
          have S6 : u6.cell? ⟨w1.heap.size, 0, none⟩ = some v := (K6.cell (p := ⟨w1.heap.size, 0, none⟩) hl3).trans c3
          refine hK.out _ _ trivial (fun _ => ?_)
          clear hK K
          simp only [List.setIfInBounds_toArray, List.set_cons_zero, List.set_cons_succ]
          refine takeD (i := 7) (d := 42) (oi := _) (v := ?_) (listed' := #[true, true, true, true, true, true, true, true, false, false, false]) rfl (by kernel_rfl) (by kernel_rfl) (by kernel_rfl) (fun _ _ _ h => h) (Or.inl ⟨by rfl, ?_⟩) trivial (by kernel_rfl) (by kernel_rfl) ?_
          rotate_left
          · intro w hSw
            try dsimp only at hSw
            first
              | (go_simp; done)
              | (go_simp; with_reducible rfl)
          simp only [Act.put, List.setIfInBounds_toArray, List.set_cons_zero, List.set_cons_succ]
          refine wpAnyH_ready (rs := [8]) (by kernel_rfl) (by simp) ?_
          refine AllReadyH.cons (o := _) rfl (fun K hK => ?_) AllReadyH.nil
          go_simp
          have S8 := keep3 (allocBelow u6 (.cells #[.string N1, .int .i64 (md X1.data.toList), .string I1] 72)) (Nat.lt_of_lt_of_le hl3 K6.size) S6
          refine hK.out _ _ trivial (fun _ => ?_)
          clear hK K
          simp only [List.setIfInBounds_toArray, List.set_cons_zero, List.set_cons_succ]
          refine wpAnyH_ready (rs := [9]) (by kernel_rfl) (by simp) ?_
          refine AllReadyH.cons (o := _) rfl (fun K hK => ?_) AllReadyH.nil
          have R := after_clone3 hv hrow hB hsz (B3.trans (K6.mono B3.size))
          refine stepH_append_own rfl (.tmp 35) (.tmp 43) 25 rfl (w1.heap.size + 2) 72 i0 (.agg #[.string ⟨#[]⟩, .int .i64 0, .string ⟨#[]⟩]) 3 40 Tryz.underlying25 hi hz0 hz1 hz2 rfl (by decide) v _ _ rfl (R.row.alloc _) ⟨u6.heap.size, 0, none⟩ 1 1 [.string N1, .int .i64 (md X1.data.toList), .string I1] rfl rfl (three_new _ _ _ _ _) (by simp [Value.oneCell']) (by unfold maxLen; rw [pL_length]; omega) (by rw [pL_length]; omega) (by have := R.size; simp; omega) ?_
          intro v' w3 hown' hgrow
          obtain ⟨g', cap', rfl⟩ := ownsRow_succ hown'
          obtain ⟨hbx3, kO, kB, fbox, frow, fbel, fsz⟩ := after_append3 R hown' hgrow
          have d3 := hbx3.cell
          have f3 := hbx3.frozen
          refine hK.out _ _ trivial (fun _ => ?_)
          clear hK K
          simp only [List.setIfInBounds_toArray, List.set_cons_zero, List.set_cons_succ]
          refine wpAnyH_ready (rs := [10]) (by kernel_rfl) (by simp) ?_
          refine AllReadyH.cons (o := _) rfl (fun K hK => ?_) AllReadyH.nil
          go_simp
          refine hK.out _ _ trivial (fun _ => ?_)
          clear hK K
          simp only [List.setIfInBounds_toArray, List.set_cons_zero, List.set_cons_succ]
          refine wpAnyH_done (by kernel_rfl) ?_ _
          refine ⟨by simp, ?_⟩
          gi_wp2
          exact ⟨kO.from _, kB, ⟨_, fbox, by rw [show unS (pre ++ [x]) = unS pre ++ [x.1] by simp [unS], pL_snoc, hPx.out, ocells_snoc, List.length_append]; exact frow, trivial⟩, fbel, fsz⟩
        · go_simp
          refine (cloneS I1 _ (by omega)).mono ?_
          rintro e u6 ⟨rfl, k6⟩
          have K6 : Below W3.heap.size W3 u6 := K2.trans (k6.mono K2.size)
          have S6 : u6.cell? ⟨w1.heap.size, 0, none⟩ = some v := (K6.cell (p := ⟨w1.heap.size, 0, none⟩) hl3).trans c3
          refine hK.out _ _ trivial (fun _ => ?_)
          clear hK K
          simp only [List.setIfInBounds_toArray, List.set_cons_zero, List.set_cons_succ]
          refine takeD (i := 7) (d := 42) (oi := _) (v := ?_) (listed' := #[false, true, true, true, true, true, true, true, false, false, false]) rfl (by kernel_rfl) (by kernel_rfl) (by kernel_rfl) (fun _ _ _ h => h) (Or.inl ⟨by rfl, ?_⟩) trivial (by kernel_rfl) (by kernel_rfl) ?_
          rotate_left
          · intro w hSw
            try dsimp only at hSw
            first
              | (go_simp; done)
              | (go_simp; with_reducible rfl)
          simp only [Act.put, List.setIfInBounds_toArray, List.set_cons_zero, List.set_cons_succ]
          refine wpAnyH_ready (rs := [0, 8]) (by kernel_rfl) (by simp) ?_
          refine AllReadyH.cons (o := _) rfl (fun K hK => ?_) (AllReadyH.cons (o := _) rfl (fun K hK => ?_) AllReadyH.nil)
          · go_simp
            refine hK.out _ _ trivial (fun _ => ?_)
            clear hK K
            simp only [List.setIfInBounds_toArray, List.set_cons_zero]
            refine wpAnyH_ready (rs := [8]) (by kernel_rfl) (by simp) ?_
            refine AllReadyH.cons (o := _) rfl (fun K hK => ?_) AllReadyH.nil
            go_simp
            have S8 := keep3 (allocBelow u6 (.cells #[.string N1, .int .i64 (md X1.data.toList), .string I1] 72)) (Nat.lt_of_lt_of_le hl3 K6.size) S6
            refine hK.out _ _ trivial (fun _ => ?_)
            clear hK K
            simp only [List.setIfInBounds_toArray, List.set_cons_zero, List.set_cons_succ]
            refine wpAnyH_ready (rs := [9]) (by kernel_rfl) (by simp) ?_
            refine AllReadyH.cons (o := _) rfl (fun K hK => ?_) AllReadyH.nil
            have R := after_clone3 hv hrow hB hsz (B3.trans (K6.mono B3.size))
            refine stepH_append_own rfl (.tmp 35) (.tmp 43) 25 rfl (w1.heap.size + 2) 72 i0 (.agg #[.string ⟨#[]⟩, .int .i64 0, .string ⟨#[]⟩]) 3 40 Tryz.underlying25 hi hz0 hz1 hz2 rfl (by decide) v _ _ rfl (R.row.alloc _) ⟨u6.heap.size, 0, none⟩ 1 1 [.string N1, .int .i64 (md X1.data.toList), .string I1] rfl rfl (three_new _ _ _ _ _) (by simp [Value.oneCell']) (by unfold maxLen; rw [pL_length]; omega) (by rw [pL_length]; omega) (by have := R.size; simp; omega) ?_
            intro v' w3 hown' hgrow
            obtain ⟨g', cap', rfl⟩ := ownsRow_succ hown'
            obtain ⟨hbx3, kO, kB, fbox, frow, fbel, fsz⟩ := after_append3 R hown' hgrow
            have d3 := hbx3.cell
            have f3 := hbx3.frozen
            refine hK.out _ _ trivial (fun _ => ?_)
            clear hK K
            simp only [List.setIfInBounds_toArray, List.set_cons_zero, List.set_cons_succ]
            refine wpAnyH_ready (rs := [10]) (by kernel_rfl) (by simp) ?_
            refine AllReadyH.cons (o := _) rfl (fun K hK => ?_) AllReadyH.nil
            go_simp
            refine hK.out _ _ trivial (fun _ => ?_)
            clear hK K
            simp only [List.setIfInBounds_toArray, List.set_cons_zero, List.set_cons_succ]
            refine wpAnyH_done (by kernel_rfl) ?_ _
            refine ⟨by simp, ?_⟩
            gi_wp2
            exact ⟨kO.from _, kB, ⟨_, fbox, by rw [show unS (pre ++ [x]) = unS pre ++ [x.1] by simp [unS], pL_snoc, hPx.out, ocells_snoc, List.length_append]; exact frow, trivial⟩, fbel, fsz⟩
          · go_simp
            have S8 := keep3 (allocBelow u6 (.cells #[.string N1, .int .i64 (md X1.data.toList), .string I1] 72)) (Nat.lt_of_lt_of_le hl3 K6.size) S6
            refine hK.out _ _ trivial (fun _ => ?_)
            clear hK K
            simp only [List.setIfInBounds_toArray, List.set_cons_zero, List.set_cons_succ]
            refine wpAnyH_ready (rs := [0]) (by kernel_rfl) (by simp) ?_
            refine AllReadyH.cons (o := _) rfl (fun K hK => ?_) AllReadyH.nil
            go_simp
            refine hK.out _ _ trivial (fun _ => ?_)
            clear hK K
            simp only [List.setIfInBounds_toArray, List.set_cons_zero]
            refine wpAnyH_ready (rs := [9]) (by kernel_rfl) (by simp) ?_
            refine AllReadyH.cons (o := _) rfl (fun K hK => ?_) AllReadyH.nil
            have R := after_clone3 hv hrow hB hsz (B3.trans (K6.mono B3.size))
            refine stepH_append_own rfl (.tmp 35) (.tmp 43) 25 rfl (w1.heap.size + 2) 72 i0 (.agg #[.string ⟨#[]⟩, .int .i64 0, .string ⟨#[]⟩]) 3 40 Tryz.underlying25 hi hz0 hz1 hz2 rfl (by decide) v _ _ rfl (R.row.alloc _) ⟨u6.heap.size, 0, none⟩ 1 1 [.string N1, .int .i64 (md X1.data.toList), .string I1] rfl rfl (three_new _ _ _ _ _) (by simp [Value.oneCell']) (by unfold maxLen; rw [pL_length]; omega) (by rw [pL_length]; omega) (by have := R.size; simp; omega) ?_
            intro v' w3 hown' hgrow
            obtain ⟨g', cap', rfl⟩ := ownsRow_succ hown'
            obtain ⟨hbx3, kO, kB, fbox, frow, fbel, fsz⟩ := after_append3 R hown' hgrow
            have d3 := hbx3.cell
            have f3 := hbx3.frozen
            refine hK.out _ _ trivial (fun _ => ?_)
            clear hK K
            simp only [List.setIfInBounds_toArray, List.set_cons_zero, List.set_cons_succ]
            refine wpAnyH_ready (rs := [10]) (by kernel_rfl) (by simp) ?_
            refine AllReadyH.cons (o := _) rfl (fun K hK => ?_) AllReadyH.nil
            go_simp
            refine hK.out _ _ trivial (fun _ => ?_)
            clear hK K
            simp only [List.setIfInBounds_toArray, List.set_cons_zero, List.set_cons_succ]
            refine wpAnyH_done (by kernel_rfl) ?_ _
            refine ⟨by simp, ?_⟩
            gi_wp2
            exact ⟨kO.from _, kB, ⟨_, fbox, by rw [show unS (pre ++ [x]) = unS pre ++ [x.1] by simp [unS], pL_snoc, hPx.out, ocells_snoc, List.length_append]; exact frow, trivial⟩, fbel, fsz⟩
  case done =>
    rintro D ys W hD hys ⟨⟨v, hv, hrow, _⟩, hB, hsz⟩ hK
    have hys' : unS ys = linesOf s := hys
    rw [hys', pL_lines] at hrow
    have hc := hv.cell
    obtain ⟨la, lc, rfl⟩ : ∃ a c, v = .slice a (dtP s).length c := by
      rcases hrow.2 with ⟨h', h0'⟩ | ⟨g, c, cur, h', _⟩
      · exact ⟨none, 0, by rw [h', h0']⟩
      · exact ⟨_, _, h'⟩
    have hlen : (dtP s).length ≤ 1048576 := by rw [← pL_lines, pL_length]; omega
    have hgl1 : 0 < w1.heap.size := Nat.lt_of_lt_of_le hgB S1
    have hol1 : 1 < w1.heap.size := Nat.lt_of_lt_of_le hoB S1
    have hlW : w1.heap.size < W.heap.size := hv.lt
    have hOB : OB W.heap.size W la (dtP s) := OB.of hrow
    have hWt := wantTextC la lc (dtP s) s W.drew hOB (hM1.below (below_drew hB) hgl1) (show 0 < W.heap.size by omega) ((ho.below hb1 hoB).below (below_drew hB) hol1) (show 1 < W.heap.size by omega) hlen
    gi_wp2
    refine region_wide (S := fun u => u.cell? ⟨w1.heap.size, 0, none⟩ = some (.slice la (dtP s).length lc)) (by kernel_rfl) hc (fun hHeld => ?_)
    refine takeD (i := 0) (d := 45) (oi := _) (v := ?_) (listed' := #[true, false, false, false, false, false, false]) rfl (by kernel_rfl) (by kernel_rfl) (by kernel_rfl) (fun _ _ _ h => by cases h.1) (Or.inl ⟨by rfl, ?_⟩) hHeld (by kernel_rfl) (by kernel_rfl) ?_
    rotate_left
    · intro w hSw
      try dsimp only at hSw
      first
        | (go_simp; done)
        | (go_simp; with_reducible rfl)
    simp only [Act.put, List.setIfInBounds_toArray, List.set_cons_zero, List.set_cons_succ]
    refine takeD (i := 1) (d := 46) (oi := _) (v := ?_) (listed' := #[true, true, false, false, false, false, false]) rfl (by kernel_rfl) (by kernel_rfl) (by kernel_rfl) (fun _ _ _ h => by cases h.1) (Or.inl ⟨by rfl, ?_⟩) hHeld (by kernel_rfl) (by kernel_rfl) ?_
    rotate_left
    · intro w hSw
      try dsimp only at hSw
      first
        | (go_simp; done)
        | (go_simp; with_reducible rfl)
    simp only [Act.put, List.setIfInBounds_toArray, List.set_cons_zero, List.set_cons_succ]
    refine takeD (i := 2) (d := 47) (oi := _) (v := ?_) (listed' := #[true, true, true, false, false, false, false]) rfl (by kernel_rfl) (by kernel_rfl) (by kernel_rfl) (fun _ _ _ h => by cases h.1) (Or.inl ⟨by rfl, ?_⟩) hHeld (by kernel_rfl) (by kernel_rfl) ?_
    rotate_left
    · intro w hSw
      try dsimp only at hSw
      first
        | (go_simp; done)
        | (go_simp; with_reducible rfl)
    simp only [Act.put, List.setIfInBounds_toArray, List.set_cons_zero, List.set_cons_succ]
    refine takeD (i := 3) (d := 48) (oi := _) (v := ?_) (listed' := #[true, true, true, true, false, false, false]) rfl (by kernel_rfl) (by kernel_rfl) (by kernel_rfl) (fun _ _ _ h => by cases h.1) (Or.inl ⟨by rfl, ?_⟩) hHeld (by kernel_rfl) (by kernel_rfl) ?_
    rotate_left
    · intro w hSw
      try dsimp only at hSw
      first
        | (go_simp; done)
        | (go_simp; with_reducible rfl)
    simp only [Act.put, List.setIfInBounds_toArray, List.set_cons_zero, List.set_cons_succ]
    refine wpAnyH_ready (rs := [4]) (by kernel_rfl) (by simp) ?_
    refine AllReadyH.cons (o := _) rfl (fun K hK' => ?_) AllReadyH.nil
    go_simp
    refine hWt.mono ?_
    rintro e u4 ⟨hw2, k4⟩
    have K4 : Below W.heap.size W u4 := (below_drew (Below.refl _ W)).trans k4
    have S4 : u4.cell? ⟨w1.heap.size, 0, none⟩ = some (.slice la (dtP s).length lc) := (K4.cell (p := ⟨w1.heap.size, 0, none⟩) hlW).trans hc
    have hD' : D < W.heap.size := (Array.getElem?_eq_some_iff.1 hK).1
    have hK4 : u4.heap[D]? = some (.deferred (some [])) := (K4.block D hD').trans hK
    have hrow4 := hrow.kept (grown_of_below K4 none) (by cases la <;> simp [Value.ownBlock])
    have hB4 : Below w.heap.size w u4 := hb1.trans ((hB.trans (K4.mono (by omega))).mono S1)
    have hBD := hB4.trans (belowK_b (w := w) (Nat.le_refl _) u4 D _ (.deferred none) (by simp at hD; omega) hK4 rfl rfl)
    have hrowD : (u4.putObj D (.deferred none)).ownsRow w.heap.size 72 3 (.slice la (dtP s).length lc) (dtP s).length (ocells (dtP s)) := ownsRow_mono3 (ownsRow_putObj hrow4 _ hK4 rfl) (by omega)
    rcases hw2 with ⟨hy, rfl⟩ | ⟨hy, T, u, rfl⟩
    · have HR : Hid (RT s w (.returned (.tuple #[.slice la (dtP s).length lc, .nilIface])) (u4.putObj D (.deferred none))) := ⟨hBD, .inl ⟨by unfold dtI; simp [h0, hy.1, hy.2], _, rfl, hrowD⟩⟩
      refine hK'.out _ _ S4 (fun hS4 => ?_)
      clear hK' K
      simp only [List.setIfInBounds_toArray, List.set_cons_zero, List.set_cons_succ]
      refine takeD (i := 5) (d := 2) (oi := _) (v := ?_) (listed' := #[true, true, true, true, true, true, false]) rfl (by kernel_rfl) (by kernel_rfl) (by kernel_rfl) (fun _ _ _ h => by cases h.1) (Or.inl ⟨by rfl, ?_⟩) hS4 (by kernel_rfl) (by kernel_rfl) ?_
      rotate_left
      · intro w hSw
        try dsimp only at hSw
        first
          | (go_simp; done)
          | (go_simp; with_reducible rfl)
      simp only [Act.put, List.setIfInBounds_toArray, List.set_cons_zero, List.set_cons_succ]
      refine takeD (i := 6) (d := 3) (oi := _) (v := ?_) (listed' := #[true, true, true, true, true, true, true]) rfl (by kernel_rfl) (by kernel_rfl) (by kernel_rfl) (fun _ _ _ h => by cases h.1) (Or.inl ⟨by rfl, ?_⟩) hS4 (by kernel_rfl) (by kernel_rfl) ?_
      rotate_left
      · intro w hSw
        try dsimp only at hSw
        first
          | (go_simp; done)
          | (go_simp; with_reducible rfl)
      simp only [Act.put, List.setIfInBounds_toArray, List.set_cons_zero, List.set_cons_succ]
      refine wpAnyH_done (by kernel_rfl) ?_ _
      refine ⟨rfl, ?_⟩
      gi_wp2
      refine ⟨by simp, .inl ⟨_, _, rfl, run_takeDeferred hK4, ?_⟩⟩
      exact ⟨_, results_tmp2 (t := 2) (u := 3) rfl _ _ _, HR.out⟩
    · have HR : Hid (RT s w (.returned (.tuple #[.slice la (dtP s).length lc, .iface 80 (.agg #[.iface T u])])) (u4.putObj D (.deferred none))) := ⟨hBD, .inr ⟨by
          unfold dtI
          rw [h0]
          by_cases q1 : tfl (dtP s) = 0
          · have q2 : ¬ trB (dtP s) = s := fun k => hy ⟨q1, k⟩
            simp [q1, q2]
          · simp [q1], _, _, _, rfl⟩⟩
      refine hK'.out _ _ S4 (fun hS4 => ?_)
      clear hK' K
      simp only [List.setIfInBounds_toArray, List.set_cons_zero, List.set_cons_succ]
      refine takeD (i := 5) (d := 2) (oi := _) (v := ?_) (listed' := #[true, true, true, true, true, true, false]) rfl (by kernel_rfl) (by kernel_rfl) (by kernel_rfl) (fun _ _ _ h => by cases h.1) (Or.inl ⟨by rfl, ?_⟩) hS4 (by kernel_rfl) (by kernel_rfl) ?_
      rotate_left
      · intro w hSw
        try dsimp only at hSw
        first
          | (go_simp; done)
          | (go_simp; with_reducible rfl)
      simp only [Act.put, List.setIfInBounds_toArray, List.set_cons_zero, List.set_cons_succ]
      refine takeD (i := 6) (d := 3) (oi := _) (v := ?_) (listed' := #[true, true, true, true, true, true, true]) rfl (by kernel_rfl) (by kernel_rfl) (by kernel_rfl) (fun _ _ _ h => by cases h.1) (Or.inl ⟨by rfl, ?_⟩) hS4 (by kernel_rfl) (by kernel_rfl) ?_
      rotate_left
      · intro w hSw
        try dsimp only at hSw
        first
          | (go_simp; done)
          | (go_simp; with_reducible rfl)
      simp only [Act.put, List.setIfInBounds_toArray, List.set_cons_zero, List.set_cons_succ]
      refine wpAnyH_done (by kernel_rfl) ?_ _
      refine ⟨rfl, ?_⟩
      gi_wp2
      refine ⟨by simp, .inl ⟨_, _, rfl, run_takeDeferred hK4, ?_⟩⟩
      exact ⟨_, results_tmp2 (t := 2) (u := 3) rfl _ _ _, HR.out⟩
  case stop =>
    rintro D c pre W _ _ h _
    exact h.elim
end Go.Proofs.YtijphomojljckaaGreatDoor.Te
/- The contracts of the program's readTree (whole) and DecodeTree. No statement is proved here. -/
namespace Go.Proofs.YtijphomojljckaaGreatDoor.Te
open Go.ChangeShapes Go.WideShapes Go.ChangeAt Go.RowKit

theorem dtI_no {s : ByteArray} (h : ¬ tf s = 0) : dtI s = false := by unfold dtI; rw [decide_eq_false h]; rfl
set_option maxRecDepth 20000 in
set_option maxHeartbeats 1000000 in
theorem readTree_no (s : ByteArray) (w : World) (hs : s.size ≤ 1048576) (h0 : ¬ tf s = 0) :
    Calls Tryz.prog 21 #[.string s] w fun e w' => RT s w e w' := by
  have hT := fun w => implTextFault s w hs
  have HI : Hid (dtI s = false) := dtI_no h0
  obtain ⟨r, hr⟩ : ∃ r, tf s = r := ⟨_, rfl⟩
  rw [hr] at h0
  simp only [hr] at hT
  have q : (r != 0) = true := by simpa using h0
  clear hr h0
  go_enter Tryz.func21, Tryz.ntmps21
  go_wp2_with fail
  refine (hT _).mono ?_; rintro e w1 ⟨rfl, b1⟩
  clear hT
  go_wp2
  go_ret2
  exact ⟨b1, .inr ⟨HI.out, _, _, _, rfl⟩⟩
theorem readTreeC (s : ByteArray) (w : World) (hs : s.size ≤ 1048576) (hg : MwG w) (hgB : 0 < w.heap.size) (ho : OfG w) (hoB : 1 < w.heap.size) :
    Calls Tryz.prog 21 #[.string s] w fun e w' => RT s w e w' := by
  by_cases h0 : tf s = 0
  · exact readTree_ok s w hs h0 hg hgB ho hoB
  · exact readTree_no s w hs h0
/-- What DecodeTree answers. -/
def dtC (s : ByteArray) : Int := if dtI s = true then 0 else 5
def dtE (s : ByteArray) : List Ob := if dtI s = true then dtP s else []
def DT (s : ByteArray) (w : World) (e : Ending) (w' : World) : Prop := ∃ v, e = .returned (.agg #[.int .i64 (dtC s), v]) ∧ w'.ownsRow w.heap.size 72 3 v (dtE s).length (ocells (dtE s)) ∧ Below w.heap.size w w'
theorem dt_yes {s : ByteArray} (h : dtI s = true) : dtC s = 0 ∧ dtE s = dtP s := ⟨if_pos h, if_pos h⟩
theorem dt_no {s : ByteArray} (h : dtI s = false) : dtC s = 5 ∧ dtE s = [] := ⟨if_neg (by rw [h]; decide), if_neg (by rw [h]; decide)⟩
theorem nilRowT (w : World) (b : Nat) : w.ownsRow b 72 3 (.slice none 0 0) ([] : List Ob).length (ocells []) := World.ownsRow_nil _ _ _ _
theorem own_two {w : World} {base p : Nat} {e : TypeId} {s : Nat} {v : Value} {n : Nat} {xs : List Value} (h : w.ownsRow base e s v n xs) (hp : p < base) (a0 a1 : Value) : ((w.setCell ⟨p, 0, none⟩ a0).setCell ⟨p, 1, none⟩ a1).ownsRow base e s v n xs :=
  ownsRow_setCell_below (ownsRow_setCell_below h (a := ⟨p, 0, none⟩) hp a0) (a := ⟨p, 1, none⟩) hp a1
set_option maxRecDepth 20000 in
set_option maxHeartbeats 2000000 in
theorem implDecodeTree (s : ByteArray) (w : World) (hs : s.size ≤ 1048576) (hg : MwG w) (hgB : 0 < w.heap.size) (ho : OfG w) (hoB : 1 < w.heap.size) (hE : ErrG w) :
    Calls Tryz.prog 6 #[.string s] w fun e w' => DT s w e w' := by
  obtain ⟨W1, hW1⟩ : ∃ W1, w.alloc (.cells #[.int .i64 0, .slice none 0 0] 27) = W1 := ⟨_, rfl⟩
  have b1 : Below w.heap.size w W1 := by rw [← hW1]; exact allocBelow _ _
  have z1 : w.heap.size < W1.heap.size := by rw [← hW1]; simp
  have r1 : Rf W1 w.heap.size [.int .i64 0, .slice none 0 0] := by rw [← hW1]; exact Rf.new _ _ _
  have hR := readTreeC s W1 hs (hg.below b1 hgB) (by omega) (ho.below b1 hoB) (by omega)
  go_enter Tryz.func6, Tryz.ntmps6
  go_wp2_with fail
  refine hR.mono ?_
  rintro e w2 ⟨b2, he⟩
  have r2 := r1.below z1 b2
  have B2 : Below w.heap.size w w2 := b1.trans (b2.mono b1.size)
  have z2 := b2.size
  clear hR r1 hW1 b1
  rcases he with ⟨hy, v, rfl, hrow⟩ | ⟨hy, v, T, u, rfl⟩
  · obtain ⟨y1, y2⟩ := dt_yes hy
    have HY : Hid (dtC s = 0 ∧ dtE s = dtP s) := ⟨y1, y2⟩
    obtain ⟨la, lc, rfl⟩ : ∃ a c, v = .slice a (dtP s).length c := by
      rcases hrow.2 with ⟨h', h0'⟩ | ⟨g, c, cur, h', _⟩
      · exact ⟨none, 0, by rw [h', h0']⟩
      · exact ⟨_, _, h'⟩
    have d0 := r2.at_ 0 _ rfl
    have d1 := r2.at_ 1 _ rfl
    have f0 := r2.fz 0
    have f1 := r2.fz 1
    have HB : ∀ a0 a1, Hid (Below w.heap.size w ((w2.setCell ⟨w.heap.size, 0, none⟩ a0).setCell ⟨w.heap.size, 1, none⟩ a1)) := fun a0 a1 => below_sets B2 (Nat.le_refl _) a0 a1
    have HO : ∀ a0 a1, Hid (((w2.setCell ⟨w.heap.size, 0, none⟩ a0).setCell ⟨w.heap.size, 1, none⟩ a1).ownsRow w.heap.size 72 3 (.slice la (dtP s).length lc) (dtP s).length (ocells (dtP s))) := fun a0 a1 => ownsRow_mono3 (own_two hrow z1 a0 a1) (Nat.le_of_lt z1)
    clear hy y1 y2 hrow r2 b2 B2
    obtain ⟨L, hL⟩ : ∃ L, dtP s = L := ⟨_, rfl⟩
    rw [hL] at HY HO ⊢
    clear hL
    go_wp2
    refine bodyPost_ret (v := .agg #[.int .i64 0, .slice la L.length lc]) (by simp [results, Tryz.results6, go_sem, d0, d1]) rfl ?_
    unfold DT
    rw [HY.out.1, HY.out.2]
    exact ⟨_, rfl, (HO _ _).out, (HB _ _).out⟩
  · obtain ⟨y1, y2⟩ := dt_no hy
    have HY : Hid (dtC s = 5 ∧ dtE s = []) := ⟨y1, y2⟩
    have hD := codeOf_read T u w2 (hE.below B2)
    clear hy y1 y2
    go_wp2_with fail
    refine hD.mono ?_
    rintro e w3 ⟨rfl, b3⟩
    have r3 := r2.below (by omega) b3
    have B3 := B2.trans (b3.mono B2.size)
    have d0 := r3.at_ 0 _ rfl
    have d1 := r3.at_ 1 _ rfl
    have f0 := r3.fz 0
    have f1 := r3.fz 1
    have HB : ∀ a0 a1, Hid (Below w.heap.size w ((w3.setCell ⟨w.heap.size, 0, none⟩ a0).setCell ⟨w.heap.size, 1, none⟩ a1)) := fun a0 a1 => below_sets B3 (Nat.le_refl _) a0 a1
    clear hD r2 r3 b2 b3 B2 B3
    go_wp2
    refine bodyPost_ret (v := .agg #[.int .i64 5, .slice none 0 0]) (by simp [results, Tryz.results6, go_sem, d0, d1]) rfl ?_
    unfold DT
    rw [HY.out.1, HY.out.2]
    exact ⟨_, rfl, nilRowT _ _, (HB _ _).out⟩
end Go.Proofs.YtijphomojljckaaGreatDoor.Te
