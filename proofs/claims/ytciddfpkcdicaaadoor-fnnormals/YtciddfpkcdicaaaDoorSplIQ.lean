/- The contract of impl.SplitLines. No statement is proved here. -/
import Derived.Test.YtciddfpkcdicaaaDoorIterQ
import Derived.Test.YtciddfpkcdicaaaDoorTFQ
import Derived.Test.YtciddfpkcdicaaaDoorSplQ
import Derived.Test.YtciddfpkcdicaaaDoorShelfQ
import Derived.Test.YtciddfpkcdicaaaDoorMarksQ
import Derived.RangeFuncWrites
import Derived.Maps.AppendAt
import Derived.OwnWalkIn
namespace Go.Proofs.YtciddfpkcdicaaaDoor
open Go.RowKit Go.Shelf
attribute [local go_sem] Oper.semAt_some

theorem clone (s : ByteArray) (w : World) (hlim : s.size ≤ 281474976710656) :
    Calls Tryd.prog 41 #[.string s] w fun e w' => e = .returned (.string s) ∧ Below w.heap.size w w' := by
  go_enter Tryd.func41, Tryd.ntmps41
  go_wp2_with (go_at_call 63; refine (Tryd.stringslite_Clone _ _ hlim).mono ?_; rintro e w' ⟨rfl, hb⟩)
  go_ret
  exact ⟨rfl, by assumption⟩

/-- append onto a row of the call's own, as one step of a region that draws, inside a fence. -/
theorem stepIn_append_own {F : Fence} {n : Nat} {P : Program} {ops : Array Oper} {o : Oper} {a : Act} {w : World} {K : Act → World → Prop} {Q : Exit → Act → World → Prop} {E : Prop}
    (hg : o.guard = none) (s x : Operand) (t : TypeId) (hop : o.op = Op.call { callee := Callee.builtin Builtin.append, args := #[s, x], argTypes := #[t, t] })
    (base : Nat) (e : TypeId) (i : TypeInfo) (z : Value) (size bytes : Nat) (h1 : P.underlying t = some (.slice e)) (h2 : P.info? e = some i) (h3 : i.zero = some z) (h4 : i.size = size) (h5 : i.bytes = bytes) (h6 : z.cells.size = size) (h7 : 0 < size)
    (v : Value) (k : Nat) (xs : List Value) (hs : a.eval s = v) (hown : w.ownsRow base e size v k xs) (ad : Addr) (m c : Nat) (news : List Value) (hx : a.eval x = .slice (some ad) m c) (hn : news.length = m * size)
    (hc : ∀ j u, news[j]? = some u → w.cell? (ad.add j) = some u) (h1c : ∀ u ∈ news, u.oneCell' = true) (b1 : k + m ≤ maxLen) (b2 : (k + m) * bytes ≤ 140737488355328) (b3 : base ≤ w.heap.size)
    (hK : ∀ v' w', w'.ownsRow base e size v' (k + m) (xs ++ news) → w.grownBy w' v.ownBlock → K (a.put o.dst v') w') :
    if Region.wanted o (yielded ops a.tmps) = true then Oper.wpIn F n P o a w K Q else E := by
  have hw : Region.wanted o (yielded ops a.tmps) = true := by simp [Region.wanted, hg]
  rw [if_pos hw]
  obtain ⟨v', w', hrun, r1, r2, _⟩ := run_append_own (P := P) w base t o.type e i z size bytes h1 h2 h3 h4 h5 h6 h7 v k xs hown ad m c news hn hc h1c b1 b2 b3
  unfold Oper.wpIn
  refine ⟨?_, ?_⟩
  · simp [Oper.about, hop, resolve, Target.leads, Sem.run_pure]
  · rw [Oper.semAt_plain F _ _ (by rw [hop]; intro c hc'; cases hc')]
    simp [execOp, hop, resolve, invoke, builtin, hs, hx, hrun, Result.andThen]
    exact hK v' w' r1 r2

theorem ownsRow_mono {w : World} {B B' : Nat} {e : TypeId} {size n : Nat} {v : Value} {xs : List Value} (h : w.ownsRow B e size v n xs) (hB : B' ≤ B) : w.ownsRow B' e size v n xs :=
  ⟨h.1, h.2.imp id fun ⟨g, cap, cur, h1, h2, h3⟩ => ⟨g, cap, cur, h1, Nat.le_trans hB h2, h3⟩⟩
/-- What stands behind the copy of a line. -/
structure RC (w1 W w2 : World) (v : Value) (ss : List ByteArray) : Prop where
  box : Boxed w2 w1.heap.size 38 v
  row : w2.ownsRow (w1.heap.size + 2) 9 1 v ss.length (ss.map Value.string)
  below : Below w1.heap.size w1 w2
  size : w1.heap.size + 2 ≤ w2.heap.size
  keepB : KeepB (w1.heap.size + 1) W w2
  keeps : KeepsOthers W w2
theorem after_clone {w1 W w2 : World} {v : Value} {ss : List ByteArray} (hv : Boxed W w1.heap.size 38 v) (hrow : W.ownsRow (w1.heap.size + 2) 9 1 v ss.length (ss.map Value.string))
    (hB : Below w1.heap.size w1 W) (hsz : w1.heap.size + 2 ≤ W.heap.size) (hb2 : Below W.heap.size W w2) : RC w1 W w2 v ss where
  box := hv.kept (grown_of_below hb2 none) (by simp)
  row := hrow.kept (grown_of_below hb2 none) (by
    rcases h : v.ownBlock with _ | j
    · exact .inl rfl
    · exact .inr (by simp))
  below := hB.trans (hb2.mono hB.size)
  size := Nat.le_trans hsz hb2.size
  keepB := hb2.block _ (by omega)
  keeps := KeepsOthers.of_grownBy (grown_of_below hb2 none) (fun j o ej _ => by cases ej)
theorem after_append {w1 W w2 w3 : World} {v v' : Value} {ss : List ByteArray} {ys : List Value} {tmp : Obj} {m : Nat} (R : RC w1 W w2 v ss)
    (hown' : w3.ownsRow (w1.heap.size + 2) 9 1 v' m ys) (hgrow : (w2.alloc tmp).grownBy w3 v.ownBlock) :
    Boxed w3 w1.heap.size 38 v ∧ KeepsOthers W (w3.setCell ⟨w1.heap.size, 0, none⟩ v') ∧ KeepB (w1.heap.size + 1) W (w3.setCell ⟨w1.heap.size, 0, none⟩ v') ∧ Boxed (w3.setCell ⟨w1.heap.size, 0, none⟩ v') w1.heap.size 38 v' ∧
      (w3.setCell ⟨w1.heap.size, 0, none⟩ v').ownsRow (w1.heap.size + 2) 9 1 v' m ys ∧ Below w1.heap.size w1 (w3.setCell ⟨w1.heap.size, 0, none⟩ v') ∧ w1.heap.size + 2 ≤ (w3.setCell ⟨w1.heap.size, 0, none⟩ v').heap.size := by
  have hne : (38 : TypeId) ≠ 9 := by decide
  have hv1 : Boxed w3 w1.heap.size 38 v := (R.box.alloc tmp).kept hgrow (R.box.not_row hne R.row)
  have hge : ∀ j, v.ownBlock = some j → w1.heap.size + 2 ≤ j := fun j hj => (R.row.lt j hj).1
  have hsz3 : w1.heap.size + 2 ≤ w3.heap.size := by have h1 := hgrow.size; have h2 := R.size; simp at h1; omega
  refine ⟨hv1, ?_, ?_, hv1.set v', hown'.kept (grownBy_setCell' w3 _ v') (.inr (hv1.not_row hne hown').symm), ?_, ?_⟩
  · refine ((R.keeps.trans (KeepsOthers.alloc w2 tmp)).trans (KeepsOthers.of_grownBy hgrow fun j o ej hj => ?_)).trans (KeepsOthers.setCell _ _ _)
    rcases (R.row.alloc tmp).2 with ⟨rfl, _⟩ | ⟨g, cap, cur, rfl, _, hgb, _⟩
    · simp [Value.ownBlock] at ej
    · obtain rfl : g = j := by simpa [Value.ownBlock] using ej
      rw [hgb] at hj; cases hj; rfl
  · have e1 : (w3.setCell ⟨w1.heap.size, 0, none⟩ v').heap[w1.heap.size + 1]? = w3.heap[w1.heap.size + 1]? := Below.heap_setCell _ _ _ _ (by simp)
    have e2 : w3.heap[w1.heap.size + 1]? = (w2.alloc tmp).heap[w1.heap.size + 1]? := hgrow.block _ (by have := R.size; simp; omega) (fun e => by have := hge _ e.symm; omega)
    have e3 : (w2.alloc tmp).heap[w1.heap.size + 1]? = w2.heap[w1.heap.size + 1]? := Below.heap_alloc _ _ _ (by have := R.size; omega)
    exact e1.trans (e2.trans (e3.trans R.keepB))
  · refine ((R.below.alloc (by have := R.size; omega) tmp).grown hgrow (by have := R.size; simp; omega) fun j ej => ?_).setCell (p := ⟨w1.heap.size, 0, none⟩) (Nat.le_refl _) v'
    have := hge j ej; omega
  · simpa using hsz3

/-- What SplitLines answers. -/
def splitL (s : ByteArray) : List ByteArray := if tf s = 0 then linesOf s else []
theorem splitL_ok {s : ByteArray} (h : tf s = 0) : splitL s = linesOf s := if_pos h
theorem splitL_no {s : ByteArray} (h : ¬ tf s = 0) : splitL s = [] := if_neg h

set_option maxRecDepth 100000 in
set_option maxHeartbeats 2000000 in
theorem implSplitLines (s : ByteArray) (w : World) (hs : s.size ≤ 1048576) :
    Calls Tryd.prog 25 #[.string s] w fun e w' => ∃ v, e = .returned (.agg #[.int .i64 (tf s), v]) ∧ w'.ownsRow w.heap.size 9 1 v (splitL s).length ((splitL s).map Value.string) ∧ Below w.heap.size w w' := by
  have hT := fun w => implTextFault s w hs
  by_cases h0 : tf s = 0
  · have hJ := splitL_ok h0
    rw [hJ, h0]
    rw [h0] at hT
    obtain ⟨i0, hi, hz0, hz1, hz2⟩ := info_parts infoString
    have hll := lines_le s
    have hsm := lines_small s hs
    refine (callsIn_wide (n := 5)).1 ?_
    refine callsIn_of_wp_marks Tryd.func25 rfl trivial ?_ rfl
    simp only [Tryd.ntmps25, List.size_toArray, List.length_cons, List.length_nil, Nat.reduceAdd, Nat.reduceSub, Array.replicate_succ, Array.replicate_zero, List.push_toArray, List.append_toArray, List.nil_append, List.cons_append]
    gi_wp2_with (refine ⟨trivial, ?_⟩; gi_at_call 19; refine (callsIn_wide.2 (hT _)).mono ?_; rintro e w1 ⟨rfl, hb1⟩)
    have S1 := hb1.size
    simp only [World.size_alloc] at S1
    have f0 : w1.frozen? ⟨w.heap.size, 0, none⟩ = false := (hb1.frozen (p := ⟨w.heap.size, 0, none⟩) (by simp)).trans (by simp)
    have f1 : w1.frozen? ⟨w.heap.size, 1, none⟩ = false := (hb1.frozen (p := ⟨w.heap.size, 1, none⟩) (by simp)).trans (by simp)
    have c0 : w1.cell? ⟨w.heap.size, 0, none⟩ = some (.int .i64 0) := (hb1.cell (p := ⟨w.heap.size, 0, none⟩) (by simp)).trans (by simp)
    have c1 : w1.cell? ⟨w.heap.size, 1, none⟩ = some (.slice none 0 0) := (hb1.cell (p := ⟨w.heap.size, 1, none⟩) (by simp)).trans (by simp)
    have hbw : Below w.heap.size w w1 := ((Below.refl _ _).alloc (Nat.le_refl _) _).trans (hb1.mono (by simp))
    clear hb1 hJ hT
    refine ⟨trivial, ?_⟩
    refine (callsIn_wide.2 (linesIn_any _ _)).mono ?_; rintro e w' ⟨rfl, rfl⟩
    gi_wp2
    have bO := Boxed.new w1 38 (.slice none 0 0)
    have hbx : ((w1.alloc (.cells #[.slice none 0 0] 38)).alloc (.cells #[.string s] 9)).heap[w1.heap.size + 1]? = some (.cells #[.string s] 9 (0, 0)) := by
      have := World.alloc_heap_new (w1.alloc (.cells #[.slice none 0 0] 38)) (.cells #[.string s] 9)
      rwa [World.size_alloc] at this
    have hB0 : Below w1.heap.size w1 ((w1.alloc (.cells #[.slice none 0 0] 38)).alloc (.cells #[.string s] 9)) := ((Below.refl _ w1).alloc (Nat.le_refl _) _).alloc (by simp) _
    refine wpIn_rangeFunc_ownG rfl (by omega) (gf := 59) (lb := #[.pointer (some ⟨w1.heap.size + 1, 0, none⟩)]) rfl trivial (enters_of Tryd.func59 (by kernel_rfl) rfl)
      (lines_stopsS _ (by omega) (w1.heap.size + 1) s hs _ (by simp) hbx) keepB_t (keepB_b (by simp)) (Below.refl _ _) (fun _ => rfl)
      (fun pre W => (∃ v, Boxed W w1.heap.size 38 v ∧ W.ownsRow (w1.heap.size + 2) 9 1 v (unS pre).length ((unS pre).map Value.string) ∧ True) ∧ Below w1.heap.size w1 W ∧ w1.heap.size + 2 ≤ W.heap.size)
      (fun _ _ _ => False)
      (OwnFrom.and (Own.from (holdsRow_own (w1.heap.size + 2) w1.heap.size 38 9 1 (fun pre => (unS pre).length) (fun pre => (unS pre).map Value.string) (fun _ _ => True)) _) (OwnFrom.and (ownFrom_below (Nat.le_refl _) (by simp; omega)) (fun _ _ _ _ hs hg _ => Nat.le_trans hs hg.size)))
      (fun _ _ _ _ _ hs _ _ => hs)
      ⟨⟨_, bO.alloc _, World.ownsRow_nil _ _ _ _, trivial⟩, hB0, by simp⟩
      (fun x => { tmps := #[.string s, undef, .pointer (some ⟨w.heap.size, 0, none⟩), .int .i64 0, .pointer (some ⟨w1.heap.size, 0, none⟩), .string x.1, .string s, .int .i64 0, .int .i64 0, .bool false, undef, undef, .string s, .func (.func 59) #[] #[.pointer (some ⟨w1.heap.size + 1, 0, none⟩)], .string x.1, undef, undef, undef, undef, undef, undef, undef], defers := [] }) ?assign ?body ?done ?stop
    case assign =>
      intro l x W K hK
      gi_wp2
      first | exact hK | simpa using hK
    case body =>
      rintro l pre x W ⟨⟨v, hv, hrow, _⟩, hB, hsz⟩ hlen
      have hc := hv.cell
      have hlim : x.1.size ≤ 281474976710656 := Nat.le_trans x.2 (by omega)
      have hul : (unS pre).length < (linesOf s).length := by simpa [unS] using hlen
      gi_wp2
      refine wpIn_region_any (by kernel_rfl) ?_
      change wpAnyIn _ _ _ _ _ _ _ _ _ (World.drew _)
      refine wpAnyIn_ready (rs := [0, 1]) (by kernel_rfl) (by simp) ?_
      refine AllReadyIn.cons rfl (fun K hK => ?_) (AllReadyIn.cons rfl (fun K hK => ?_) AllReadyIn.nil)
      · go_simp
        refine hK _ _ ?_
        clear hK K
        refine wpAnyIn_ready (rs := [1]) (by kernel_rfl) (by simp) ?_
        refine AllReadyIn.cons rfl (fun K hK => ?_) AllReadyIn.nil
        go_simp
        refine hK _ _ ?_
        clear hK K
        refine wpAnyIn_ready (rs := [2]) (by kernel_rfl) (by simp) ?_
        refine AllReadyIn.cons rfl (fun K hK => ?_) AllReadyIn.nil
        go_simp
        gi_wp2_with (refine ⟨trivial, ?_⟩; gi_at_call 41; refine (CallsIn.inRound l (callsIn_wide.2 (clone x.1 _ hlim))).mono ?_; rintro e w2 ⟨rfl, hb2⟩)
        have hb2' : Below W.heap.size W w2 := ⟨hb2.os, hb2.tape, hb2.output, hb2.size, hb2.block⟩
        have hc2 : w2.cell? ⟨w1.heap.size, 0, none⟩ = some v := (hb2.cell (p := ⟨w1.heap.size, 0, none⟩) hv.lt).trans hc
        have hlt2 : w1.heap.size < w2.heap.size := Nat.lt_of_lt_of_le hv.lt hb2'.size
        refine wpAnyIn_ready (rs := [3]) (by kernel_rfl) (by simp) ?_
        refine AllReadyIn.cons rfl (fun K hK => ?_) AllReadyIn.nil
        go_simp
        refine hK _ _ ?_
        clear hK K
        refine wpAnyIn_ready (rs := [4]) (by kernel_rfl) (by simp) ?_
        refine AllReadyIn.cons rfl (fun K hK => ?_) AllReadyIn.nil
        have R := after_clone hv hrow hB hsz hb2'
        refine stepIn_append_own rfl (.tmp 15) (.tmp 18) 38 rfl (w1.heap.size + 2) 9 i0 (.string ByteArray.empty) 1 16 Tryd.underlying38 hi hz0 hz1 hz2 rfl (by decide) v _ _ rfl (R.row.alloc _) ⟨w2.heap.size, 0, none⟩ 1 1 [.string x.1] rfl rfl (cell_one_new _ _ _) (by simp [Value.oneCell']) (by unfold maxLen; omega) (by omega) (by have := R.size; simp; omega) ?_
        intro v' w3 hown' hgrow
        obtain ⟨g', cap', rfl⟩ := ownsRow_succ hown'
        obtain ⟨hbx3, kO, kB, fbox, frow, fbel, fsz⟩ := after_append R hown' hgrow
        have d3 := hbx3.cell
        have f3 := hbx3.frozen
        refine hK _ _ ?_
        clear hK K
        refine wpAnyIn_ready (rs := [5]) (by kernel_rfl) (by simp) ?_
        refine AllReadyIn.cons rfl (fun K hK => ?_) AllReadyIn.nil
        go_simp
        refine hK _ _ ?_
        clear hK K
        refine wpAnyIn_done (by kernel_rfl) ?_ _
        gi_wp2
        exact ⟨kO.from _, kB, ⟨_, fbox, by simpa [unS] using frow, trivial⟩, fbel, fsz⟩
      · go_simp
        refine hK _ _ ?_
        clear hK K
        refine wpAnyIn_ready (rs := [0, 2]) (by kernel_rfl) (by simp) ?_
        refine AllReadyIn.cons rfl (fun K hK => ?_) (AllReadyIn.cons rfl (fun K hK => ?_) AllReadyIn.nil)
        · go_simp
          refine hK _ _ ?_
          clear hK K
          refine wpAnyIn_ready (rs := [2]) (by kernel_rfl) (by simp) ?_
          refine AllReadyIn.cons rfl (fun K hK => ?_) AllReadyIn.nil
          go_simp
          gi_wp2_with (refine ⟨trivial, ?_⟩; gi_at_call 41; refine (CallsIn.inRound l (callsIn_wide.2 (clone x.1 _ hlim))).mono ?_; rintro e w2 ⟨rfl, hb2⟩)
          have hb2' : Below W.heap.size W w2 := ⟨hb2.os, hb2.tape, hb2.output, hb2.size, hb2.block⟩
          have hc2 : w2.cell? ⟨w1.heap.size, 0, none⟩ = some v := (hb2.cell (p := ⟨w1.heap.size, 0, none⟩) hv.lt).trans hc
          have hlt2 : w1.heap.size < w2.heap.size := Nat.lt_of_lt_of_le hv.lt hb2'.size
          refine wpAnyIn_ready (rs := [3]) (by kernel_rfl) (by simp) ?_
          refine AllReadyIn.cons rfl (fun K hK => ?_) AllReadyIn.nil
          go_simp
          refine hK _ _ ?_
          clear hK K
          refine wpAnyIn_ready (rs := [4]) (by kernel_rfl) (by simp) ?_
          refine AllReadyIn.cons rfl (fun K hK => ?_) AllReadyIn.nil
          have R := after_clone hv hrow hB hsz hb2'
          refine stepIn_append_own rfl (.tmp 15) (.tmp 18) 38 rfl (w1.heap.size + 2) 9 i0 (.string ByteArray.empty) 1 16 Tryd.underlying38 hi hz0 hz1 hz2 rfl (by decide) v _ _ rfl (R.row.alloc _) ⟨w2.heap.size, 0, none⟩ 1 1 [.string x.1] rfl rfl (cell_one_new _ _ _) (by simp [Value.oneCell']) (by unfold maxLen; omega) (by omega) (by have := R.size; simp; omega) ?_
          intro v' w3 hown' hgrow
          obtain ⟨g', cap', rfl⟩ := ownsRow_succ hown'
          obtain ⟨hbx3, kO, kB, fbox, frow, fbel, fsz⟩ := after_append R hown' hgrow
          have d3 := hbx3.cell
          have f3 := hbx3.frozen
          refine hK _ _ ?_
          clear hK K
          refine wpAnyIn_ready (rs := [5]) (by kernel_rfl) (by simp) ?_
          refine AllReadyIn.cons rfl (fun K hK => ?_) AllReadyIn.nil
          go_simp
          refine hK _ _ ?_
          clear hK K
          refine wpAnyIn_done (by kernel_rfl) ?_ _
          gi_wp2
          exact ⟨kO.from _, kB, ⟨_, fbox, by simpa [unS] using frow, trivial⟩, fbel, fsz⟩
        · go_simp
          gi_wp2_with (refine ⟨trivial, ?_⟩; gi_at_call 41; refine (CallsIn.inRound l (callsIn_wide.2 (clone x.1 _ hlim))).mono ?_; rintro e w2 ⟨rfl, hb2⟩)
          have hb2' : Below W.heap.size W w2 := ⟨hb2.os, hb2.tape, hb2.output, hb2.size, hb2.block⟩
          have hc2 : w2.cell? ⟨w1.heap.size, 0, none⟩ = some v := (hb2.cell (p := ⟨w1.heap.size, 0, none⟩) hv.lt).trans hc
          have hlt2 : w1.heap.size < w2.heap.size := Nat.lt_of_lt_of_le hv.lt hb2'.size
          refine wpAnyIn_ready (rs := [0, 3]) (by kernel_rfl) (by simp) ?_
          refine AllReadyIn.cons rfl (fun K hK => ?_) (AllReadyIn.cons rfl (fun K hK => ?_) AllReadyIn.nil)
          · go_simp
            refine hK _ _ ?_
            clear hK K
            refine wpAnyIn_ready (rs := [3]) (by kernel_rfl) (by simp) ?_
            refine AllReadyIn.cons rfl (fun K hK => ?_) AllReadyIn.nil
            go_simp
            refine hK _ _ ?_
            clear hK K
            refine wpAnyIn_ready (rs := [4]) (by kernel_rfl) (by simp) ?_
            refine AllReadyIn.cons rfl (fun K hK => ?_) AllReadyIn.nil
            have R := after_clone hv hrow hB hsz hb2'
            refine stepIn_append_own rfl (.tmp 15) (.tmp 18) 38 rfl (w1.heap.size + 2) 9 i0 (.string ByteArray.empty) 1 16 Tryd.underlying38 hi hz0 hz1 hz2 rfl (by decide) v _ _ rfl (R.row.alloc _) ⟨w2.heap.size, 0, none⟩ 1 1 [.string x.1] rfl rfl (cell_one_new _ _ _) (by simp [Value.oneCell']) (by unfold maxLen; omega) (by omega) (by have := R.size; simp; omega) ?_
            intro v' w3 hown' hgrow
            obtain ⟨g', cap', rfl⟩ := ownsRow_succ hown'
            obtain ⟨hbx3, kO, kB, fbox, frow, fbel, fsz⟩ := after_append R hown' hgrow
            have d3 := hbx3.cell
            have f3 := hbx3.frozen
            refine hK _ _ ?_
            clear hK K
            refine wpAnyIn_ready (rs := [5]) (by kernel_rfl) (by simp) ?_
            refine AllReadyIn.cons rfl (fun K hK => ?_) AllReadyIn.nil
            go_simp
            refine hK _ _ ?_
            clear hK K
            refine wpAnyIn_done (by kernel_rfl) ?_ _
            gi_wp2
            exact ⟨kO.from _, kB, ⟨_, fbox, by simpa [unS] using frow, trivial⟩, fbel, fsz⟩
          · go_simp
            refine hK _ _ ?_
            clear hK K
            refine wpAnyIn_ready (rs := [0]) (by kernel_rfl) (by simp) ?_
            refine AllReadyIn.cons rfl (fun K hK => ?_) AllReadyIn.nil
            go_simp
            refine hK _ _ ?_
            clear hK K
            refine wpAnyIn_ready (rs := [4]) (by kernel_rfl) (by simp) ?_
            refine AllReadyIn.cons rfl (fun K hK => ?_) AllReadyIn.nil
            have R := after_clone hv hrow hB hsz hb2'
            refine stepIn_append_own rfl (.tmp 15) (.tmp 18) 38 rfl (w1.heap.size + 2) 9 i0 (.string ByteArray.empty) 1 16 Tryd.underlying38 hi hz0 hz1 hz2 rfl (by decide) v _ _ rfl (R.row.alloc _) ⟨w2.heap.size, 0, none⟩ 1 1 [.string x.1] rfl rfl (cell_one_new _ _ _) (by simp [Value.oneCell']) (by unfold maxLen; omega) (by omega) (by have := R.size; simp; omega) ?_
            intro v' w3 hown' hgrow
            obtain ⟨g', cap', rfl⟩ := ownsRow_succ hown'
            obtain ⟨hbx3, kO, kB, fbox, frow, fbel, fsz⟩ := after_append R hown' hgrow
            have d3 := hbx3.cell
            have f3 := hbx3.frozen
            refine hK _ _ ?_
            clear hK K
            refine wpAnyIn_ready (rs := [5]) (by kernel_rfl) (by simp) ?_
            refine AllReadyIn.cons rfl (fun K hK => ?_) AllReadyIn.nil
            go_simp
            refine hK _ _ ?_
            clear hK K
            refine wpAnyIn_done (by kernel_rfl) ?_ _
            gi_wp2
            exact ⟨kO.from _, kB, ⟨_, fbox, by simpa [unS] using frow, trivial⟩, fbel, fsz⟩
    case done =>
      rintro D ys W hD hys ⟨⟨v, hv, hrow, _⟩, hB, hsz⟩ hK
      have hys' : unS ys = linesOf s := hys
      rw [hys'] at hrow
      have hc := hv.cell
      have g0 : W.frozen? ⟨w.heap.size, 0, none⟩ = false := (hB.frozen (p := ⟨w.heap.size, 0, none⟩) (by exact S1)).trans f0
      have g1 : W.frozen? ⟨w.heap.size, 1, none⟩ = false := (hB.frozen (p := ⟨w.heap.size, 1, none⟩) (by exact S1)).trans f1
      have d0 : W.cell? ⟨w.heap.size, 0, none⟩ = some (.int .i64 0) := (hB.cell (p := ⟨w.heap.size, 0, none⟩) (by exact S1)).trans c0
      have d1 : W.cell? ⟨w.heap.size, 1, none⟩ = some (.slice none 0 0) := (hB.cell (p := ⟨w.heap.size, 1, none⟩) (by exact S1)).trans c1
      obtain ⟨ao, n', cap, rfl⟩ : ∃ ao n' cap, v = .slice ao n' cap := by
        rcases hrow.2 with ⟨hv', _⟩ | ⟨g, cap, cur, hv', _⟩
        · exact ⟨_, _, _, hv'⟩
        · exact ⟨_, _, _, hv'⟩
      gi_wp2
      obtain ⟨W2, hW2⟩ : ∃ W2, (W.setCell ⟨w.heap.size, 0, none⟩ (.int .i64 0)).setCell ⟨w.heap.size, 1, none⟩ (.slice ao n' cap) = W2 := ⟨_, rfl⟩
      have hK2 : W2.heap[D]? = some (.deferred (some [])) := by
        rw [← hW2]
        exact (KeepsOthers.setCell _ _ _).same D _ ((KeepsOthers.setCell _ _ _).same D _ hK rfl) rfl
      have q0 : W2.cell? ⟨w.heap.size, 0, none⟩ = some (.int .i64 0) := by rw [← hW2]; simp [go_sem, d0]
      have q1 : W2.cell? ⟨w.heap.size, 1, none⟩ = some (.slice ao n' cap) := by rw [← hW2]; simp [go_sem, d1]
      have hrow2 : W2.ownsRow (w1.heap.size + 2) 9 1 (.slice ao n' cap) (linesOf s).length ((linesOf s).map Value.string) := by
        rw [← hW2]
        exact ownsRow_setCell_below (ownsRow_setCell_below hrow (a := ⟨w.heap.size, 0, none⟩) (by show w.heap.size < _; omega) _) (a := ⟨w.heap.size, 1, none⟩) (by show w.heap.size < _; omega) _
      have hbel2 : Below w.heap.size w W2 := by
        rw [← hW2]
        exact ((hbw.trans (hB.mono (by omega))).setCell (p := ⟨w.heap.size, 0, none⟩) (Nat.le_refl _) _).setCell (p := ⟨w.heap.size, 1, none⟩) (Nat.le_refl _) _
      rw [hW2]
      refine ⟨by simp, .inl ⟨_, _, rfl, run_takeDeferred hK2, ?_⟩⟩
      have e0 := cell_kept q0 (grownBy_putObj' _ D (.deferred none)) (fun r e => by cases e; exact ⟨_, hK2, rfl⟩)
      have e1 := cell_kept q1 (grownBy_putObj' _ D (.deferred none)) (fun r e => by cases e; exact ⟨_, hK2, rfl⟩)
      refine ⟨.agg #[.int .i64 0, .slice ao n' cap], ?_, _, rfl, ownsRow_mono (ownsRow_putObj hrow2 _ hK2 rfl) (by omega), hbel2.trans (belowK_b (w := w) (Nat.le_refl _) W2 D _ _ (by simp at hD; omega) hK2 rfl rfl)⟩
      simp [results, Tryd.results25, go_sem, e0, e1]
    case stop =>
      rintro D c pre W _ _ h _
      exact h.elim
  · have hJ := splitL_no h0
    rw [hJ]
    have hne : (tf s != 0) = true := by simpa using h0
    obtain ⟨r, hr⟩ : ∃ r, tf s = r := ⟨_, rfl⟩
    rw [hr] at hne hT ⊢
    clear hr h0 hJ
    go_enter Tryd.func25, Tryd.ntmps25
    go_wp2_with fail
    refine (hT _).mono ?_; rintro e w1 ⟨rfl, hb1⟩
    have S1 := hb1.size
    simp only [World.size_alloc] at S1
    have f0 : w1.frozen? ⟨w.heap.size, 0, none⟩ = false := (hb1.frozen (p := ⟨w.heap.size, 0, none⟩) (by simp)).trans (by simp)
    have f1 : w1.frozen? ⟨w.heap.size, 1, none⟩ = false := (hb1.frozen (p := ⟨w.heap.size, 1, none⟩) (by simp)).trans (by simp)
    have c0 : w1.cell? ⟨w.heap.size, 0, none⟩ = some (.int .i64 0) := (hb1.cell (p := ⟨w.heap.size, 0, none⟩) (by simp)).trans (by simp)
    have c1 : w1.cell? ⟨w.heap.size, 1, none⟩ = some (.slice none 0 0) := (hb1.cell (p := ⟨w.heap.size, 1, none⟩) (by simp)).trans (by simp)
    have hbw : Below w.heap.size w w1 := ((Below.refl _ _).alloc (Nat.le_refl _) _).trans (hb1.mono (by simp))
    clear hb1
    go_wp2
    refine bodyPost_ret (v := .agg #[.int .i64 r, .slice none 0 0]) ?_ rfl ⟨_, rfl, World.ownsRow_nil _ _ _ _, ?_⟩
    · simp [results, Tryd.results25, go_sem, c0, c1]
    · exact (hbw.setCell (p := ⟨w.heap.size, 0, none⟩) (Nat.le_refl _) _).setCell (p := ⟨w.heap.size, 1, none⟩) (Nat.le_refl _) _
end Go.Proofs.YtciddfpkcdicaaaDoor
