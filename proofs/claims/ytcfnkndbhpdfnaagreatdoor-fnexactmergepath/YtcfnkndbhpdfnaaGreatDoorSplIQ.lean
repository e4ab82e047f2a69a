/- The contract of impl.SplitLines. No statement is proved here. -/
import Derived.Test.YtcfnkndbhpdfnaaGreatDoorMxIQ
import Derived.RangeFuncWrites
namespace Go.Proofs.YtcfnkndbhpdfnaaGreatDoor
open Go.RowKit Go.Shelf
attribute [local go_sem] Oper.semAt_some
theorem clone (s : ByteArray) (w : World) (hlim : s.size <= 281474976710656) :
  Calls Tryz.prog 113 #[.string s] w fun e w' => e = .returned (.string s) /\ Below w.heap.size w w' := by
 go_enter Tryz.func113, Tryz.ntmps113
 go_wp2_with (go_at_call 130; refine (Tryz.stringslite_Clone _ _ hlim).mono ?_; rintro e w' ⟨rfl, hb⟩)
 go_ret
 exact ⟨rfl, by assumption⟩
theorem stepIn_append_own {F : Fence} {n : Nat} {P : Program} {ops : Array Oper} {o : Oper} {a : Act} {w : World} {K : Act -> World -> Prop} {Q : Exit -> Act -> World -> Prop} {E : Prop}
  (hg : o.guard = none) (s x : Operand) (t : TypeId) (hop : o.op = Op.call { callee := Callee.builtin Builtin.append, args := #[s, x], argTypes := #[t, t] })
  (base : Nat) (e : TypeId) (i : TypeInfo) (z : Value) (size bytes : Nat) (h1 : P.underlying t = some (.slice e)) (h2 : P.info? e = some i) (h3 : i.zero = some z) (h4 : i.size = size) (h5 : i.bytes = bytes) (h6 : z.cells.size = size) (h7 : 0 < size)
  (v : Value) (k : Nat) (xs : List Value) (hs : a.eval s = v) (hown : w.ownsRow base e size v k xs) (ad : Addr) (m c : Nat) (news : List Value) (hx : a.eval x = .slice (some ad) m c) (hn : news.length = m * size)
  (hc : ∀ j u, news[j]? = some u -> w.cell? (ad.add j) = some u) (h1c : ∀ u ∈ news, u.oneCell' = true) (b1 : k + m <= maxLen) (b2 : (k + m) * bytes <= 140737488355328) (b3 : base <= w.heap.size)
  (hK : ∀ v' w', w'.ownsRow base e size v' (k + m) (xs ++ news) -> w.grownBy w' v.ownBlock -> K (a.put o.dst v') w') :
  if Region.wanted o (yielded ops a.tmps) = true then Oper.wpIn F n P o a w K Q else E := by
 have hw : Region.wanted o (yielded ops a.tmps) = true := by simp [Region.wanted, hg]
 rw [if_pos hw]
 obtain ⟨v', w', hrun, r1, r2, _⟩ := run_append_own (P := P) w base t o.type e i z size bytes h1 h2 h3 h4 h5 h6 h7 v k xs hown ad m c news hn hc h1c b1 b2 b3
 unfold Oper.wpIn
 refine ⟨?_, ?_⟩
 ·simp [Oper.about, hop, resolve, Target.leads, Sem.run_pure]
 ·rw [Oper.semAt_plain F _ _ (by rw [hop]; intro c hc'; cases hc')]
  simp [execOp, hop, resolve, invoke, builtin, hs, hx, hrun, Result.andThen]
  exact hK v' w' r1 r2
theorem ownsRow_mono {w : World} {B B' : Nat} {e : TypeId} {size n : Nat} {v : Value} {xs : List Value} (h : w.ownsRow B e size v n xs) (hB : B' <= B) : w.ownsRow B' e size v n xs :=
 ⟨h.1, h.2.imp id fun ⟨g, cap, cur, h1, h2, h3⟩ => ⟨g, cap, cur, h1, Nat.le_trans hB h2, h3⟩⟩
structure RC (w1 W w2 : World) (v : Value) (ss : List ByteArray) : Prop where
 box : Boxed w2 w1.heap.size 105 v
 row : w2.ownsRow (w1.heap.size + 2) 9 1 v ss.length (ss.map Value.string)
 below : Below w1.heap.size w1 w2
 size : w1.heap.size + 2 <= w2.heap.size
 keepB : KeepB (w1.heap.size + 1) W w2
 keeps : KeepsOthers W w2
theorem after_clone {w1 W w2 : World} {v : Value} {ss : List ByteArray} (hv : Boxed W w1.heap.size 105 v) (hrow : W.ownsRow (w1.heap.size + 2) 9 1 v ss.length (ss.map Value.string))
  (hB : Below w1.heap.size w1 W) (hsz : w1.heap.size + 2 <= W.heap.size) (hb2 : Below W.heap.size W w2) : RC w1 W w2 v ss where
 box := hv.kept (grown_of_below hb2 none) (by simp)
 row := hrow.kept (grown_of_below hb2 none) (by
  rcases h : v.ownBlock with _ | j
  ·exact .inl rfl
  ·exact .inr (by simp))
 below := hB.trans (hb2.mono hB.size)
 size := Nat.le_trans hsz hb2.size
 keepB := hb2.block _ (by omega)
 keeps := KeepsOthers.of_grownBy (grown_of_below hb2 none) (fun j o ej _ => by cases ej)
theorem after_append {w1 W w2 w3 : World} {v v' : Value} {ss : List ByteArray} {ys : List Value} {tmp : Obj} {m : Nat} (R : RC w1 W w2 v ss)
  (hown' : w3.ownsRow (w1.heap.size + 2) 9 1 v' m ys) (hgrow : (w2.alloc tmp).grownBy w3 v.ownBlock) :
  Boxed w3 w1.heap.size 105 v /\ KeepsOthers W (w3.setCell ⟨w1.heap.size, 0, none⟩ v') /\ KeepB (w1.heap.size + 1) W (w3.setCell ⟨w1.heap.size, 0, none⟩ v') /\ Boxed (w3.setCell ⟨w1.heap.size, 0, none⟩ v') w1.heap.size 105 v' /\
   (w3.setCell ⟨w1.heap.size, 0, none⟩ v').ownsRow (w1.heap.size + 2) 9 1 v' m ys /\ Below w1.heap.size w1 (w3.setCell ⟨w1.heap.size, 0, none⟩ v') /\ w1.heap.size + 2 <= (w3.setCell ⟨w1.heap.size, 0, none⟩ v').heap.size := by
 have hne : (105 : TypeId) ≠ 9 := by decide
 have hv1 : Boxed w3 w1.heap.size 105 v := (R.box.alloc tmp).kept hgrow (R.box.not_row hne R.row)
 have hge : ∀ j, v.ownBlock = some j -> w1.heap.size + 2 <= j := fun j hj => (R.row.lt j hj).1
 have hsz3 : w1.heap.size + 2 <= w3.heap.size := by have h1 := hgrow.size; have h2 := R.size; simp at h1; omega
 refine ⟨hv1, ?_, ?_, hv1.set v', hown'.kept (grownBy_setCell' w3 _ v') (.inr (hv1.not_row hne hown').symm), ?_, ?_⟩
 ·refine ((R.keeps.trans (KeepsOthers.alloc w2 tmp)).trans (KeepsOthers.of_grownBy hgrow fun j o ej hj => ?_)).trans (KeepsOthers.setCell _ _ _)
  rcases (R.row.alloc tmp).2 with ⟨rfl, _⟩ | ⟨g, cap, cur, rfl, _, hgb, _⟩
  ·simp [Value.ownBlock] at ej
  ·obtain rfl : g = j := by simpa [Value.ownBlock] using ej
   rw [hgb] at hj; cases hj; rfl
 ·have e1 : (w3.setCell ⟨w1.heap.size, 0, none⟩ v').heap[w1.heap.size + 1]? = w3.heap[w1.heap.size + 1]? := Below.heap_setCell _ _ _ _ (by simp)
  have e2 : w3.heap[w1.heap.size + 1]? = (w2.alloc tmp).heap[w1.heap.size + 1]? := hgrow.block _ (by have := R.size; simp; omega) (fun e => by have := hge _ e.symm; omega)
  have e3 : (w2.alloc tmp).heap[w1.heap.size + 1]? = w2.heap[w1.heap.size + 1]? := Below.heap_alloc _ _ _ (by have := R.size; omega)
  exact e1.trans (e2.trans (e3.trans R.keepB))
 ·refine ((R.below.alloc (by have := R.size; omega) tmp).grown hgrow (by have := R.size; simp; omega) fun j ej => ?_).setCell (p := ⟨w1.heap.size, 0, none⟩) (Nat.le_refl _) v'
  have := hge j ej; omega
 ·simpa using hsz3
def splitL (s : ByteArray) : List ByteArray := if tf s = 0 then linesOf s else []
theorem splitL_ok {s : ByteArray} (h : tf s = 0) : splitL s = linesOf s := if_pos h
theorem splitL_no {s : ByteArray} (h : ¬ tf s = 0) : splitL s = [] := if_neg h
set_option maxRecDepth 100000 in
set_option maxHeartbeats 2000000 in
theorem implSplitLines (s : ByteArray) (w : World) (hs : s.size <= 1048576) :
  Calls Tryz.prog 156 #[.string s] w fun e w' => ∃ v, e = .returned (.agg #[.int .i64 (tf s), v]) /\ w'.ownsRow w.heap.size 9 1 v (splitL s).length ((splitL s).map Value.string) /\ Below w.heap.size w w' := by
 have hT := fun w => implTextFault s w hs
 by_cases h0 : tf s = 0
 ·have hJ := splitL_ok h0
  rw [hJ, h0]
  rw [h0] at hT
  obtain ⟨i0, hi, hz0, hz1, hz2⟩ := info_parts infoString
  have hll := lines_le s
  have hsm := lines_small s hs
  refine (callsIn_wide (n := 5)).1 ?_
  refine callsIn_of_wp_marks Tryz.func156 rfl trivial ?_ rfl
  simp only [Tryz.ntmps156, List.size_toArray, List.length_cons, List.length_nil, Nat.reduceAdd, Nat.reduceSub, Array.replicate_succ, Array.replicate_zero, List.push_toArray, List.append_toArray, List.nil_append, List.cons_append]
  gi_wp2_with (refine ⟨trivial, ?_⟩; gi_at_call 76; refine (callsIn_wide.2 (hT _)).mono ?_; rintro e w1 ⟨rfl, hb1⟩)
  have S1 := hb1.size
  simp only [World.size_alloc] at S1
  have f0 : w1.frozen? ⟨w.heap.size, 0, none⟩ = false := (hb1.frozen (p := ⟨w.heap.size, 0, none⟩) (by simp)).trans (by simp)
  have f1 : w1.frozen? ⟨w.heap.size, 1, none⟩ = false := (hb1.frozen (p := ⟨w.heap.size, 1, none⟩) (by simp)).trans (by simp)
  have c0 : w1.cell? ⟨w.heap.size, 0, none⟩ = some (.int .i64 0) := (hb1.cell (p := ⟨w.heap.size, 0, none⟩) (by simp)).trans (by simp)
  have c1 : w1.cell? ⟨w.heap.size, 1, none⟩ = some (.slice none 0 0) := (hb1.cell (p := ⟨w.heap.size, 1, none⟩) (by simp)).trans (by simp)
  have hbw : Below w.heap.size w w1 := ((Below.refl _ _).alloc (Nat.le_refl _) _).trans (hb1.mono (by simp))
  clear hb1 hJ hT
  refine ⟨trivial, ?_⟩
  refine (callsIn_wide.2 (linesIn_any _ _)).mono ?_; rintro e w' ⟨rfl, rfl⟩
  gi_wp2
  have bO := Boxed.new w1 105 (.slice none 0 0)
  have hbx : ((w1.alloc (.cells #[.slice none 0 0] 105)).alloc (.cells #[.string s] 9)).heap[w1.heap.size + 1]? = some (.cells #[.string s] 9 (0, 0)) := by
   have := World.alloc_heap_new (w1.alloc (.cells #[.slice none 0 0] 105)) (.cells #[.string s] 9)
   rwa [World.size_alloc] at this
  have hB0 : Below w1.heap.size w1 ((w1.alloc (.cells #[.slice none 0 0] 105)).alloc (.cells #[.string s] 9)) := ((Below.refl _ w1).alloc (Nat.le_refl _) _).alloc (by simp) _
  refine wpIn_rangeFunc_ownG rfl (by omega) (gf := 122) (lb := #[.pointer (some ⟨w1.heap.size + 1, 0, none⟩)]) rfl trivial (enters_of Tryz.func122 (by kernel_rfl) rfl)
   (lines_stopsS _ (by omega) (w1.heap.size + 1) s hs _ (by simp) hbx) keepB_t (keepB_b (by simp)) (Below.refl _ _) (fun _ => rfl)
   (fun pre W => (∃ v, Boxed W w1.heap.size 105 v /\ W.ownsRow (w1.heap.size + 2) 9 1 v (unS pre).length ((unS pre).map Value.string) /\ True) /\ Below w1.heap.size w1 W /\ w1.heap.size + 2 <= W.heap.size)
   (fun _ _ _ => False)
   (OwnFrom.and (Own.from (holdsRow_own (w1.heap.size + 2) w1.heap.size 105 9 1 (fun pre => (unS pre).length) (fun pre => (unS pre).map Value.string) (fun _ _ => True)) _) (OwnFrom.and (ownFrom_below (Nat.le_refl _) (by simp; omega)) (fun _ _ _ _ hs hg _ => Nat.le_trans hs hg.size)))
   (fun _ _ _ _ _ hs _ _ => hs)
   ⟨⟨_, bO.alloc _, World.ownsRow_nil _ _ _ _, trivial⟩, hB0, by simp⟩
   (fun x => { tmps := #[.string s, undef, .pointer (some ⟨w.heap.size, 0, none⟩), .int .i64 0, .pointer (some ⟨w1.heap.size, 0, none⟩), .string x.1, .string s, .int .i64 0, .int .i64 0, .bool false, undef, undef, .string s, .func (.func 122) #[] #[.pointer (some ⟨w1.heap.size + 1, 0, none⟩)], .string x.1, undef, undef, undef, undef, undef, undef, undef], defers := [] }) ?assign ?body ?done ?stop
  case assign =>
   intro l x W K hK
   gi_wp2
   first | exact hK | simpa using hK
  case body =>
   rintro l pre x W ⟨⟨v, hv, hrow, _⟩, hB, hsz⟩ hlen
   have hc := hv.cell
   have hlim : x.1.size <= 281474976710656 := Nat.le_trans x.2 (by omega)
   have hul : (unS pre).length < (linesOf s).length := by simpa [unS] using hlen
   gi_wp2
   refine wpIn_region_any (by kernel_rfl) ?_
   change wpAnyIn _ _ _ _ _ _ _ _ _ (World.drew _)
   refine wpAnyIn_ready (rs := [0, 1]) (by kernel_rfl) (by simp) ?_
   refine AllReadyIn.cons rfl (fun K hK => ?_) (AllReadyIn.cons rfl (fun K hK => ?_) AllReadyIn.nil)
   ·go_simp
    refine hK _ _ ?_
    clear hK K
    refine wpAnyIn_ready (rs := [1]) (by kernel_rfl) (by simp) ?_
    refine AllReadyIn.cons rfl (fun K hK => ?_) AllReadyIn.nil
    go_simp
    refine hK _ _ ?_
    clear hK K
    refine wpAnyIn_ready (rs := [2]) (by kernel_rfl) (by simp) ?_
    refine AllReadyIn.cons rfl (fun K hK => ?_) AllReadyIn.nil
    go_simp
    gi_wp2_with (refine ⟨trivial, ?_⟩; gi_at_call 113; refine (CallsIn.inRound l (callsIn_wide.2 (clone x.1 _ hlim))).mono ?_; rintro e w2 ⟨rfl, hb2⟩)
    have hb2' : Below W.heap.size W w2 := ⟨hb2.os, hb2.tape, hb2.output, hb2.size, hb2.block⟩
    have hc2 : w2.cell? ⟨w1.heap.size, 0, none⟩ = some v := (hb2.cell (p := ⟨w1.heap.size, 0, none⟩) hv.lt).trans hc
    have hlt2 : w1.heap.size < w2.heap.size := Nat.lt_of_lt_of_le hv.lt hb2'.size
    refine wpAnyIn_ready (rs := [3]) (by kernel_rfl) (by simp) ?_
    refine AllReadyIn.cons rfl (fun K hK => ?_) AllReadyIn.nil
    go_simp
    refine hK _ _ ?_
    clear hK K
    refine wpAnyIn_ready (rs := [4]) (by kernel_rfl) (by simp) ?_
    refine AllReadyIn.cons rfl (fun K hK => ?_) AllReadyIn.nil
    have R := after_clone hv hrow hB hsz hb2'
    refine stepIn_append_own rfl (.tmp 15) (.tmp 18) 105 rfl (w1.heap.size + 2) 9 i0 (.string ByteArray.empty) 1 16 Tryz.underlying105 hi hz0 hz1 hz2 rfl (by decide) v _ _ rfl (R.row.alloc _) ⟨w2.heap.size, 0, none⟩ 1 1 [.string x.1] rfl rfl (cell_one_new _ _ _) (by simp [Value.oneCell']) (by unfold maxLen; omega) (by omega) (by have := R.size; simp; omega) ?_
    intro v' w3 hown' hgrow
    obtain ⟨g', cap', rfl⟩ := ownsRow_succ hown'
    obtain ⟨hbx3, kO, kB, fbox, frow, fbel, fsz⟩ := after_append R hown' hgrow
    have d3 := hbx3.cell
    have f3 := hbx3.frozen
    refine hK _ _ ?_
    clear hK K
    refine wpAnyIn_ready (rs := [5]) (by kernel_rfl) (by simp) ?_
    refine AllReadyIn.cons rfl (fun K hK => ?_) AllReadyIn.nil
    go_simp
    refine hK _ _ ?_
    clear hK K
    refine wpAnyIn_done (by kernel_rfl) ?_ _
    gi_wp2
    exact ⟨kO.from _, kB, ⟨_, fbox, by simpa [unS] using frow, trivial⟩, fbel, fsz⟩
   ·go_simp
    refine hK _ _ ?_
    clear hK K
    refine wpAnyIn_ready (rs := [0, 2]) (by kernel_rfl) (by simp) ?_
    refine AllReadyIn.cons rfl (fun K hK => ?_) (AllReadyIn.cons rfl (fun K hK => ?_) AllReadyIn.nil)
    ·go_simp
     refine hK _ _ ?_
     clear hK K
     refine wpAnyIn_ready (rs := [2]) (by kernel_rfl) (by simp) ?_
     refine AllReadyIn.cons rfl (fun K hK => ?_) AllReadyIn.nil
     go_simp
     gi_wp2_with (refine ⟨trivial, ?_⟩; gi_at_call 113; refine (CallsIn.inRound l (callsIn_wide.2 (clone x.1 _ hlim))).mono ?_; rintro e w2 ⟨rfl, hb2⟩)
     have hb2' : Below W.heap.size W w2 := ⟨hb2.os, hb2.tape, hb2.output, hb2.size, hb2.block⟩
     have hc2 : w2.cell? ⟨w1.heap.size, 0, none⟩ = some v := (hb2.cell (p := ⟨w1.heap.size, 0, none⟩) hv.lt).trans hc
     have hlt2 : w1.heap.size < w2.heap.size := Nat.lt_of_lt_of_le hv.lt hb2'.size
     refine wpAnyIn_ready (rs := [3]) (by kernel_rfl) (by simp) ?_
     refine AllReadyIn.cons rfl (fun K hK => ?_) AllReadyIn.nil
     go_simp
     refine hK _ _ ?_
     clear hK K
     refine wpAnyIn_ready (rs := [4]) (by kernel_rfl) (by simp) ?_
     refine AllReadyIn.cons rfl (fun K hK => ?_) AllReadyIn.nil
     have R := after_clone hv hrow hB hsz hb2'
     refine stepIn_append_own rfl (.tmp 15) (.tmp 18) 105 rfl (w1.heap.size + 2) 9 i0 (.string ByteArray.empty) 1 16 Tryz.underlying105 hi hz0 hz1 hz2 rfl (by decide) v _ _ rfl (R.row.alloc _) ⟨w2.heap.size, 0, none⟩ 1 1 [.string x.1] rfl rfl (cell_one_new _ _ _) (by simp [Value.oneCell']) (by unfold maxLen; omega) (by omega) (by have := R.size; simp; omega) ?_
     intro v' w3 hown' hgrow
     obtain ⟨g', cap', rfl⟩ := ownsRow_succ hown'
     obtain ⟨hbx3, kO, kB, fbox, frow, fbel, fsz⟩ := after_append R hown' hgrow
     have d3 := hbx3.cell
     have f3 := hbx3.frozen
     refine hK _ _ ?_
     clear hK K
     refine wpAnyIn_ready (rs := [5]) (by kernel_rfl) (by simp) ?_
     refine AllReadyIn.cons rfl (fun K hK => ?_) AllReadyIn.nil
     go_simp
     refine hK _ _ ?_
     clear hK K
     refine wpAnyIn_done (by kernel_rfl) ?_ _
     gi_wp2
     exact ⟨kO.from _, kB, ⟨_, fbox, by simpa [unS] using frow, trivial⟩, fbel, fsz⟩
    ·go_simp
     gi_wp2_with (refine ⟨trivial, ?_⟩; gi_at_call 113; refine (CallsIn.inRound l (callsIn_wide.2 (clone x.1 _ hlim))).mono ?_; rintro e w2 ⟨rfl, hb2⟩)
     have hb2' : Below W.heap.size W w2 := ⟨hb2.os, hb2.tape, hb2.output, hb2.size, hb2.block⟩
     have hc2 : w2.cell? ⟨w1.heap.size, 0, none⟩ = some v := (hb2.cell (p := ⟨w1.heap.size, 0, none⟩) hv.lt).trans hc
     have hlt2 : w1.heap.size < w2.heap.size := Nat.lt_of_lt_of_le hv.lt hb2'.size
     refine wpAnyIn_ready (rs := [0, 3]) (by kernel_rfl) (by simp) ?_
     refine AllReadyIn.cons rfl (fun K hK => ?_) (AllReadyIn.cons rfl (fun K hK => ?_) AllReadyIn.nil)
     ·go_simp
      refine hK _ _ ?_
      clear hK K
      refine wpAnyIn_ready (rs := [3]) (by kernel_rfl) (by simp) ?_
      refine AllReadyIn.cons rfl (fun K hK => ?_) AllReadyIn.nil
      go_simp
      refine hK _ _ ?_
      clear hK K
      refine wpAnyIn_ready (rs := [4]) (by kernel_rfl) (by simp) ?_
      refine AllReadyIn.cons rfl (fun K hK => ?_) AllReadyIn.nil
      have R := after_clone hv hrow hB hsz hb2'
      refine stepIn_append_own rfl (.tmp 15) (.tmp 18) 105 rfl (w1.heap.size + 2) 9 i0 (.string ByteArray.empty) 1 16 Tryz.underlying105 hi hz0 hz1 hz2 rfl (by decide) v _ _ rfl (R.row.alloc _) ⟨w2.heap.size, 0, none⟩ 1 1 [.string x.1] rfl rfl (cell_one_new _ _ _) (by simp [Value.oneCell']) (by unfold maxLen; omega) (by omega) (by have := R.size; simp; omega) ?_
      intro v' w3 hown' hgrow
      obtain ⟨g', cap', rfl⟩ := ownsRow_succ hown'
      obtain ⟨hbx3, kO, kB, fbox, frow, fbel, fsz⟩ := after_append R hown' hgrow
      have d3 := hbx3.cell
      have f3 := hbx3.frozen
      refine hK _ _ ?_
      clear hK K
      refine wpAnyIn_ready (rs := [5]) (by kernel_rfl) (by simp) ?_
      refine AllReadyIn.cons rfl (fun K hK => ?_) AllReadyIn.nil
      go_simp
      refine hK _ _ ?_
      clear hK K
      refine wpAnyIn_done (by kernel_rfl) ?_ _
      gi_wp2
      exact ⟨kO.from _, kB, ⟨_, fbox, by simpa [unS] using frow, trivial⟩, fbel, fsz⟩
     ·go_simp
      refine hK _ _ ?_
      clear hK K
      refine wpAnyIn_ready (rs := [0]) (by kernel_rfl) (by simp) ?_
      refine AllReadyIn.cons rfl (fun K hK => ?_) AllReadyIn.nil
      go_simp
      refine hK _ _ ?_
      clear hK K
      refine wpAnyIn_ready (rs := [4]) (by kernel_rfl) (by simp) ?_
      refine AllReadyIn.cons rfl (fun K hK => ?_) AllReadyIn.nil
      have R := after_clone hv hrow hB hsz hb2'
      refine stepIn_append_own rfl (.tmp 15) (.tmp 18) 105 rfl (w1.heap.size + 2) 9 i0 (.string ByteArray.empty) 1 16 Tryz.underlying105 hi hz0 hz1 hz2 rfl (by decide) v _ _ rfl (R.row.alloc _) ⟨w2.heap.size, 0, none⟩ 1 1 [.string x.1] rfl rfl (cell_one_new _ _ _) (by simp [Value.oneCell']) (by unfold maxLen; omega) (by omega) (by have := R.size; simp; omega) ?_
      intro v' w3 hown' hgrow
      obtain ⟨g', cap', rfl⟩ := ownsRow_succ hown'
      obtain ⟨hbx3, kO, kB, fbox, frow, fbel, fsz⟩ := after_append R hown' hgrow
      have d3 := hbx3.cell
      have f3 := hbx3.frozen
      refine hK _ _ ?_
      clear hK K
      refine wpAnyIn_ready (rs := [5]) (by kernel_rfl) (by simp) ?_
      refine AllReadyIn.cons rfl (fun K hK => ?_) AllReadyIn.nil
      go_simp
      refine hK _ _ ?_
      clear hK K
      refine wpAnyIn_done (by kernel_rfl) ?_ _
      gi_wp2
      exact ⟨kO.from _, kB, ⟨_, fbox, by simpa [unS] using frow, trivial⟩, fbel, fsz⟩
  case done =>
   rintro D ys W hD hys ⟨⟨v, hv, hrow, _⟩, hB, hsz⟩ hK
   have hys' : unS ys = linesOf s := hys
   rw [hys'] at hrow
   have hc := hv.cell
   have g0 : W.frozen? ⟨w.heap.size, 0, none⟩ = false := (hB.frozen (p := ⟨w.heap.size, 0, none⟩) (by exact S1)).trans f0
   have g1 : W.frozen? ⟨w.heap.size, 1, none⟩ = false := (hB.frozen (p := ⟨w.heap.size, 1, none⟩) (by exact S1)).trans f1
   have d0 : W.cell? ⟨w.heap.size, 0, none⟩ = some (.int .i64 0) := (hB.cell (p := ⟨w.heap.size, 0, none⟩) (by exact S1)).trans c0
   have d1 : W.cell? ⟨w.heap.size, 1, none⟩ = some (.slice none 0 0) := (hB.cell (p := ⟨w.heap.size, 1, none⟩) (by exact S1)).trans c1
   obtain ⟨ao, n', cap, rfl⟩ : ∃ ao n' cap, v = .slice ao n' cap := by
    rcases hrow.2 with ⟨hv', _⟩ | ⟨g, cap, cur, hv', _⟩
    ·exact ⟨_, _, _, hv'⟩
    ·exact ⟨_, _, _, hv'⟩
   gi_wp2
   obtain ⟨W2, hW2⟩ : ∃ W2, (W.setCell ⟨w.heap.size, 0, none⟩ (.int .i64 0)).setCell ⟨w.heap.size, 1, none⟩ (.slice ao n' cap) = W2 := ⟨_, rfl⟩
   have hK2 : W2.heap[D]? = some (.deferred (some [])) := by
    rw [<- hW2]
    exact (KeepsOthers.setCell _ _ _).same D _ ((KeepsOthers.setCell _ _ _).same D _ hK rfl) rfl
   have q0 : W2.cell? ⟨w.heap.size, 0, none⟩ = some (.int .i64 0) := by rw [<- hW2]; simp [go_sem, d0]
   have q1 : W2.cell? ⟨w.heap.size, 1, none⟩ = some (.slice ao n' cap) := by rw [<- hW2]; simp [go_sem, d1]
   have hrow2 : W2.ownsRow (w1.heap.size + 2) 9 1 (.slice ao n' cap) (linesOf s).length ((linesOf s).map Value.string) := by
    rw [<- hW2]
    exact ownsRow_setCell_below (ownsRow_setCell_below hrow (a := ⟨w.heap.size, 0, none⟩) (by show w.heap.size < _; omega) _) (a := ⟨w.heap.size, 1, none⟩) (by show w.heap.size < _; omega) _
   have hbel2 : Below w.heap.size w W2 := by
    rw [<- hW2]
    exact ((hbw.trans (hB.mono (by omega))).setCell (p := ⟨w.heap.size, 0, none⟩) (Nat.le_refl _) _).setCell (p := ⟨w.heap.size, 1, none⟩) (Nat.le_refl _) _
   rw [hW2]
   refine ⟨by simp, .inl ⟨_, _, rfl, run_takeDeferred hK2, ?_⟩⟩
   have e0 := cell_kept q0 (grownBy_putObj' _ D (.deferred none)) (fun r e => by cases e; exact ⟨_, hK2, rfl⟩)
   have e1 := cell_kept q1 (grownBy_putObj' _ D (.deferred none)) (fun r e => by cases e; exact ⟨_, hK2, rfl⟩)
   refine ⟨.agg #[.int .i64 0, .slice ao n' cap], ?_, _, rfl, ownsRow_mono (ownsRow_putObj hrow2 _ hK2 rfl) (by omega), hbel2.trans (belowK_b (w := w) (Nat.le_refl _) W2 D _ _ (by simp at hD; omega) hK2 rfl rfl)⟩
   simp [results, Tryz.results156, go_sem, e0, e1]
  case stop =>
   rintro D c pre W _ _ h _
   exact h.elim
 ·have hJ := splitL_no h0
  rw [hJ]
  have hne : (tf s != 0) = true := by simpa using h0
  obtain ⟨r, hr⟩ : ∃ r, tf s = r := ⟨_, rfl⟩
  rw [hr] at hne hT ⊢
  clear hr h0 hJ
  go_enter Tryz.func156, Tryz.ntmps156
  go_wp2_with fail
  refine (hT _).mono ?_; rintro e w1 ⟨rfl, hb1⟩
  have S1 := hb1.size
  simp only [World.size_alloc] at S1
  have f0 : w1.frozen? ⟨w.heap.size, 0, none⟩ = false := (hb1.frozen (p := ⟨w.heap.size, 0, none⟩) (by simp)).trans (by simp)
  have f1 : w1.frozen? ⟨w.heap.size, 1, none⟩ = false := (hb1.frozen (p := ⟨w.heap.size, 1, none⟩) (by simp)).trans (by simp)
  have c0 : w1.cell? ⟨w.heap.size, 0, none⟩ = some (.int .i64 0) := (hb1.cell (p := ⟨w.heap.size, 0, none⟩) (by simp)).trans (by simp)
  have c1 : w1.cell? ⟨w.heap.size, 1, none⟩ = some (.slice none 0 0) := (hb1.cell (p := ⟨w.heap.size, 1, none⟩) (by simp)).trans (by simp)
  have hbw : Below w.heap.size w w1 := ((Below.refl _ _).alloc (Nat.le_refl _) _).trans (hb1.mono (by simp))
  clear hb1
  go_wp2
  refine bodyPost_ret (v := .agg #[.int .i64 r, .slice none 0 0]) ?_ rfl ⟨_, rfl, World.ownsRow_nil _ _ _ _, ?_⟩
  ·simp [results, Tryz.results156, go_sem, c0, c1]
  ·exact (hbw.setCell (p := ⟨w.heap.size, 0, none⟩) (Nat.le_refl _) _).setCell (p := ⟨w.heap.size, 1, none⟩) (Nat.le_refl _) _
end Go.Proofs.YtcfnkndbhpdfnaaGreatDoor
namespace Go.Proofs.YtcfnkndbhpdfnaaGreatDoor
open Go.RowKit
def RO (h : Nat) (w : World) (t : ByteArray) (v : Value) : Prop := w.ownsRow (h + 1) 9 1 v (linesOf t).length ((linesOf t).map Value.string)
theorem RO.bel {h : Nat} {w w' : World} {t : ByteArray} {v : Value} (o : RO h w t v) (b : Below w.heap.size w w') : RO h w' t v := o.kept (grownOfBelow b none) (blockCases _ _ fun _ _ e => by cases e)
theorem RO.set {h : Nat} {w : World} {t : ByteArray} {v : Value} (o : RO h w t v) (k : Nat) (u : Value) : RO h (w.setCell ⟨h, k, none⟩ u) t v :=
 o.kept (grownSet w h k u) (blockCases _ _ fun j hj e => by cases e; have := (o.lt _ hj).1; omega)
def LSt (h j : Nat) (a b c : ByteArray) (w0 wr : World) : Prop :=
 Below h w0 wr /\ h + 1 <= wr.heap.size /\ ∃ v1 v2 v3, Rf wr h [v1, v2, v3] /\ (0 < j -> tf a = 0 /\ RO h wr a v1) /\ (1 < j -> tf b = 0 /\ RO h wr b v2) /\ (2 < j -> tf c = 0 /\ RO h wr c v3)
theorem Rf.one0 {w : World} {b : Nat} {x y z u : Value} (h : Rf w b [x, y, z]) : Rf (w.setCell ⟨b, 0, none⟩ u) b [u, y, z] := h.set (o := 0) (by simp) u
theorem Rf.one1 {w : World} {b : Nat} {x y z u : Value} (h : Rf w b [x, y, z]) : Rf (w.setCell ⟨b, 1, none⟩ u) b [x, u, z] := h.set (o := 1) (by simp) u
theorem Rf.one2 {w : World} {b : Nat} {x y z u : Value} (h : Rf w b [x, y, z]) : Rf (w.setCell ⟨b, 2, none⟩ u) b [x, y, u] := h.set (o := 2) (by simp) u
def CTP (a b c : ByteArray) (w : World) (e : Ending) (w' : World) : Prop :=
 (¬ tx3 a b c = 0 /\ e = .returned (.tuple #[.slice none 0 0, .int .i64 (tx3 a b c)]) /\ Below w.heap.size w w') \/
 (tx3 a b c = 0 /\ ∃ v sl, e = .returned (.tuple #[v, .int .i64 0]) /\ KO w.heap.size w' v (ckT (linesOf a) (linesOf b) (linesOf c)) sl /\ Below w.heap.size w w')
theorem ret_ct2 {v : Value} {a b : Int} (h : a = b) : Ending.returned (.tuple #[v, .int .i64 a]) = .returned (.tuple #[v, .int .i64 b]) := by rw [h]
set_option maxRecDepth 20000 in
set_option maxHeartbeats 4000000 in
theorem chunksOfTextsC (a b c : ByteArray) (w : World) (ha : a.size <= 1048576) (hb : b.size <= 1048576) (hc : c.size <= 1048576) :
  Calls Tryz.prog 133 #[.string a, .string b, .string c] w fun e w' => CTP a b c w e w' := by
 have hS1 := fun W => implSplitLines a W ha
 have hS2 := fun W => implSplitLines b W hb
 have hS3 := fun W => implSplitLines c W hc
 obtain ⟨W2, hW2⟩ : ∃ W, w.alloc (.cells #[.slice none 0 0, .slice none 0 0, .slice none 0 0] 194) = W := ⟨_, rfl⟩
 have b2 : Below w.heap.size w W2 := by rw [<- hW2]; exact allocBelow _ _
 have zW2 : W2.heap.size = w.heap.size + 1 := by rw [<- hW2]; simp
 have rL : Rf W2 w.heap.size [.slice none 0 0, .slice none 0 0, .slice none 0 0] := by rw [<- hW2]; exact Rf.new _ _ _
 have L0 : LSt w.heap.size 0 a b c w W2 := ⟨b2, by omega, _, _, _, rL, fun h => absurd h (by omega), fun h => absurd h (by omega), fun h => absurd h (by omega)⟩
 have i0 : ∀ w, (Instr.index 155 (.agg #[.string a, .string b, .string c]) (.int .i64 0)).run Tryz.prog w = .ok (.string a) w := fun _ => by kernel_rfl
 have i1 : ∀ w, (Instr.index 155 (.agg #[.string a, .string b, .string c]) (.int .i64 1)).run Tryz.prog w = .ok (.string b) w := fun _ => by kernel_rfl
 have i2 : ∀ w, (Instr.index 155 (.agg #[.string a, .string b, .string c]) (.int .i64 2)).run Tryz.prog w = .ok (.string c) w := fun _ => by kernel_rfl
 go_enter Tryz.func133, Tryz.ntmps133
 go_wp2
 clear zW2 hW2 b2 rL
 go_loopw [9, 10, 11, 16] (fun _ _ _ i wr => ∃ (j : Nat) (Wr : World), j <= 3 /\ i = .int .i64 j /\ Wr = wr /\ Hid (LSt w.heap.size j a b c w Wr)) (fun _ _ _ i _ => 3 - (intOf i).toNat)
 case atStart => exact ⟨0, _, by omega, rfl, rfl, L0⟩
 case round =>
  obtain ⟨j, Wr, hj, rfl, rfl, hc'⟩ := hrel
  by_cases hj3 : j < 3
  ·have hjj : j = 0 \/ j = 1 \/ j = 2 := by omega
   rcases hjj with rfl | rfl | rfl
   ·obtain ⟨B, hz, v1, v2, v3, rl, q1, q2, q3⟩ := hc'.out
    have hS := hS1 Wr
    clear hS1 hS2 hS3 L0
    by_cases hq : tf a = 0
    ·rw [hq, splitL_ok hq] at hS
     clear q1 q2 q3 hc'
     go_upto_region 5 with fail
     go_wp2_with fail
     refine hS.mono ?_; rintro e w3 ⟨v, rfl, o3, b3⟩
     obtain ⟨p, d, rfl⟩ := shapeS o3
     obtain ⟨W4, hW4⟩ : ∃ W, w3.alloc (.cells #[.int .i64 0, .slice none 0 0] 196) = W := ⟨_, rfl⟩
     have b4 : Below w3.heap.size w3 W4 := by rw [<- hW4]; exact allocBelow _ _
     have r4 : Res2 W4 w3.heap.size (.int .i64 0) (.slice none 0 0) := by rw [<- hW4]; exact Res2.new _ _ _ _
     have d0 := r4.c0
     have d1 := r4.c1
     have f0 := r4.f0
     have f1 := r4.f1
     have z3 := b3.size
     have z4 : w3.heap.size < W4.heap.size := cellLt d0
     obtain ⟨W5, hW5⟩ : ∃ W, (W4.setCell ⟨w3.heap.size, 0, none⟩ (.int .i64 0)).setCell ⟨w3.heap.size, 1, none⟩ (.slice p (linesOf a).length d) = W := ⟨_, rfl⟩
     have c0 : W5.cell? ⟨w3.heap.size, 0, none⟩ = some (.int .i64 0) := by rw [<- hW5]; simp [go_sem, d0]
     have c1 : W5.cell? ⟨w3.heap.size, 1, none⟩ = some (.slice p (linesOf a).length d) := by rw [<- hW5]; simp [go_sem, d1]
     have b5 : Below w3.heap.size w3 W5 := by rw [<- hW5]; exact below_sets b4 (Nat.le_refl _) _ _
     have z5 : W5.heap.size = W4.heap.size := by rw [<- hW5]; simp
     have BW : Below Wr.heap.size Wr W5 := b3.trans (b5.mono b3.size)
     have OV : RO w.heap.size W5 a (.slice p (linesOf a).length d) := RO.bel (show RO w.heap.size w3 a (.slice p (linesOf a).length d) from ownsRow_mono o3 (by omega)) b5
     have rl5 := rl.below (by omega) BW
     have HL : Hid (LSt w.heap.size 1 a b c w (W5.setCell ⟨w.heap.size, 0, none⟩ (.slice p (linesOf a).length d))) := ⟨(below_step B (by omega) BW).setCell (p := ⟨w.heap.size, 0, none⟩) (Nat.le_refl _) (.slice p (linesOf a).length d), by have := BW.size; simp; omega, _, _, _, rl5.one0, fun _ => ⟨hq, OV.set 0 (.slice p (linesOf a).length d)⟩, fun h => absurd h (by omega), fun h => absurd h (by omega)⟩
     have l0 := rl5.at_ 0 _ rfl
     have lf := rl5.fz 0
     clear rl rl5 B OV BW b5 b3 o3 hS r4 b4
     go_upto_region 6 with fail
     try rw [hW5]
     clear hW4 hW5 d0 d1 f0 f1
     go_wp2
     go_roundw
     case rel => exact ⟨1, _, by omega, rfl, rfl, HL⟩
     case measure => simp [intOf]
    ·have TX : tx3 a b c = tf a := if_neg hq
     have q0 : (tf a != 0) = true := by simp [hq]
     have HR : Hid (tx3 a b c = tf a /\ ¬ tf a = 0) := ⟨TX, hq⟩
     clear q1 q2 q3 hc' TX hq
     generalize tf a = Q at hS q0 HR
     go_upto_region 5 with fail
     go_wp2_with fail
     refine hS.mono ?_; rintro e w3 ⟨v, rfl, o3, b3⟩
     obtain ⟨p, d, rfl⟩ := shapeS o3
     obtain ⟨W4, hW4⟩ : ∃ W, w3.alloc (.cells #[.int .i64 0, .slice none 0 0] 196) = W := ⟨_, rfl⟩
     have b4 : Below w3.heap.size w3 W4 := by rw [<- hW4]; exact allocBelow _ _
     have r4 : Res2 W4 w3.heap.size (.int .i64 0) (.slice none 0 0) := by rw [<- hW4]; exact Res2.new _ _ _ _
     have d0 := r4.c0
     have d1 := r4.c1
     have f0 := r4.f0
     have f1 := r4.f1
     have z3 := b3.size
     have z4 : w3.heap.size < W4.heap.size := cellLt d0
     obtain ⟨W5, hW5⟩ : ∃ W, (W4.setCell ⟨w3.heap.size, 0, none⟩ (.int .i64 Q)).setCell ⟨w3.heap.size, 1, none⟩ (.slice p (splitL a).length d) = W := ⟨_, rfl⟩
     have c0 : W5.cell? ⟨w3.heap.size, 0, none⟩ = some (.int .i64 Q) := by rw [<- hW5]; simp [go_sem, d0]
     have c1 : W5.cell? ⟨w3.heap.size, 1, none⟩ = some (.slice p (splitL a).length d) := by rw [<- hW5]; simp [go_sem, d1]
     have b5 : Below w3.heap.size w3 W5 := by rw [<- hW5]; exact below_sets b4 (Nat.le_refl _) _ _
     have BW : Below Wr.heap.size Wr W5 := b3.trans (b5.mono b3.size)
     have HB : Hid (Below w.heap.size w W5) := below_step B (by omega) BW
     clear rl B BW b5 b3 o3 hS r4 b4
     go_upto_region 6 with fail
     try rw [hW5]
     clear hW4 hW5 d0 d1 f0 f1
     go_wp2_with fail
     go_quiet (fail)
     go_wp2
     go_ret2
     exact .inl ⟨by rw [HR.out.1]; exact HR.out.2, ret_ct2 HR.out.1.symm, below_drewN' HB.out _⟩
   ·obtain ⟨B, hz, v1, v2, v3, rl, q1, q2, q3⟩ := hc'.out
    have hS := hS2 Wr
    clear hS1 hS2 hS3 L0
    by_cases hq : tf b = 0
    ·rw [hq, splitL_ok hq] at hS
     have Q1 := q1 (by omega)
     clear q1 q2 q3 hc'
     go_upto_region 5 with fail
     go_wp2_with fail
     refine hS.mono ?_; rintro e w3 ⟨v, rfl, o3, b3⟩
     obtain ⟨p, d, rfl⟩ := shapeS o3
     obtain ⟨W4, hW4⟩ : ∃ W, w3.alloc (.cells #[.int .i64 0, .slice none 0 0] 196) = W := ⟨_, rfl⟩
     have b4 : Below w3.heap.size w3 W4 := by rw [<- hW4]; exact allocBelow _ _
     have r4 : Res2 W4 w3.heap.size (.int .i64 0) (.slice none 0 0) := by rw [<- hW4]; exact Res2.new _ _ _ _
     have d0 := r4.c0
     have d1 := r4.c1
     have f0 := r4.f0
     have f1 := r4.f1
     have z3 := b3.size
     have z4 : w3.heap.size < W4.heap.size := cellLt d0
     obtain ⟨W5, hW5⟩ : ∃ W, (W4.setCell ⟨w3.heap.size, 0, none⟩ (.int .i64 0)).setCell ⟨w3.heap.size, 1, none⟩ (.slice p (linesOf b).length d) = W := ⟨_, rfl⟩
     have c0 : W5.cell? ⟨w3.heap.size, 0, none⟩ = some (.int .i64 0) := by rw [<- hW5]; simp [go_sem, d0]
     have c1 : W5.cell? ⟨w3.heap.size, 1, none⟩ = some (.slice p (linesOf b).length d) := by rw [<- hW5]; simp [go_sem, d1]
     have b5 : Below w3.heap.size w3 W5 := by rw [<- hW5]; exact below_sets b4 (Nat.le_refl _) _ _
     have z5 : W5.heap.size = W4.heap.size := by rw [<- hW5]; simp
     have BW : Below Wr.heap.size Wr W5 := b3.trans (b5.mono b3.size)
     have OV : RO w.heap.size W5 b (.slice p (linesOf b).length d) := RO.bel (show RO w.heap.size w3 b (.slice p (linesOf b).length d) from ownsRow_mono o3 (by omega)) b5
     have rl5 := rl.below (by omega) BW
     have HL : Hid (LSt w.heap.size 2 a b c w (W5.setCell ⟨w.heap.size, 1, none⟩ (.slice p (linesOf b).length d))) := ⟨(below_step B (by omega) BW).setCell (p := ⟨w.heap.size, 1, none⟩) (Nat.le_refl _) (.slice p (linesOf b).length d), by have := BW.size; simp; omega, _, _, _, rl5.one1, fun _ => ⟨Q1.1, (Q1.2.bel BW).set 1 (.slice p (linesOf b).length d)⟩, fun _ => ⟨hq, OV.set 1 (.slice p (linesOf b).length d)⟩, fun h => absurd h (by omega)⟩
     have l0 := rl5.at_ 1 _ rfl
     have lf := rl5.fz 1
     clear rl rl5 B OV BW b5 b3 o3 hS r4 b4 Q1
     go_upto_region 6 with fail
     try rw [hW5]
     clear hW4 hW5 d0 d1 f0 f1
     go_wp2
     go_roundw
     case rel => exact ⟨2, _, by omega, rfl, rfl, HL⟩
     case measure => simp [intOf]
    ·have TX : tx3 a b c = tf b := by unfold tx3; rw [if_pos (q1 (by omega)).1]; exact if_neg hq
     have q0 : (tf b != 0) = true := by simp [hq]
     have HR : Hid (tx3 a b c = tf b /\ ¬ tf b = 0) := ⟨TX, hq⟩
     clear q1 q2 q3 hc' TX hq
     generalize tf b = Q at hS q0 HR
     go_upto_region 5 with fail
     go_wp2_with fail
     refine hS.mono ?_; rintro e w3 ⟨v, rfl, o3, b3⟩
     obtain ⟨p, d, rfl⟩ := shapeS o3
     obtain ⟨W4, hW4⟩ : ∃ W, w3.alloc (.cells #[.int .i64 0, .slice none 0 0] 196) = W := ⟨_, rfl⟩
     have b4 : Below w3.heap.size w3 W4 := by rw [<- hW4]; exact allocBelow _ _
     have r4 : Res2 W4 w3.heap.size (.int .i64 0) (.slice none 0 0) := by rw [<- hW4]; exact Res2.new _ _ _ _
     have d0 := r4.c0
     have d1 := r4.c1
     have f0 := r4.f0
     have f1 := r4.f1
     have z3 := b3.size
     have z4 : w3.heap.size < W4.heap.size := cellLt d0
     obtain ⟨W5, hW5⟩ : ∃ W, (W4.setCell ⟨w3.heap.size, 0, none⟩ (.int .i64 Q)).setCell ⟨w3.heap.size, 1, none⟩ (.slice p (splitL b).length d) = W := ⟨_, rfl⟩
     have c0 : W5.cell? ⟨w3.heap.size, 0, none⟩ = some (.int .i64 Q) := by rw [<- hW5]; simp [go_sem, d0]
     have c1 : W5.cell? ⟨w3.heap.size, 1, none⟩ = some (.slice p (splitL b).length d) := by rw [<- hW5]; simp [go_sem, d1]
     have b5 : Below w3.heap.size w3 W5 := by rw [<- hW5]; exact below_sets b4 (Nat.le_refl _) _ _
     have BW : Below Wr.heap.size Wr W5 := b3.trans (b5.mono b3.size)
     have HB : Hid (Below w.heap.size w W5) := below_step B (by omega) BW
     clear rl B BW b5 b3 o3 hS r4 b4
     go_upto_region 6 with fail
     try rw [hW5]
     clear hW4 hW5 d0 d1 f0 f1
     go_wp2_with fail
     go_quiet (fail)
     go_wp2
     go_ret2
     exact .inl ⟨by rw [HR.out.1]; exact HR.out.2, ret_ct2 HR.out.1.symm, below_drewN' HB.out _⟩
   ·obtain ⟨B, hz, v1, v2, v3, rl, q1, q2, q3⟩ := hc'.out
    have hS := hS3 Wr
    clear hS1 hS2 hS3 L0
    by_cases hq : tf c = 0
    ·rw [hq, splitL_ok hq] at hS
     have Q1 := q1 (by omega)
     have Q2 := q2 (by omega)
     clear q1 q2 q3 hc'
     go_upto_region 5 with fail
     go_wp2_with fail
     refine hS.mono ?_; rintro e w3 ⟨v, rfl, o3, b3⟩
     obtain ⟨p, d, rfl⟩ := shapeS o3
     obtain ⟨W4, hW4⟩ : ∃ W, w3.alloc (.cells #[.int .i64 0, .slice none 0 0] 196) = W := ⟨_, rfl⟩
     have b4 : Below w3.heap.size w3 W4 := by rw [<- hW4]; exact allocBelow _ _
     have r4 : Res2 W4 w3.heap.size (.int .i64 0) (.slice none 0 0) := by rw [<- hW4]; exact Res2.new _ _ _ _
     have d0 := r4.c0
     have d1 := r4.c1
     have f0 := r4.f0
     have f1 := r4.f1
     have z3 := b3.size
     have z4 : w3.heap.size < W4.heap.size := cellLt d0
     obtain ⟨W5, hW5⟩ : ∃ W, (W4.setCell ⟨w3.heap.size, 0, none⟩ (.int .i64 0)).setCell ⟨w3.heap.size, 1, none⟩ (.slice p (linesOf c).length d) = W := ⟨_, rfl⟩
     have c0 : W5.cell? ⟨w3.heap.size, 0, none⟩ = some (.int .i64 0) := by rw [<- hW5]; simp [go_sem, d0]
     have c1 : W5.cell? ⟨w3.heap.size, 1, none⟩ = some (.slice p (linesOf c).length d) := by rw [<- hW5]; simp [go_sem, d1]
     have b5 : Below w3.heap.size w3 W5 := by rw [<- hW5]; exact below_sets b4 (Nat.le_refl _) _ _
     have z5 : W5.heap.size = W4.heap.size := by rw [<- hW5]; simp
     have BW : Below Wr.heap.size Wr W5 := b3.trans (b5.mono b3.size)
     have OV : RO w.heap.size W5 c (.slice p (linesOf c).length d) := RO.bel (show RO w.heap.size w3 c (.slice p (linesOf c).length d) from ownsRow_mono o3 (by omega)) b5
     have rl5 := rl.below (by omega) BW
     have HL : Hid (LSt w.heap.size 3 a b c w (W5.setCell ⟨w.heap.size, 2, none⟩ (.slice p (linesOf c).length d))) := ⟨(below_step B (by omega) BW).setCell (p := ⟨w.heap.size, 2, none⟩) (Nat.le_refl _) (.slice p (linesOf c).length d), by have := BW.size; simp; omega, _, _, _, rl5.one2, fun _ => ⟨Q1.1, (Q1.2.bel BW).set 2 (.slice p (linesOf c).length d)⟩, fun _ => ⟨Q2.1, (Q2.2.bel BW).set 2 (.slice p (linesOf c).length d)⟩, fun _ => ⟨hq, OV.set 2 (.slice p (linesOf c).length d)⟩⟩
     have l0 := rl5.at_ 2 _ rfl
     have lf := rl5.fz 2
     clear rl rl5 B OV BW b5 b3 o3 hS r4 b4 Q1 Q2
     go_upto_region 6 with fail
     try rw [hW5]
     clear hW4 hW5 d0 d1 f0 f1
     go_wp2
     go_roundw
     case rel => exact ⟨3, _, by omega, rfl, rfl, HL⟩
     case measure => simp [intOf]
    ·have TX : tx3 a b c = tf c := by unfold tx3; rw [if_pos (q1 (by omega)).1, if_pos (q2 (by omega)).1]
     have q0 : (tf c != 0) = true := by simp [hq]
     have HR : Hid (tx3 a b c = tf c /\ ¬ tf c = 0) := ⟨TX, hq⟩
     clear q1 q2 q3 hc' TX hq
     generalize tf c = Q at hS q0 HR
     go_upto_region 5 with fail
     go_wp2_with fail
     refine hS.mono ?_; rintro e w3 ⟨v, rfl, o3, b3⟩
     obtain ⟨p, d, rfl⟩ := shapeS o3
     obtain ⟨W4, hW4⟩ : ∃ W, w3.alloc (.cells #[.int .i64 0, .slice none 0 0] 196) = W := ⟨_, rfl⟩
     have b4 : Below w3.heap.size w3 W4 := by rw [<- hW4]; exact allocBelow _ _
     have r4 : Res2 W4 w3.heap.size (.int .i64 0) (.slice none 0 0) := by rw [<- hW4]; exact Res2.new _ _ _ _
     have d0 := r4.c0
     have d1 := r4.c1
     have f0 := r4.f0
     have f1 := r4.f1
     have z3 := b3.size
     have z4 : w3.heap.size < W4.heap.size := cellLt d0
     obtain ⟨W5, hW5⟩ : ∃ W, (W4.setCell ⟨w3.heap.size, 0, none⟩ (.int .i64 Q)).setCell ⟨w3.heap.size, 1, none⟩ (.slice p (splitL c).length d) = W := ⟨_, rfl⟩
     have c0 : W5.cell? ⟨w3.heap.size, 0, none⟩ = some (.int .i64 Q) := by rw [<- hW5]; simp [go_sem, d0]
     have c1 : W5.cell? ⟨w3.heap.size, 1, none⟩ = some (.slice p (splitL c).length d) := by rw [<- hW5]; simp [go_sem, d1]
     have b5 : Below w3.heap.size w3 W5 := by rw [<- hW5]; exact below_sets b4 (Nat.le_refl _) _ _
     have BW : Below Wr.heap.size Wr W5 := b3.trans (b5.mono b3.size)
     have HB : Hid (Below w.heap.size w W5) := below_step B (by omega) BW
     clear rl B BW b5 b3 o3 hS r4 b4
     go_upto_region 6 with fail
     try rw [hW5]
     clear hW4 hW5 d0 d1 f0 f1
     go_wp2_with fail
     go_quiet (fail)
     go_wp2
     go_ret2
     exact .inl ⟨by rw [HR.out.1]; exact HR.out.2, ret_ct2 HR.out.1.symm, below_drewN' HB.out _⟩
  ·obtain rfl : j = 3 := by omega
   obtain ⟨B, hz, v1, v2, v3, rl, q1, q2, q3⟩ := hc'.out
   obtain ⟨e1, o1⟩ := q1 (by omega)
   obtain ⟨e2, o2⟩ := q2 (by omega)
   obtain ⟨e3, o3⟩ := q3 (by omega)
   replace o1 : Wr.ownsRow (w.heap.size + 1) 9 1 v1 (linesOf a).length ((linesOf a).map Value.string) := o1
   replace o2 : Wr.ownsRow (w.heap.size + 1) 9 1 v2 (linesOf b).length ((linesOf b).map Value.string) := o2
   replace o3 : Wr.ownsRow (w.heap.size + 1) 9 1 v3 (linesOf c).length ((linesOf c).map Value.string) := o3
   obtain ⟨p1, d1, rfl⟩ := shapeS o1
   obtain ⟨p2, d2, rfl⟩ := shapeS o2
   obtain ⟨p3, d3, rfl⟩ := shapeS o3
   have TX : tx3 a b c = 0 := by unfold tx3; rw [if_pos e1, if_pos e2]; exact e3
   have hx := Tx.of TX
   have fz : ∀ {ss : List ByteArray}, (∀ x ∈ ss, x.size <= 1048576) -> ∀ k, k < ss.length -> (ss.getD k ByteArray.empty).size <= 9223372036854775807 := fun {ss} hy k hk => by
    rw [getD_at _ k hk]; have := hy _ (List.getElem_mem hk); omega
   have X2 : X3 Wr.heap.size Wr p1 p2 p3 d1 d2 d3 (linesOf a) (linesOf b) (linesOf c) := ⟨(ownSS o1 (fz hx.y1)).toB, (ownSS o2 (fz hx.y2)).toB, (ownSS o3 (fz hx.y3)).toB⟩
   have hZ := hx.z3 (own_cap o1).1 (own_cap o2).1 (own_cap o3).1
   have hKp : Hid (∀ W, Below Wr.heap.size Wr W -> Calls Tryz.prog 158 #[.agg #[.slice p1 (linesOf a).length d1, .slice p2 (linesOf b).length d2, .slice p3 (linesOf c).length d3]] W fun e w' => KeptPost W (kpL (linesOf a) (linesOf b) (linesOf c)) e w') := fun W b => keptC p1 p2 p3 d1 d2 d3 _ _ _ W ((X2.belowAt b).mono b.size) hx.n1 hx.n2 hx.n3
   have hCk : Hid (∀ W (ka : Option Addr) (kc : Nat), Below Wr.heap.size Wr W -> TP W.heap.size W ka (kpL (linesOf a) (linesOf b) (linesOf c)) -> (kpL (linesOf a) (linesOf b) (linesOf c)).length <= kc -> Calls Tryz.prog 157 #[.agg #[.slice p1 (linesOf a).length d1, .slice p2 (linesOf b).length d2, .slice p3 (linesOf c).length d3], .slice ka (kpL (linesOf a) (linesOf b) (linesOf c)).length kc] W fun e w' => KPost (ckT (linesOf a) (linesOf b) (linesOf c)) W e w') := fun W ka kc b hK hc => chunksKept p1 p2 p3 d1 d2 d3 _ _ _ W ((X2.belowAt b).mono b.size) hZ ka kc hK hc hx.n1
   have L0 := rl.at_ 0 _ rfl
   have L1 := rl.at_ 1 _ rfl
   have L2 := rl.at_ 2 _ rfl
   have HTX : Hid (tx3 a b c = 0) := TX
   have HF : Hid (∀ v sl e W', e = .returned (.tuple #[v, .int .i64 0]) -> KO w.heap.size W' v (ckT (linesOf a) (linesOf b) (linesOf c)) sl -> Below w.heap.size w W' -> CTP a b c w e W') := fun v sl e W' h1 h2 h3 => .inr ⟨TX, v, sl, h1, h2, h3⟩
   generalize kpL (linesOf a) (linesOf b) (linesOf c) = KL at hKp hCk
   generalize ckT (linesOf a) (linesOf b) (linesOf c) = T at hCk HF
   clear hS1 hS2 hS3 i0 i1 i2 e1 e2 e3 X2 o1 o2 o3 q1 q2 q3 hc' TX hx hZ rl
   have BD : Below Wr.heap.size Wr Wr.drew := (Below.refl _ _).drew
   go_upto_region 10 with fail
   go_region_held (fun W' => W'.cell? ⟨w.heap.size, 0, none⟩ = some (.slice p1 (linesOf a).length d1) /\ W'.cell? ⟨w.heap.size, 1, none⟩ = some (.slice p2 (linesOf b).length d2) /\ W'.cell? ⟨w.heap.size, 2, none⟩ = some (.slice p3 (linesOf c).length d3)) (first | with_reducible exact ⟨L0, L1, L2⟩ | exact ⟨L0, L1, L2⟩)
    ((first
     | (go_at_call 158; refine (hKp.out _ BD).mono ?_; rintro e w' ⟨v, rfl, own, b⟩; obtain ⟨ka, kc, rfl, hTP, hkc⟩ := TP.ofRow own; have L0 := zcK b L0; have L1 := zcK b L1; have L2 := zcK b L2; have BD := below_step BD (by have := BD.size; omega) b; clear b own)
     | (go_at_call 157; refine (hCk.out _ _ _ BD hTP hkc).mono ?_; rintro e w' ⟨v, sl, rfl, O, b⟩; obtain ⟨va, vc, rfl⟩ := shapeK O.row; have L0 := zcK b L0; have L1 := zcK b L1; have L2 := zcK b L2; have sb := BD.size; have BD := below_step BD (by omega) b)))
   all_goals
    have s0 := BD.size
    have BB := below_step B (by omega) BD
    have s1 := BB.size
    clear L0 L1 L2 BD B hKp hCk
    try go_wp2
    go_ret2
    exact HF.out _ _ _ _ rfl (O.mono (by omega)) BB
end Go.Proofs.YtcfnkndbhpdfnaaGreatDoor
