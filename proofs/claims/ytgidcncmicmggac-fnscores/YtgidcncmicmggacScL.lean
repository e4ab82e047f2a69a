/- The lines of a text, collected (slices.Collect over the program's linesIn). No statement is proved here. -/
import Derived.Test.YtgidcncmicmggacRows
import Derived.Test.YtgidcncmicmggacLem
import Derived.Test.YtgidcncmicmggacStrs
import Derived.Test.YtgidcncmicmggacLFLem
import Derived.Test.YtgidcncmicmggacSplLem
import Derived.Test.YtgidcncmicmggacMarks
import Derived.Test.YtgidcncmicmggacDTab
import Derived.Test.YtgidcncmicmggacOwn
import Derived.Test.YtgidcncmicmggacIter
import Derived.Test.YtgidcncmicmggacTF
import Derived.Test.YtgidcncmicmggacSpl
import Derived.RangeFuncWrites
import Derived.RangeFuncBox
import Derived.Maps.AppendAt
import Derived.OwnWalkIn
set_option linter.unusedVariables false
namespace Go.Proofs.Ytgidcncmicmggac.Sc
open Go.RowKit Go.Shelf
attribute [local go_sem] Oper.semAt_some

theorem one_new (w : World) (x : Value) (t : TypeId) : ∀ (j : Nat) (u : Value), [x][j]? = some u → (w.alloc (.cells #[x] t)).cell? ((⟨w.heap.size, 0, none⟩ : Addr).add j) = some u := fun j u h => by
  match j, h with
  | 0, h => simp at h; subst h; simp [Addr.add]
theorem rowDown {w : World} {B B' : Nat} {e : TypeId} {size n : Nat} {v : Value} {xs : List Value} (h : w.ownsRow B e size v n xs) (hB : B' ≤ B) : w.ownsRow B' e size v n xs :=
  ⟨h.1, h.2.imp id fun ⟨g, cap, cur, h1, h2, h3⟩ => ⟨g, cap, cur, h1, Nat.le_trans hB h2, h3⟩⟩
theorem app_box {w W w3 : World} {b Bn : Nat} {v v' : Value} {pre : List ByteArray} {x : ByteArray} {tmp : Obj} (hv : Boxed W b 31 v) (hrow : W.ownsRow (b + 1) 9 1 v pre.length (pre.map Value.string)) (hB : Below b w W) (hsz : b + 1 ≤ W.heap.size) (hBn : Bn < b)
    (hown' : w3.ownsRow (b + 1) 9 1 v' (pre.length + 1) (pre.map Value.string ++ [.string x])) (hgrow : (W.alloc tmp).grownBy w3 v.ownBlock) :
    (w3.cell? ⟨b, 0, none⟩ = some v ∧ w3.frozen? ⟨b, 0, none⟩ = false) ∧ KeepsOthers W (w3.setCell ⟨b, 0, none⟩ v') ∧ KeepB Bn W (w3.setCell ⟨b, 0, none⟩ v') ∧ (∃ u, Boxed (w3.setCell ⟨b, 0, none⟩ v') b 31 u ∧ (w3.setCell ⟨b, 0, none⟩ v').ownsRow (b + 1) 9 1 u (pre ++ [x]).length ((pre ++ [x]).map Value.string) ∧ True) ∧ Below b w (w3.setCell ⟨b, 0, none⟩ v') ∧ b + 1 ≤ (w3.setCell ⟨b, 0, none⟩ v').heap.size := by
  have hne : (31 : TypeId) ≠ 9 := by decide
  have hge : ∀ j, v.ownBlock = some j → b + 1 ≤ j := fun j hj => (hrow.lt j hj).1
  have hv1 : Boxed w3 b 31 v := (hv.alloc tmp).kept hgrow (hv.not_row hne hrow)
  have z3 : b + 1 ≤ w3.heap.size := by have := hgrow.size; simp at this; omega
  refine ⟨⟨hv1.cell, hv1.frozen⟩, ?_, ?_, ⟨v', hv1.set v', ?_, trivial⟩, ?_, by simpa using z3⟩
  · refine ((KeepsOthers.alloc W tmp).trans (KeepsOthers.of_grownBy hgrow fun j o ej hj => ?_)).trans (KeepsOthers.setCell _ _ _)
    rcases (hrow.alloc tmp).2 with ⟨rfl, _⟩ | ⟨g, cap, cur, rfl, _, hgb, _⟩
    · simp [Value.ownBlock] at ej
    · obtain rfl : g = j := by simpa [Value.ownBlock] using ej
      rw [hgb] at hj; cases hj; rfl
  · have e1 : (w3.setCell ⟨b, 0, none⟩ v').heap[Bn]? = w3.heap[Bn]? := Below.heap_setCell _ _ _ _ (by simp; omega)
    have e2 : w3.heap[Bn]? = (W.alloc tmp).heap[Bn]? := hgrow.block _ (by simp; omega) (fun e => by have := hge _ e.symm; omega)
    exact e1.trans (e2.trans (Below.heap_alloc _ _ _ (by omega)))
  · rw [List.length_append, List.map_append]
    exact hown'.kept (grownBy_setCell' w3 _ v') (.inr (hv1.not_row hne hown').symm)
  · exact ((hB.alloc (by omega) tmp).grown hgrow (by simp; omega) (fun j ej => by have := hge j ej; omega)).setCell (p := ⟨b, 0, none⟩) (Nat.le_refl _) v'
set_option maxRecDepth 100000 in
set_option maxHeartbeats 4000000 in
theorem appendSeqC (s : ByteArray) (Bn : Nat) (w : World) (hs : s.size ≤ 1048576) (hl : Bn < w.heap.size) (hc : w.heap[Bn]? = some (.cells #[.string s] 9 (0, 0))) :
    Calls Try.prog 35 #[.slice none 0 0, .func (.func 30) #[] #[.pointer (some ⟨Bn, 0, none⟩)]] w fun e w' => ∃ v, e = .returned v ∧ w'.ownsRow w.heap.size 9 1 v (linesOf s).length ((linesOf s).map Value.string) ∧ Below w.heap.size w w' := by
  obtain ⟨i0, hi, hz0, hz1, hz2⟩ := info_parts infoString
  have hll := lines_le s
  obtain ⟨b, hb⟩ : ∃ b, w.heap.size = b := ⟨_, rfl⟩
  refine (callsIn_wide (n := 5)).1 ?_
  refine callsIn_of_wp_marks Try.func35 rfl trivial ?_ rfl
  simp only [Try.ntmps35, List.size_toArray, List.length_cons, List.length_nil, Nat.reduceAdd, Nat.reduceSub, Array.replicate_succ, Array.replicate_zero, List.push_toArray, List.append_toArray, List.nil_append, List.cons_append]
  gi_wp2
  obtain ⟨W0, hW0⟩ : ∃ W, w.alloc (.cells #[.slice none 0 0] 31) = W := ⟨_, rfl⟩
  have bO : Boxed W0 b 31 (.slice none 0 0) := by rw [← hW0, ← hb]; exact Boxed.new w _ _
  have hB0 : Below b w W0 := by rw [← hW0, ← hb]; exact (Below.refl _ w).alloc (Nat.le_refl _) _
  have z0 : W0.heap.size = b + 1 := by rw [← hW0, ← hb]; simp
  have hc0 : W0.heap[Bn]? = some (.cells #[.string s] 9 (0, 0)) := (hB0.block Bn (by omega)).trans hc
  rw [hW0]
  try rw [hb]
  refine wpIn_rangeFunc_ownG rfl (by omega) (gf := 30) (lb := #[.pointer (some ⟨Bn, 0, none⟩)]) rfl trivial (enters_of Try.func30 (by kernel_rfl) rfl)
    (lines_stops _ (by omega) Bn s hs W0 (by omega) hc0) keepB_t (keepB_b (by omega)) (Below.refl _ _) (fun _ => rfl)
    (fun (pre : List ByteArray) W => (∃ v, Boxed W b 31 v ∧ W.ownsRow (b + 1) 9 1 v pre.length (pre.map Value.string) ∧ True) ∧ Below b w W ∧ b + 1 ≤ W.heap.size)
    (fun _ _ _ => False)
    (OwnFrom.and (Own.from (holdsRow_own (b + 1) b 31 9 1 (fun pre : List ByteArray => pre.length) (fun pre : List ByteArray => pre.map Value.string) (fun _ _ => True)) _) (OwnFrom.and (ownFrom_below (Nat.le_of_eq hb.symm) (by omega)) (fun _ _ _ _ hs hg _ => Nat.le_trans hs hg.size)))
    (fun _ _ _ _ _ hs _ _ => hs)
    ⟨⟨_, bO, World.ownsRow_nil _ _ _ _, trivial⟩, hB0, by omega⟩
    (fun x => { tmps := #[.slice none 0 0, .func (.func 30) #[] #[.pointer (some ⟨Bn, 0, none⟩)], .pointer (some ⟨b, 0, none⟩), undef, .slice none 0 0, .string x, .func (.func 30) #[] #[.pointer (some ⟨Bn, 0, none⟩)], .string x, undef, undef, undef, undef, undef], defers := [] }) ?assign ?body ?done ?stop
  case assign =>
    intro l x W K hK
    gi_wp2
    first | exact hK | simpa using hK
  case body =>
    rintro l pre x W ⟨⟨v, hv, hrow, _⟩, hB, hsz⟩ hlen
    have c0 := hv.cell
    have f0 := hv.frozen
    rw [z0]
    have hne : (31 : TypeId) ≠ 9 := by decide
    gi_wp2_with (gi_at_builtin; refine wpListIn_append_own _ rfl (.tmp 8) (.tmp 10) 31 rfl (b + 1) 9 i0 (.string ByteArray.empty) 1 16 Try.underlying31 hi hz0 hz1 hz2 rfl (by decide) v _ _ rfl (hrow.alloc _) ⟨W.heap.size, 0, none⟩ 1 1 [.string x] rfl rfl (one_new _ _ _) (by simp [Value.oneCell']) (by unfold maxLen; omega) (by omega) (by simp; omega) ?_; intro v' w3 hown' hgrow _; obtain ⟨g', cap', rfl⟩ := ownsRow_succ hown'; obtain ⟨⟨d3, f3⟩, kX⟩ := app_box (Bn := Bn) hv hrow hB hsz (by omega) hown' hgrow)
    exact ⟨kX.1.from _, kX.2.1, kX.2.2.1, kX.2.2.2.1, kX.2.2.2.2⟩
  case done =>
    rintro D ys W hD rfl ⟨⟨v, hv, hrow, _⟩, hB, hsz⟩ hK
    have c0 := hv.cell
    have hBD := hB.trans (belowK_b (w := w) (Nat.le_of_eq hb.symm) W D _ (.deferred none) (by omega) hK rfl rfl)
    obtain ⟨la, lc, rfl⟩ : ∃ a c, v = .slice a (linesOf s).length c := by
      rcases hrow.2 with ⟨h', h0'⟩ | ⟨g, c, cur, h', _⟩
      · exact ⟨none, 0, by rw [h', h0']⟩
      · exact ⟨_, _, h'⟩
    have hR := rowDown (ownsRow_putObj hrow (.deferred none) hK rfl) (show b ≤ b + 1 by omega)
    clear hrow hv
    gi_wp2
    refine ⟨by simp, .inl ⟨_, _, rfl, run_takeDeferred hK, ?_⟩⟩
    refine ⟨_, results_tmp rfl _ _ _, _, rfl, ?_, ?_⟩
    · rw [hb]; exact hR
    · rw [hb]; exact hBD
  case stop =>
    rintro D c pre W _ _ h _
    exact h.elim
set_option maxHeartbeats 1000000 in
theorem collectC (s : ByteArray) (Bn : Nat) (w : World) (hs : s.size ≤ 1048576) (hl : Bn < w.heap.size) (hc : w.heap[Bn]? = some (.cells #[.string s] 9 (0, 0))) :
    Calls Try.prog 25 #[.func (.func 30) #[] #[.pointer (some ⟨Bn, 0, none⟩)]] w fun e w' => ∃ v, e = .returned v ∧ w'.ownsRow w.heap.size 9 1 v (linesOf s).length ((linesOf s).map Value.string) ∧ Below w.heap.size w w' := by
  have hA := appendSeqC s Bn w hs hl hc
  go_enter Try.func25, Try.ntmps25
  go_wp2_with fail
  refine hA.mono ?_; rintro e w1 ⟨v, rfl, o1, b1⟩
  go_wp2
  go_ret
  exact ⟨v, rfl, o1, b1⟩
end Go.Proofs.Ytgidcncmicmggac.Sc
