/- The contract of impl.entriesAhead. No statement is proved here. -/
import Derived.Test.YtjcnnmnnbjaheaaGreatDoorRows
import Derived.Test.YtjcnnmnnbjaheaaGreatDoorLemQ
import Derived.Test.YtjcnnmnnbjaheaaGreatDoorDTabQ
import Derived.Test.YtjcnnmnnbjaheaaGreatDoorIterQ
import Derived.Test.YtjcnnmnnbjaheaaGreatDoorRgCQ
import Derived.Test.YtjcnnmnnbjaheaaGreatDoorLFLemQ
import Derived.Test.YtjcnnmnnbjaheaaGreatDoorTrEQ
import Derived.Test.YtjcnnmnnbjaheaaGreatDoorTrWQ
import Derived.Test.YtjcnnmnnbjaheaaGreatDoorHkTQ
import Derived.Test.YtjcnnmnnbjaheaaGreatDoorSgCQ
import Derived.Test.YtjcnnmnnbjaheaaGreatDoorFfIQ
import Derived.Test.YtjcnnmnnbjaheaaGreatDoorIxNQ
import Derived.Test.YtjcnnmnnbjaheaaGreatDoorPiMQ
import Derived.Test.YtjcnnmnnbjaheaaGreatDoorPiEQ
import Derived.RangeFuncWrites
import Derived.Maps.AppendAt
import Derived.Maps.OwnIn
import Derived.OwnWalkIn
import Derived.Deep.RegionHeld
namespace Go.Proofs.YtjcnnmnnbjaheaaGreatDoor.En
open Go.RowKit Go.Shelf
attribute [local go_sem] Oper.semAt_some

theorem stopMark {p : Prop} (h : Hid p) : p := h
/-- Lines as bytes; what is behind them. -/
def pl (pre : List ByteArray) : List (List UInt8) := pre.map (·.data.toList)
def rst (s : ByteArray) (pre : List ByteArray) : ByteArray := mkB (s.data.toList.drop (pl pre).flatten.length)
theorem rst_nil (s : ByteArray) : rst s [] = s := rfl
theorem lines_pl (s : ByteArray) : pl (linesOf s) = spl s.data.toList := by
  unfold pl linesOf linesFrom
  rw [List.drop_zero, List.map_map]
  have e : ((fun x : ByteArray => x.data.toList) ∘ mkB) = id := funext fun l => mkB_data l
  rw [e, List.map_id]
theorem pre_take {s : ByteArray} {pre : List ByteArray} (h : pre <+: linesOf s) : pl pre = (spl s.data.toList).take pre.length := by
  obtain ⟨t, ht⟩ := h
  rw [← lines_pl, ← ht]
  unfold pl
  rw [List.map_append, List.take_left' (by simp)]
theorem pre_text {s : ByteArray} {pre : List ByteArray} (h : pre <+: linesOf s) : ∃ r, s.data.toList = (pl pre).flatten ++ r := by
  obtain ⟨t, ht⟩ := h
  refine ⟨(pl t).flatten, ?_⟩
  have e := Te.spl_join s.data.toList
  rw [← lines_pl, ← ht] at e
  unfold pl at e ⊢
  rw [List.map_append, List.flatten_append] at e
  exact e.symm
theorem pl_snoc (pre : List ByteArray) (x : ByteArray) : pl (pre ++ [x]) = pl pre ++ [x.data.toList] := by simp [pl]
theorem pl_len (pre : List ByteArray) : (pl pre).length = pre.length := by simp [pl]
theorem rst_step {s : ByteArray} {pre : List ByteArray} {x : ByteArray} (h : pre ++ [x] <+: linesOf s) : x.size ≤ (rst s pre).size ∧ (rst s pre).extract x.size (rst s pre).size = rst s (pre ++ [x]) := by
  obtain ⟨r, hr⟩ := pre_text h
  rw [pl_snoc, List.flatten_append, List.append_assoc] at hr
  have e1 : (rst s pre).data.toList = x.data.toList ++ r := by
    unfold rst
    rw [mkB_data, hr, List.drop_left]
    simp
  have e2 : (rst s (pre ++ [x])).data.toList = r := by
    unfold rst
    rw [mkB_data, pl_snoc, List.flatten_append, hr, ← List.append_assoc, List.drop_left']
    simp
  have e3 : (rst s pre).size = x.size + r.length := by rw [← size_eq, e1, List.length_append, size_eq]
  refine ⟨by omega, ?_⟩
  apply bytes_inj2
  rw [ByteArray.toList_eq, ByteArray.toList_eq, extract_data, e1, e2, List.take_of_length_le (by rw [List.length_drop, List.length_append, size_eq]; omega)]
  rw [← size_eq, List.drop_left]
theorem line_at {s : ByteArray} {pre : List ByteArray} {x : ByteArray} (h : pre ++ [x] <+: linesOf s) : (spl s.data.toList)[pre.length]? = some x.data.toList := by
  obtain ⟨t, ht⟩ := h
  rw [← lines_pl, ← ht]
  unfold pl
  simp
theorem line_sz {s : ByteArray} {pre : List ByteArray} {x : ByteArray} (h : pre ++ [x] <+: linesOf s) : x.size ≤ s.size := by
  have := (rst_step h).1
  have e : (rst s pre).size ≤ s.size := by
    unfold rst
    rw [size_mk, List.length_drop, size_eq]
    omega
  omega
theorem line_cnt {s : ByteArray} {pre : List ByteArray} {x : ByteArray} (h : pre ++ [x] <+: linesOf s) : pre.length < s.size := by
  have h1 := h.length_le
  have h2 : (linesOf s).length = (spl s.data.toList).length := by rw [← lines_pl, pl_len]
  have h3 := spl_len_le s.data.toList
  rw [size_eq] at h3
  simp at h1
  omega
/-- All lines so far are entries. -/
def Full (pre : List ByteArray) : Prop := (ahead (pl pre)).length = pre.length
theorem full_up {s : ByteArray} {pre : List ByteArray} (h : pre <+: linesOf s) (hf : Full pre) : Up (spl s.data.toList) pre.length (ahead (pl pre)) := ⟨by rw [pre_take h], hf⟩
theorem full_nil : Full [] := rfl
theorem full_more {pre : List ByteArray} {x : ByteArray} {o : Ob} (hf : Full pre) (e : entL x.data.toList = some o) : Full (pre ++ [x]) ∧ ahead (pl (pre ++ [x])) = ahead (pl pre) ++ [o] := by
  unfold Full at hf ⊢
  rw [pl_snoc, ahead_snoc (by rw [pl_len]; exact hf) e]
  exact ⟨by simp [hf], rfl⟩
theorem up_rst {s : ByteArray} {pre : List ByteArray} (h : pre <+: linesOf s) (hf : Full pre) (e : pA s = ahead (pl pre)) : (rst s pre).data.toList = pR s := by
  unfold rst
  rw [mkB_data, pR_drop, e, show (ahead (pl pre)).length = pre.length from hf, ← pre_take h]
theorem stop_at {s : ByteArray} {pre : List ByteArray} {x : ByteArray} (h : pre ++ [x] <+: linesOf s) (hf : Full pre) (e : entL x.data.toList = none) : pA s = ahead (pl pre) ∧ (rst s pre).data.toList = pR s := by
  have hp : pre <+: linesOf s := (List.prefix_append pre [x]).trans h
  have k := (full_up hp hf).stop (line_at h) e
  exact ⟨k, up_rst hp hf k⟩
theorem end_at {s : ByteArray} {pre : List ByteArray} (h : pre = linesOf s) (hf : Full pre) : pA s = ahead (pl pre) ∧ (rst s pre).data.toList = pR s := by
  have hp : pre <+: linesOf s := by rw [h]; exact List.prefix_rfl
  have k : pA s = ahead (pl pre) := by rw [h, lines_pl]; rfl
  exact ⟨k, up_rst hp hf k⟩
/-- The two boxes: the entries so far, the text behind them. -/
def EI (w : World) (L : List Ob) (b : ByteArray) (W : World) : Prop :=
  (∃ v, Boxed W w.heap.size 25 v ∧ W.ownsRow (w.heap.size + 3) 51 4 v L.length (ocells L) ∧ True) ∧ Boxed W (w.heap.size + 1) 9 (.string b) ∧ Below w.heap.size w W ∧ w.heap.size + 3 ≤ W.heap.size
theorem ei_own {β : Type} (w : World) (L : β → List Ob) (b : β → ByteArray) (B : Nat) (hB : w.heap.size ≤ B) : OwnFrom B (fun s W => EI w (L s) (b s) W) :=
  OwnFrom.and (Own.from (holdsRow_own (w.heap.size + 3) w.heap.size 25 51 4 (fun s => (L s).length) (fun s => ocells (L s)) (fun _ _ => True)) _)
    (OwnFrom.and (Own.from (boxed_own (w.heap.size + 1) 9 (fun s => .string (b s))) _) (OwnFrom.and (ownFrom_below (Nat.le_refl _) hB) (fun _ _ _ _ hs hg _ => Nat.le_trans hs hg.size)))
theorem EI.bel {w W W' : World} {L : List Ob} {b : ByteArray} (h : EI w L b W) (hb : Below W.heap.size W W') : EI w L b W' := by
  obtain ⟨⟨v, h1, h2, _⟩, h3, h4, h5⟩ := h
  exact ⟨⟨v, h1.kept (grown_of_below hb none) (by simp), h2.kept (grown_of_below hb none) (by cases hv : v.ownBlock <;> simp), trivial⟩, h3.kept (grown_of_below hb none) (by simp), h4.trans (hb.mono h4.size), Nat.le_trans h5 hb.size⟩
theorem ei_app {w W W3 : World} {v v' : Value} {L L' : List Ob} {b : ByteArray} {tmp : Obj} (hv : Boxed W w.heap.size 25 v) (hrow : W.ownsRow (w.heap.size + 3) 51 4 v L.length (ocells L))
    (hb : Boxed W (w.heap.size + 1) 9 (.string b)) (hB : Below w.heap.size w W) (hsz : w.heap.size + 3 ≤ W.heap.size)
    (hown : W3.ownsRow (w.heap.size + 3) 51 4 v' L'.length (ocells L')) (hgrow : (W.alloc tmp).grownBy W3 v.ownBlock) :
    Boxed W3 w.heap.size 25 v ∧ EI w L' b (W3.setCell ⟨w.heap.size, 0, none⟩ v') ∧ KeepsOthers W (W3.setCell ⟨w.heap.size, 0, none⟩ v') ∧ KeepB (w.heap.size + 2) W (W3.setCell ⟨w.heap.size, 0, none⟩ v') := by
  have hne : (25 : TypeId) ≠ 51 := by decide
  have hns : (9 : TypeId) ≠ 51 := by decide
  have hge : ∀ j, v.ownBlock = some j → w.heap.size + 3 ≤ j := fun j hj => (hrow.lt j hj).1
  have hv1 : Boxed W3 w.heap.size 25 v := (hv.alloc tmp).kept hgrow (hv.not_row hne hrow)
  have hb1 : Boxed W3 (w.heap.size + 1) 9 (.string b) := (hb.alloc tmp).kept hgrow (hb.not_row hns hrow)
  have hsz3 : w.heap.size + 3 ≤ W3.heap.size := by have h1 := hgrow.size; simp at h1; omega
  refine ⟨hv1, ⟨⟨v', hv1.set v', hown.kept (grownBy_setCell' W3 _ v') (.inr (hv1.not_row hne hown).symm), trivial⟩, hb1.other (by omega) v', ?_, by simpa using hsz3⟩, ?_, ?_⟩
  · refine ((hB.alloc hB.size tmp).grown hgrow (by simp; omega) fun j ej => ?_).setCell (p := ⟨w.heap.size, 0, none⟩) (Nat.le_refl _) v'
    have := hge j ej; omega
  · refine ((KeepsOthers.alloc W tmp).trans (KeepsOthers.of_grownBy hgrow fun j o ej hj => ?_)).trans (KeepsOthers.setCell _ _ _)
    rcases (hrow.alloc tmp).2 with ⟨rfl, _⟩ | ⟨g, cap, cur, rfl, _, hgb, _⟩
    · simp [Value.ownBlock] at ej
    · obtain rfl : g = j := by simpa [Value.ownBlock] using ej
      rw [hgb] at hj; cases hj; rfl
  · have e1 : (W3.setCell ⟨w.heap.size, 0, none⟩ v').heap[w.heap.size + 2]? = W3.heap[w.heap.size + 2]? := Below.heap_setCell _ _ _ _ (by simp)
    have e2 : W3.heap[w.heap.size + 2]? = (W.alloc tmp).heap[w.heap.size + 2]? := hgrow.block _ (by simp; omega) (fun e => by have := hge _ e.symm; omega)
    have e3 : (W.alloc tmp).heap[w.heap.size + 2]? = W.heap[w.heap.size + 2]? := Below.heap_alloc _ _ _ (by omega)
    exact e1.trans (e2.trans e3)
theorem ei_put {w W : World} {L : List Ob} {b : ByteArray} (h : EI w L b W) (b' : ByteArray) :
    EI w L b' (W.setCell ⟨w.heap.size + 1, 0, none⟩ (.string b')) ∧ KeepsOthers W (W.setCell ⟨w.heap.size + 1, 0, none⟩ (.string b')) ∧ KeepB (w.heap.size + 2) W (W.setCell ⟨w.heap.size + 1, 0, none⟩ (.string b')) := by
  obtain ⟨⟨v, h1, h2, _⟩, h3, h4, h5⟩ := h
  refine ⟨⟨⟨v, h1.other (by omega) _, ownsRow_setCell_below h2 (a := ⟨w.heap.size + 1, 0, none⟩) (show w.heap.size + 1 < _ by omega) _, trivial⟩, h3.set _, h4.setCell (p := ⟨w.heap.size + 1, 0, none⟩) (Nat.le_succ _) _, by simpa using h5⟩, KeepsOthers.setCell _ _ _, ?_⟩
  exact Below.heap_setCell _ _ _ _ (by simp)
theorem keepsB {W W' : World} (h : Below W.heap.size W W') : KeepsOthers W W' := KeepsOthers.of_grownBy (grown_of_below h none) (fun j o ej _ => by cases ej)
/-- What is answered. -/
def AE (s : ByteArray) (w : World) (e : Ending) (w' : World) : Prop := ∃ v b, e = .returned (.tuple #[v, .string b]) ∧ b.data.toList = pR s ∧ w'.ownsRow w.heap.size 51 4 v (pA s).length (ocells (pA s)) ∧ Below w.heap.size w w'
set_option maxRecDepth 100000 in
set_option maxHeartbeats 4000000 in
theorem entriesAheadC (s : ByteArray) (w : World) (hs : s.size ≤ 1048576) (hM : Te.MwG w) (hMB : 0 < w.heap.size) :
    Calls Tryz.prog 21 #[.string s] w fun e w' => AE s w e w' := by
  obtain ⟨i0, hi, hz0, hz1, hz2⟩ := info_parts infoObj
  refine (callsIn_wide (n := 5)).1 ?_
  refine callsIn_of_wp_marks Tryz.func21 rfl trivial ?_ rfl
  simp only [Tryz.ntmps21, List.size_toArray, List.length_cons, List.length_nil, Nat.reduceAdd, Nat.reduceSub, Array.replicate_succ, Array.replicate_zero, List.push_toArray, List.append_toArray, List.nil_append, List.cons_append]
  gi_wp2_with fail
  refine ⟨trivial, ?_⟩
  refine (callsIn_wide.2 (linesIn_any _ _)).mono ?_; rintro e w' ⟨rfl, rfl⟩
  gi_wp2
  have bO : Boxed (((w.alloc (.cells #[.slice none 0 0] 25)).alloc (.cells #[.string s] 9)).alloc (.cells #[.string s] 9)) w.heap.size 25 (.slice none 0 0) := ((Boxed.new w _ _).alloc _).alloc _
  have bS : Boxed (((w.alloc (.cells #[.slice none 0 0] 25)).alloc (.cells #[.string s] 9)).alloc (.cells #[.string s] 9)) (w.heap.size + 1) 9 (.string s) := by
    have h := Boxed.new (w.alloc (.cells #[.slice none 0 0] 25)) 9 (.string s)
    rw [World.size_alloc] at h
    exact h.alloc _
  have hbx : (((w.alloc (.cells #[.slice none 0 0] 25)).alloc (.cells #[.string s] 9)).alloc (.cells #[.string s] 9)).heap[w.heap.size + 1 + 1]? = some (.cells #[.string s] 9 (0, 0)) := by
    have h := World.alloc_heap_new ((w.alloc (.cells #[.slice none 0 0] 25)).alloc (.cells #[.string s] 9)) (.cells #[.string s] 9)
    rwa [World.size_alloc, World.size_alloc] at h
  have hB0 : Below w.heap.size w (((w.alloc (.cells #[.slice none 0 0] 25)).alloc (.cells #[.string s] 9)).alloc (.cells #[.string s] 9)) := (((Below.refl _ w).alloc (Nat.le_refl _) _).alloc (by simp) _).alloc (by simp; omega) _
  have hz0' : (((w.alloc (.cells #[.slice none 0 0] 25)).alloc (.cells #[.string s] 9)).alloc (.cells #[.string s] 9)).heap.size = w.heap.size + 3 := by simp
  generalize ((w.alloc (.cells #[.slice none 0 0] 25)).alloc (.cells #[.string s] 9)).alloc (.cells #[.string s] 9) = W0 at bO bS hbx hB0 hz0' ⊢
  refine wpIn_rangeC rfl (by omega) (gf := 67) (lb := #[.pointer (some ⟨w.heap.size + 1 + 1, 0, none⟩)]) rfl trivial (enters_of Tryz.func67 (by kernel_rfl) rfl)
    (lines_C _ (by omega) (w.heap.size + 1 + 1) s hs _ (by omega) hbx) keepB_t (keepB_b (by omega)) (Below.refl _ _) (fun _ => rfl)
    (fun pre W => Full pre ∧ EI w (ahead (pl pre)) (rst s pre) W)
    (fun c pre W => (c = .exit 0 ∧ ∃ p x, pre = p ++ [x] ∧ Full p ∧ entL x.data.toList = none) ∧ EI w (ahead (pl pre.dropLast)) (rst s pre.dropLast) W)
    (OwnFrom.and (ownFrom_pure _ _) (ei_own w (fun pre => ahead (pl pre)) (fun pre => rst s pre) _ (by omega)))
    (fun c => OwnFrom.and (ownFrom_pure _ _) (ei_own w (fun pre : List ByteArray => ahead (pl pre.dropLast)) (fun pre => rst s pre.dropLast) _ (by omega)))
    ⟨full_nil, ⟨_, bO, World.ownsRow_nil _ _ _ _, trivial⟩, by rw [rst_nil]; exact bS, hB0, by omega⟩
    (fun x => { tmps := #[.string s, undef, .slice none 0 0, .string ⟨#[]⟩, .pointer (some ⟨w.heap.size, 0, none⟩), .pointer (some ⟨w.heap.size + 1, 0, none⟩), .string x, undef, undef, .string s, .string s, .func (.func 67) #[] #[.pointer (some ⟨w.heap.size + 1 + 1, 0, none⟩)], .string x, undef, undef, undef, undef, undef, undef, undef, undef, undef, undef, undef, undef, undef, undef, undef, undef, undef], defers := [] })
    ?assign ?body ?done ?stop
  case assign =>
    intro l x W K hK
    gi_wp2
    first | exact hK | simpa using hK
  case body =>
    rintro l pre x W ⟨hF, ⟨⟨v, hv, hrow, _⟩, hb, hB, hsz⟩⟩ hC
    have hxs : x.size ≤ 1048576 := Nat.le_trans (line_sz hC) hs
    have hcn := line_cnt hC
    have hst := rst_step hC
    have hMW : Te.MwG W := hM.below hB hMB
    have hMWB : 0 < W.heap.size := Nat.lt_of_lt_of_le hMB hB.size
    have hRd := readEntryC x W hxs hMW hMWB
    have hBlen : (ahead (pl pre)).length = pre.length := hF
    clear bO bS hbx hB0 hM hMB hMW hMWB
    gi_wp2_with fail
    refine ⟨trivial, ?_⟩
    refine (CallsIn.inRound l (callsIn_wide.2 hRd)).mono ?_
    rintro e w2 ⟨hR, hb2⟩
    clear hRd
    rcases hR with ⟨o, ho, rfl⟩ | ⟨ho, ya, yb, ym, yn, rfl⟩
    rotate_left
    · have b3 : Below W.heap.size W (w2.alloc (.cells #[.string ya, .int .i64 ym, .int .i64 yn, .string yb] 51)) := hb2.trans ((allocBelow _ _).mono hb2.size)
      have HE : ∀ a, Hid (ownPostG W0.heap.size (KeepB (w.heap.size + 1 + 1)) (fun pre W => Full pre ∧ EI w (ahead (pl pre)) (rst s pre) W) (fun c pre W => (c = .exit 0 ∧ ∃ p x, pre = p ++ [x] ∧ Full p ∧ entL x.data.toList = none) ∧ EI w (ahead (pl pre.dropLast)) (rst s pre.dropLast) W) (pre ++ [x]) W (.exit 0) a (w2.alloc (.cells #[.string ya, .int .i64 ym, .int .i64 yn, .string yb] 51))) := fun _ =>
        ⟨(keepsB b3).from _, ⟨rfl, pre, x, rfl, hF, ho⟩, by rw [List.dropLast_concat]; exact EI.bel ⟨⟨v, hv, hrow, trivial⟩, hb, hB, hsz⟩ b3⟩
      clear hv hrow hb hB hsz hF hb2 b3 hst hC
      gi_wp2
      exact (HE _).out
    · obtain ⟨hF2, hA2⟩ := full_more hF ho
      obtain ⟨x0, x1, x2, x3⟩ := o
      simp only [] at hA2 ⊢
      obtain ⟨W3, hW3⟩ : ∃ W3, w2.alloc (.cells #[.string x0, .int .i64 x1, .int .i64 x2, .string x3] 51) = W3 := ⟨_, rfl⟩
      have b3 : Below W.heap.size W W3 := by rw [← hW3]; exact hb2.trans ((allocBelow _ _).mono hb2.size)
      have oW : Rf W3 w2.heap.size [.string x0, .int .i64 x1, .int .i64 x2, .string x3] := by rw [← hW3]; exact Rf.new _ _ _
      have m0 := oW.at_ 0 _ rfl
      have m1 := oW.at_ 1 _ rfl
      have m2 := oW.at_ 2 _ rfl
      have m3 := oW.at_ 3 _ rfl
      have hv3 := hv.kept (grown_of_below b3 none) (by simp)
      have hrow3 := hrow.kept (grown_of_below b3 none) (by cases hv : v.ownBlock <;> simp)
      have hb3 := hb.kept (grown_of_below b3 none) (by simp)
      have hB3 := hB.trans (b3.mono hB.size)
      have hsz3 := Nat.le_trans hsz b3.size
      have kO3 := keepsB b3
      have kB3 : KeepB (w.heap.size + 2) W W3 := b3.block _ (by omega)
      have hc := hv3.cell
      have nw := newE W3 (x0, x1, x2, x3)
      clear hv hrow hb hB hsz hF ho hb2 b3 oW hC
      gi_wp2_with (gi_at_builtin; refine stopMark ?_)
      change wpListIn _ _ _ _ _ _ _ _
      refine wpListIn_append_own _ rfl (.tmp 20) (.tmp 22) 25 rfl (w.heap.size + 3) 51 i0 _ 4 48 Tryz.underlying25 hi hz0 hz1 hz2 rfl (by decide) v _ _ rfl (hrow3.alloc _) ⟨W3.heap.size, 0, none⟩ 1 1 (ocells [(x0, x1, x2, x3)]) rfl rfl nw (oneE _) (by unfold maxLen; omega) (by omega) (by simp; omega) ?_
      intro v' W5 hown' hgrow _
      obtain ⟨g', cap', rfl⟩ := ownsRow_succ hown'
      have hown5 : W5.ownsRow (w.heap.size + 3) 51 4 (.slice (some ⟨g', 0, none⟩) ((ahead (pl pre)).length + 1) cap') (ahead (pl (pre ++ [x]))).length (ocells (ahead (pl (pre ++ [x])))) := by rw [hA2, List.length_append, ocells_app]; exact hown'
      obtain ⟨hbx5, E6, kO6, kB6⟩ := ei_app hv3 hrow3 hb3 hB3 hsz3 hown5 hgrow
      obtain ⟨E7, kO7, kB7⟩ := ei_put E6 (rst s (pre ++ [x]))
      have HE : ∀ a, Hid (ownPostG W0.heap.size (KeepB (w.heap.size + 1 + 1)) (fun pre W => Full pre ∧ EI w (ahead (pl pre)) (rst s pre) W) (fun c pre W => (c = .exit 0 ∧ ∃ p x, pre = p ++ [x] ∧ Full p ∧ entL x.data.toList = none) ∧ EI w (ahead (pl pre.dropLast)) (rst s pre.dropLast) W) (pre ++ [x]) W .normal a _) := fun _ =>
        ⟨((kO3.trans kO6).trans kO7).from _, keepB_t (keepB_t kB3 kB6) kB7, hF2, E7⟩
      have d5 := hbx5.cell
      have f5 := hbx5.frozen
      have d6 := E6.2.1.cell
      have f6 := E6.2.1.frozen
      have hle : (x.size : Int) ≤ ((rst s pre).size : Int) := by have := hst.1; omega
      have hex := hst.2
      obtain ⟨b0, hb0⟩ : ∃ b0, rst s pre = b0 := ⟨_, rfl⟩
      obtain ⟨b1, hb1⟩ : ∃ b1, rst s (pre ++ [x]) = b1 := ⟨_, rfl⟩
      rw [hb0] at d6 hle hex
      rw [hb1] at hex HE
      clear hBlen hv3 hrow3 hb3 hB3 hsz3 kO3 kB3 hown' hgrow hown5 hbx5 E6 E7 kO6 kB6 kO7 kB7 nw m0 m1 m2 m3 hst hb0 hb1 hW3 hc
      gi_wp2
      exact (HE _).out
  case done =>
    rintro D ys W hD hys ⟨hF, hE⟩ hK
    obtain ⟨hA, hR⟩ := end_at hys hF
    rw [← hA] at hE
    obtain ⟨⟨v, hv, hrow, _⟩, hb, hB, hsz⟩ := hE
    generalize rst s ys = b at hb hR
    have HR : Hid (b.data.toList = pR s) := hR
    have c0 := hv.cell
    have c1 := hb.cell
    clear hA hR hMB hM bO bS hbx hB0 hv hb
    gi_wp2
    refine Te.region_wide (S := fun u => u.cell? ⟨w.heap.size, 0, none⟩ = some v ∧ u.cell? ⟨w.heap.size + 1, 0, none⟩ = some (.string b)) (by kernel_rfl) ⟨c0, c1⟩ (fun hHeld => ?_)
    refine Te.takeD (i := 0) (d := 28) (oi := _) (v := ?_) (listed' := #[true, false, false, false]) rfl (by kernel_rfl) (by kernel_rfl) (by kernel_rfl) (fun _ _ _ h => by cases h.1) (Or.inl ⟨by rfl, ?_⟩) hHeld (by kernel_rfl) (by kernel_rfl) ?_
    rotate_left
    · intro w hSw
      try dsimp only at hSw
      first
        | (go_simp; done)
        | (go_simp; with_reducible rfl)
        | (go_simp; simp [hSw])
        | (go_simp; simp)
    simp only [Act.put, List.setIfInBounds_toArray, List.set_cons_zero, List.set_cons_succ]
    refine Te.takeD (i := 1) (d := 29) (oi := _) (v := ?_) (listed' := #[true, true, false, false]) rfl (by kernel_rfl) (by kernel_rfl) (by kernel_rfl) (fun _ _ _ h => by cases h.1) (Or.inl ⟨by rfl, ?_⟩) hHeld (by kernel_rfl) (by kernel_rfl) ?_
    rotate_left
    · intro w hSw
      try dsimp only at hSw
      first
        | (go_simp; done)
        | (go_simp; with_reducible rfl)
        | (go_simp; simp [hSw])
        | (go_simp; simp)
    simp only [Act.put, List.setIfInBounds_toArray, List.set_cons_zero, List.set_cons_succ]
    refine Te.takeD (i := 2) (d := 2) (oi := _) (v := ?_) (listed' := #[true, true, true, false]) rfl (by kernel_rfl) (by kernel_rfl) (by kernel_rfl) (fun _ _ _ h => by cases h.1) (Or.inl ⟨by rfl, ?_⟩) hHeld (by kernel_rfl) (by kernel_rfl) ?_
    rotate_left
    · intro w hSw
      try dsimp only at hSw
      first
        | (go_simp; done)
        | (go_simp; with_reducible rfl)
        | (go_simp; simp [hSw])
        | (go_simp; simp)
    simp only [Act.put, List.setIfInBounds_toArray, List.set_cons_zero, List.set_cons_succ]
    refine Te.takeD (i := 3) (d := 3) (oi := _) (v := ?_) (listed' := #[true, true, true, true]) rfl (by kernel_rfl) (by kernel_rfl) (by kernel_rfl) (fun _ _ _ h => by cases h.1) (Or.inl ⟨by rfl, ?_⟩) hHeld (by kernel_rfl) (by kernel_rfl) ?_
    rotate_left
    · intro w hSw
      try dsimp only at hSw
      first
        | (go_simp; done)
        | (go_simp; with_reducible rfl)
        | (go_simp; simp [hSw])
        | (go_simp; simp)
    simp only [Act.put, List.setIfInBounds_toArray, List.set_cons_zero, List.set_cons_succ]
    refine wpAnyH_done (by kernel_rfl) ?_ _
    refine ⟨by simp, ?_⟩
    gi_wp2
    have hK2 : W.drew.heap[D]? = some (.deferred (some [])) := hK
    refine ⟨by simp, .inl ⟨_, _, rfl, run_takeDeferred hK2, ?_⟩⟩
    refine ⟨.tuple #[v, .string b], by simp [results, Tryz.results21, go_sem], v, b, rfl, HR.out, ownMonoF (ownsRow_putObj hrow.drew _ hK2 rfl) (b := w.heap.size) (by omega), (below_drew hB).trans (belowK_b (w := w) (Nat.le_refl _) W.drew D _ _ (by omega) hK2 rfl rfl)⟩
  case stop =>
    rintro D c pre W hD hpre ⟨⟨rfl, p, x, rfl, hF, hx⟩, hE⟩ hK
    rw [List.dropLast_concat] at hE
    obtain ⟨hA, hR⟩ := stop_at hpre hF hx
    generalize p = ys at hE hA hR
    rw [← hA] at hE
    obtain ⟨⟨v, hv, hrow, _⟩, hb, hB, hsz⟩ := hE
    generalize rst s ys = b at hb hR
    have HR : Hid (b.data.toList = pR s) := hR
    have c0 := hv.cell
    have c1 := hb.cell
    clear hA hR hMB hM bO bS hbx hB0 hv hb
    gi_wp2
    refine Te.region_wide (S := fun u => u.cell? ⟨w.heap.size, 0, none⟩ = some v ∧ u.cell? ⟨w.heap.size + 1, 0, none⟩ = some (.string b)) (by kernel_rfl) ⟨c0, c1⟩ (fun hHeld => ?_)
    refine Te.takeD (i := 0) (d := 28) (oi := _) (v := ?_) (listed' := #[true, false, false, false]) rfl (by kernel_rfl) (by kernel_rfl) (by kernel_rfl) (fun _ _ _ h => by cases h.1) (Or.inl ⟨by rfl, ?_⟩) hHeld (by kernel_rfl) (by kernel_rfl) ?_
    rotate_left
    · intro w hSw
      try dsimp only at hSw
      first
        | (go_simp; done)
        | (go_simp; with_reducible rfl)
        | (go_simp; simp [hSw])
        | (go_simp; simp)
    simp only [Act.put, List.setIfInBounds_toArray, List.set_cons_zero, List.set_cons_succ]
    refine Te.takeD (i := 1) (d := 29) (oi := _) (v := ?_) (listed' := #[true, true, false, false]) rfl (by kernel_rfl) (by kernel_rfl) (by kernel_rfl) (fun _ _ _ h => by cases h.1) (Or.inl ⟨by rfl, ?_⟩) hHeld (by kernel_rfl) (by kernel_rfl) ?_
    rotate_left
    · intro w hSw
      try dsimp only at hSw
      first
        | (go_simp; done)
        | (go_simp; with_reducible rfl)
        | (go_simp; simp [hSw])
        | (go_simp; simp)
    simp only [Act.put, List.setIfInBounds_toArray, List.set_cons_zero, List.set_cons_succ]
    refine Te.takeD (i := 2) (d := 2) (oi := _) (v := ?_) (listed' := #[true, true, true, false]) rfl (by kernel_rfl) (by kernel_rfl) (by kernel_rfl) (fun _ _ _ h => by cases h.1) (Or.inl ⟨by rfl, ?_⟩) hHeld (by kernel_rfl) (by kernel_rfl) ?_
    rotate_left
    · intro w hSw
      try dsimp only at hSw
      first
        | (go_simp; done)
        | (go_simp; with_reducible rfl)
        | (go_simp; simp [hSw])
        | (go_simp; simp)
    simp only [Act.put, List.setIfInBounds_toArray, List.set_cons_zero, List.set_cons_succ]
    refine Te.takeD (i := 3) (d := 3) (oi := _) (v := ?_) (listed' := #[true, true, true, true]) rfl (by kernel_rfl) (by kernel_rfl) (by kernel_rfl) (fun _ _ _ h => by cases h.1) (Or.inl ⟨by rfl, ?_⟩) hHeld (by kernel_rfl) (by kernel_rfl) ?_
    rotate_left
    · intro w hSw
      try dsimp only at hSw
      first
        | (go_simp; done)
        | (go_simp; with_reducible rfl)
        | (go_simp; simp [hSw])
        | (go_simp; simp)
    simp only [Act.put, List.setIfInBounds_toArray, List.set_cons_zero, List.set_cons_succ]
    refine wpAnyH_done (by kernel_rfl) ?_ _
    refine ⟨by simp, ?_⟩
    gi_wp2
    have hK2 : W.drew.heap[D]? = some (.deferred (some [])) := hK
    refine ⟨by simp, .inl ⟨_, _, rfl, run_takeDeferred hK2, ?_⟩⟩
    refine ⟨.tuple #[v, .string b], by simp [results, Tryz.results21, go_sem], v, b, rfl, HR.out, ownMonoF (ownsRow_putObj hrow.drew _ hK2 rfl) (b := w.heap.size) (by omega), (below_drew hB).trans (belowK_b (w := w) (Nat.le_refl _) W.drew D _ _ (by omega) hK2 rfl rfl)⟩
end Go.Proofs.YtjcnnmnnbjaheaaGreatDoor.En
