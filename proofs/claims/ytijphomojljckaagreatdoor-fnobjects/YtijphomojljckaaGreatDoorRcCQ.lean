/- The contract of the program's readCommit. No statement is proved here. -/
import Derived.Test.YtijphomojljckaaGreatDoorRows
import Derived.Test.YtijphomojljckaaGreatDoorLemQ
import Derived.Test.YtijphomojljckaaGreatDoorMarksQ
import Derived.Test.YtijphomojljckaaGreatDoorComQ
import Derived.Test.YtijphomojljckaaGreatDoorIterQ
import Derived.Test.YtijphomojljckaaGreatDoorShelfBQ
import Derived.Test.YtijphomojljckaaGreatDoorWvCQ
import Derived.Test.YtijphomojljckaaGreatDoorIxBQ
import Derived.Test.YtijphomojljckaaGreatDoorFpSQ
import Derived.Test.YtijphomojljckaaGreatDoorWcCQ
import Derived.Test.YtijphomojljckaaGreatDoorCmTQ
import Derived.Test.YtijphomojljckaaGreatDoorRegRQ
import Derived.Test.YtijphomojljckaaGreatDoorDcLQ
import Derived.Test.YtijphomojljckaaGreatDoorDcWQ
import Derived.Test.YtijphomojljckaaGreatDoorRcHQ
import Derived.RangeFuncWrites
import Derived.Maps.AppendAt
import Derived.OwnWalkIn
import Derived.Deep.RegionHeld
import Derived.Test.YtijphomojljckaaGreatDoorHkTQ
import Derived.Test.YtijphomojljckaaGreatDoorAsCQ
import Derived.Test.YtijphomojljckaaGreatDoorDcVQ
import Derived.WalkKit
import Derived.ProofKit
import Derived.Below
import Derived.WalkSpells
import Derived.Deep.QuietTactic
import Derived.BigQuiet
set_option linter.unusedVariables false
namespace Go.Proofs.YtijphomojljckaaGreatDoor.Dc
open Go.RowKit Go.Shelf
open Go.Proofs.YtijphomojljckaaGreatDoor.Te
attribute [local go_sem] Oper.semAt_some

/-- How readCommit ends. -/
def RC (s : ByteArray) (w : World) (e : Ending) (w' : World) : Prop := Below w.heap.size w w' ∧
  ((∃ (t : ByteArray) (ps : List ByteArray) (tm : Int) (no : ByteArray) (v : Value), dcI pI s = some (t, ps, tm, no) ∧ e = .returned (.tuple #[.agg #[.string t, v, .int .i64 tm, .string no], .nilIface]) ∧ w'.ownsRow (w.heap.size + 2) 9 1 v ps.length (ps.map Value.string)) ∨
    (dcI pI s = none ∧ ∃ (t : ByteArray) (a : Option Addr) (n c : Nat) (tm : Int) (no : ByteArray) (T : TypeId) (u : Value), e = .returned (.tuple #[.agg #[.string t, .slice a n c, .int .i64 tm, .string no], .iface 80 (.agg #[.iface T u])])))
theorem p_tree {t : ByteArray} {ps : List ByteArray} {tm : Int} {no : ByteArray} {x : List UInt8} (h : mkB (bef (trimL x)) = wTree) : pStep pI (some (t, ps, tm, no)) x = some (mkB (aft (trimL x)), ps, tm, no) := by
  have h' : bef (trimL x) = wTree.data.toList := by rw [← h, mkB_data]
  simp only [pStep]; rw [if_pos h']
theorem p_parent {t : ByteArray} {ps : List ByteArray} {tm : Int} {no : ByteArray} {x : List UInt8} (h : mkB (bef (trimL x)) = wPar) : pStep pI (some (t, ps, tm, no)) x = some (t, ps ++ [mkB (aft (trimL x))], tm, no) := by
  have h' : bef (trimL x) = wPar.data.toList := by rw [← h, mkB_data]
  simp only [pStep]; rw [h', if_neg (by decide), if_pos rfl]
theorem p_time {t : ByteArray} {ps : List ByteArray} {tm : Int} {no : ByteArray} {x : List UInt8} (h : mkB (bef (trimL x)) = wTime) : pStep pI (some (t, ps, tm, no)) x = match pI (mkB (aft (trimL x))).data.toList with
    | none => none
    | some n => some (t, ps, n, no) := by
  have h' : bef (trimL x) = wTime.data.toList := by rw [← h, mkB_data]
  simp only [pStep]; rw [h', if_neg (by decide), if_neg (by decide), if_pos rfl, mkB_data]
  cases pI (aft (trimL x)) <;> rfl
theorem p_note {t : ByteArray} {ps : List ByteArray} {tm : Int} {no : ByteArray} {x : List UInt8} (h : mkB (bef (trimL x)) = wNote) : pStep pI (some (t, ps, tm, no)) x = some (t, ps, tm, mkB (aft (trimL x))) := by
  have h' : bef (trimL x) = wNote.data.toList := by rw [← h, mkB_data]
  simp only [pStep]; rw [h', if_neg (by decide), if_neg (by decide), if_neg (by decide), if_pos rfl]
theorem p_other {t : ByteArray} {ps : List ByteArray} {tm : Int} {no : ByteArray} {x : List UInt8} (h1 : ¬ mkB (bef (trimL x)) = wTree) (h2 : ¬ mkB (bef (trimL x)) = wPar) (h3 : ¬ mkB (bef (trimL x)) = wTime) (h4 : ¬ mkB (bef (trimL x)) = wNote) : pStep pI (some (t, ps, tm, no)) x = some (t, ps, tm, no) := by
  have f : ∀ {w : ByteArray}, ¬ mkB (bef (trimL x)) = w → ¬ bef (trimL x) = w.data.toList := fun h e => h (by rw [e]; rfl)
  simp only [pStep]; rw [if_neg (f h1), if_neg (f h2), if_neg (f h3), if_neg (f h4)]
theorem one_new (w : World) (x : Value) (t : TypeId) : ∀ (j : Nat) (u : Value), [x][j]? = some u → (w.alloc (.cells #[x] t)).cell? ((⟨w.heap.size, 0, none⟩ : Addr).add j) = some u := fun j u h => by
  have := Rs.new w #[x] t j u h
  rw [WideShapes.add_plain, Nat.zero_add]
  exact this
theorem five {p1 p2 p3 p4 : Prop} [Decidable p1] [Decidable p2] [Decidable p3] [Decidable p4] : p1 ∨ (¬ p1 ∧ p2) ∨ (¬ p1 ∧ ¬ p2 ∧ p3) ∨ (¬ p1 ∧ ¬ p2 ∧ ¬ p3 ∧ p4) ∨ (¬ p1 ∧ ¬ p2 ∧ ¬ p3 ∧ ¬ p4) := by
  by_cases h1 : p1
  · exact .inl h1
  · by_cases h2 : p2
    · exact .inr (.inl ⟨h1, h2⟩)
    · by_cases h3 : p3
      · exact .inr (.inr (.inl ⟨h1, h2, h3⟩))
      · by_cases h4 : p4
        · exact .inr (.inr (.inr (.inl ⟨h1, h2, h3, h4⟩)))
        · exact .inr (.inr (.inr (.inr ⟨h1, h2, h3, h4⟩)))
theorem k_t {x w : ByteArray} (h : x = w) : (x.toList == w.data.toList) = true := by rw [h, ByteArray.toList_eq]; simp
theorem k_f {x w : ByteArray} (h : ¬ x = w) : (x.toList == w.data.toList) = false := by
  rw [ByteArray.toList_eq, beq_eq_false_iff_ne]
  exact fun e => h (WideShapes.bytes_inj e)
theorem blk_put {X : World} {b o : Nat} {vs : Array Value} {t : TypeId} {u : Value} (h : X.heap[b]? = some (.cells vs t (0, 0))) : (X.setCell ⟨b, o, none⟩ u).heap[b]? = some (.cells (vs.setIfInBounds o u) t (0, 0)) := by simp [World.setCell, Array.getElem?_modify, h]
theorem Below.of_eq {r : Nat} {w W : World} (hr : w.heap.size = r) (h : Below r w W) : Below w.heap.size w W := by rw [hr]; exact h
theorem St4.setErr {r B : Nat} {t no : ByteArray} {v : Value} {tm : Int} {X : World} (h : St4 r B t v tm no X) (hB : r + 2 ≤ B) : St4 r B t v tm no (X.setCell ⟨B + 1, 0, none⟩ .nilIface) :=
  ⟨blk_set h.res (by omega), blk_set h.rer (by omega), blk_set h.com (by omega), by
    have := h.err
    simp [World.setCell, Array.getElem?_modify, this]⟩
theorem ret_end {r B : Nat} {w W U : World} {TT : TypeId} {uu : Value} {pre : List Sm} (hk : KeepsOthers W U) (h0 : U.heap[r]? = some (.cells #[.string ⟨#[]⟩, .slice none 0 0, .int .i64 0, .string ⟨#[]⟩] 34 (0, 0))) (h1 : U.heap[r + 1]? = some (.cells #[.nilIface] 48 (0, 0))) (hb : Below r w U) (hp : pAll pI (ds pre) = none) :
    KeepsFrom (B + 3) W (((((U.setCell ⟨r, 0, none⟩ (.string ⟨#[]⟩)).setCell ⟨r, 1, none⟩ (.slice none 0 0)).setCell ⟨r, 2, none⟩ (.int .i64 0)).setCell ⟨r, 3, none⟩ (.string ⟨#[]⟩)).setCell ⟨r + 1, 0, none⟩ (.iface 80 (.agg #[.iface TT uu]))) ∧ (IX r .ret pre (((((U.setCell ⟨r, 0, none⟩ (.string ⟨#[]⟩)).setCell ⟨r, 1, none⟩ (.slice none 0 0)).setCell ⟨r, 2, none⟩ (.int .i64 0)).setCell ⟨r, 3, none⟩ (.string ⟨#[]⟩)).setCell ⟨r + 1, 0, none⟩ (.iface 80 (.agg #[.iface TT uu]))) ∧ Below r w (((((U.setCell ⟨r, 0, none⟩ (.string ⟨#[]⟩)).setCell ⟨r, 1, none⟩ (.slice none 0 0)).setCell ⟨r, 2, none⟩ (.int .i64 0)).setCell ⟨r, 3, none⟩ (.string ⟨#[]⟩)).setCell ⟨r + 1, 0, none⟩ (.iface 80 (.agg #[.iface TT uu])))) := by
  refine ⟨(((((hk.trans (KeepsOthers.setCell _ _ _)).trans (KeepsOthers.setCell _ _ _)).trans (KeepsOthers.setCell _ _ _)).trans (KeepsOthers.setCell _ _ _)).trans (KeepsOthers.setCell _ _ _)).from _, ⟨rfl, hp, ?_, TT, uu, ?_⟩, ?_⟩
  · exact blk_set (blk_put (blk_put (blk_put (blk_put h0)))) (by omega)
  · exact blk_put (blk_set (blk_set (blk_set (blk_set h1 (by omega)) (by omega)) (by omega)) (by omega))
  · exact ((((hb.setCell (p := ⟨r, 0, none⟩) (Nat.le_refl _) _).setCell (p := ⟨r, 1, none⟩) (Nat.le_refl _) _).setCell (p := ⟨r, 2, none⟩) (Nat.le_refl _) _).setCell (p := ⟨r, 3, none⟩) (Nat.le_refl _) _).setCell (p := ⟨r + 1, 0, none⟩) (show r ≤ r + 1 by omega) _
set_option maxRecDepth 100000 in
set_option maxHeartbeats 8000000 in
theorem readCommit_ok (s : ByteArray) (w : World) (hs : s.size ≤ 1048576) (h0 : tf s = 0) (hTa : TaG w) (hgB : 6 < w.heap.size) (ho : OfG w) (hoB : 1 < w.heap.size) (hP : PeG w) (hP1 : 4 < w.heap.size) (hP2 : 5 < w.heap.size) :
    Calls Tryz.prog 27 #[.string s] w fun e w' => RC s w e w' := by
  have hT := fun w => implTextFault s w hs
  rw [h0] at hT
  obtain ⟨i0, hi, hz0, hz1, hz2⟩ := info_parts infoString
  have hll := lines_le s
  obtain ⟨r, hr⟩ : ∃ r, w.heap.size = r := ⟨_, rfl⟩
  obtain ⟨W0, hW0⟩ : ∃ W, (w.alloc (.cells #[.string ⟨#[]⟩, .slice none 0 0, .int .i64 0, .string ⟨#[]⟩] 34)).alloc (.cells #[.nilIface] 48) = W := ⟨_, rfl⟩
  have b0 : Below r w W0 := by rw [← hW0, ← hr]; exact (allocBelow _ _).trans ((allocBelow _ _).mono (by simp))
  have HZ0 : Hid (W0.heap.size = r + 2) := by show _ = _; rw [← hW0, ← hr]; simp
  have q0 : W0.heap[r]? = some (.cells #[.string ⟨#[]⟩, .slice none 0 0, .int .i64 0, .string ⟨#[]⟩] 34 (0, 0)) := by rw [← hW0, ← hr]; exact blk_below (World.alloc_heap_new w _) (allocBelow _ _)
  have q1 : W0.heap[r + 1]? = some (.cells #[.nilIface] 48 (0, 0)) := by
    rw [← hW0, ← hr]
    have := World.alloc_heap_new (w.alloc (.cells #[.string ⟨#[]⟩, .slice none 0 0, .int .i64 0, .string ⟨#[]⟩] 34)) (.cells #[.nilIface] 48)
    rwa [World.size_alloc] at this
  refine (callsIn_wide (n := 5)).1 ?_
  refine callsIn_of_wp_marks Tryz.func27 rfl trivial ?_ rfl
  simp only [Tryz.ntmps27, List.size_toArray, List.length_cons, List.length_nil, Nat.reduceAdd, Nat.reduceSub, Array.replicate_succ, Array.replicate_zero, List.push_toArray, List.append_toArray, List.nil_append, List.cons_append]
  gi_wp2_with (refine ⟨trivial, ?_⟩; gi_at_call 39; refine (callsIn_wide.2 (hT _)).mono ?_; rintro e w1 ⟨rfl, hb1⟩)
  clear hT
  refine ⟨trivial, ?_⟩
  refine (callsIn_wide.2 (linesIn_any _ _)).mono ?_; rintro e w' ⟨rfl, rfl⟩
  gi_wp2
  have S1 : r + 2 ≤ w1.heap.size := by
    have h1 := hb1.size
    have h2 := HZ0.out
    omega
  replace b0 : Below r w w1 := b0.trans (hb1.mono (by have := HZ0.out; omega))
  replace q0 := blk_below q0 hb1
  replace q1 := blk_below q1 hb1
  clear hb1 hW0 HZ0
  obtain ⟨B, hBe⟩ : ∃ B, w1.heap.size = B := ⟨_, rfl⟩
  obtain ⟨W3, hW3⟩ : ∃ W, ((w1.alloc (.cells #[.string ⟨#[]⟩, .slice none 0 0, .int .i64 0, .string ⟨#[]⟩] 34)).alloc (.cells #[.nilIface] 48)).alloc (.cells #[.string s] 9) = W := ⟨_, rfl⟩
  have b3 : Below B w1 W3 := by rw [← hW3, ← hBe]; exact (allocBelow _ _).trans (((allocBelow _ _).mono (by simp)).trans ((allocBelow _ _).mono (by simp; omega)))
  have z3 : W3.heap.size = B + 3 := by rw [← hW3, ← hBe]; simp
  have q2 : W3.heap[B]? = some (.cells #[.string ⟨#[]⟩, .slice none 0 0, .int .i64 0, .string ⟨#[]⟩] 34 (0, 0)) := by rw [← hW3, ← hBe]; exact blk_below (blk_below (World.alloc_heap_new w1 _) (allocBelow _ _)) (allocBelow _ _)
  have q3 : W3.heap[B + 1]? = some (.cells #[.nilIface] 48 (0, 0)) := by
    rw [← hW3, ← hBe]
    have := World.alloc_heap_new (w1.alloc (.cells #[.string ⟨#[]⟩, .slice none 0 0, .int .i64 0, .string ⟨#[]⟩] 34)) (.cells #[.nilIface] 48)
    rw [World.size_alloc] at this
    exact blk_below this (allocBelow _ _)
  have q4 : W3.heap[B + 1 + 1]? = some (.cells #[.string s] 9 (0, 0)) := by
    rw [← hW3, ← hBe]
    have := World.alloc_heap_new ((w1.alloc (.cells #[.string ⟨#[]⟩, .slice none 0 0, .int .i64 0, .string ⟨#[]⟩] 34)).alloc (.cells #[.nilIface] 48)) (.cells #[.string s] 9)
    rwa [World.size_alloc, World.size_alloc] at this
  have hrB : r + 2 ≤ B := by omega
  have S3 : St4 r B ⟨#[]⟩ (.slice none 0 0) 0 ⟨#[]⟩ W3 := ⟨blk_below q0 (by rw [hBe]; exact b3), blk_below q1 (by rw [hBe]; exact b3), q2, q3⟩
  have B3 : Below r w W3 := b0.trans (b3.mono (by omega))
  rw [hW3]
  rw [hBe]
  clear hW3 q0 q1 q2 q3 b3 b0
  refine wpIn_rangeFunc_ownG rfl (by omega) (gf := 63) (lb := #[.pointer (some ⟨B + 1 + 1, 0, none⟩)]) rfl trivial (enters_of Tryz.func63 (by kernel_rfl) rfl)
    (lines_stopsS _ (by omega) (B + 1 + 1) s hs W3 (by omega) q4) keepB_t (keepB_b (by omega)) (Below.refl _ _) (fun _ => rfl)
    (fun pre W => IV r B pre W ∧ Below r w W ∧ B + 3 ≤ W.heap.size)
    (fun c pre W => IX r c pre W ∧ Below r w W)
    (OwnFrom.and (Own.from (IV_own r B) _) (OwnFrom.and (ownFrom_below (Nat.le_of_eq hr.symm) (by omega)) (fun _ _ _ _ hs hg _ => Nat.le_trans hs hg.size)))
    (fun c => OwnFrom.and (Own.from (IX_own r c) _) (ownFrom_below (Nat.le_of_eq hr.symm) (by omega)))
    ⟨⟨_, [], 0, _, _, rfl, Nat.le_refl _, S3, World.ownsRow_nil _ _ _ _⟩, B3, Nat.le_of_eq z3.symm⟩
    (fun x => { tmps := #[.string s, undef, .pointer (some ⟨r, 0, none⟩), .pointer (some ⟨r + 1, 0, none⟩), .int .i64 0, .pointer (some ⟨B, 0, none⟩), .pointer (some ⟨B + 1, 0, none⟩), .string x.1, undef, undef, .string s, .int .i64 0, .int .i64 0, .bool false, undef, undef, undef, undef, undef, undef, .string s, .func (.func 63) #[] #[.pointer (some ⟨B + 1 + 1, 0, none⟩)], .string x.1, undef, undef, undef, undef, undef, undef, undef, undef, undef, undef, undef, undef, undef, undef, undef, undef, undef, undef, undef, undef, undef, undef, undef, undef, undef, undef, undef, undef, undef, undef, undef, undef, undef, undef, undef, undef, undef, undef, undef, undef, undef, undef, undef, undef], defers := [] }) ?assign ?body ?done ?stop
  case assign =>
    intro l x W K hK
    gi_wp2
    first | exact hK | simpa using hK
  case body =>
    rintro l pre x W ⟨⟨t, ps, tm, no, v, hp, hpl, hS, hrow⟩, hB, hsz⟩ hlen
    rw [z3]
    have hul : pre.length < 1048576 := by omega
    have hF := fun w => fieldOfC x.1 w x.2
    have hPx : ∀ c, pStep pI (some (t, ps, tm, no)) x.1.data.toList = c → Hid (pAll pI (ds (pre ++ [x])) = c) := fun c h => by show _ = _; rw [ds_snoc, pAll_snoc, hp]; exact h
    have e1 := p_tree (t := t) (ps := ps) (tm := tm) (no := no) (x := x.1.data.toList)
    have e2 := p_parent (t := t) (ps := ps) (tm := tm) (no := no) (x := x.1.data.toList)
    have e3 := p_time (t := t) (ps := ps) (tm := tm) (no := no) (x := x.1.data.toList)
    have e4 := p_note (t := t) (ps := ps) (tm := tm) (no := no) (x := x.1.data.toList)
    have e5 := p_other (t := t) (ps := ps) (tm := tm) (no := no) (x := x.1.data.toList)
    have sY : (mkB (aft (trimL x.1.data.toList))).size ≤ 1048576 := by
      have t0 := trim_len x.1.data.toList
      have t1 := aft_len (trimL x.1.data.toList)
      have t4 := x.2
      rw [← size_eq] at t4
      rw [mkB_size]; omega
    obtain ⟨X1, hX1⟩ : ∃ X, mkB (bef (trimL x.1.data.toList)) = X := ⟨_, rfl⟩
    obtain ⟨Y1, hY1⟩ : ∃ X, mkB (aft (trimL x.1.data.toList)) = X := ⟨_, rfl⟩
    simp only [hX1, hY1] at hF e1 e2 e3 e4 e5 sY
    obtain ⟨V, hV⟩ : ∃ V, pStep pI (some (t, ps, tm, no)) x.1.data.toList = V := ⟨_, rfl⟩
    rw [hV] at hPx e1 e2 e3 e4 e5
    clear hX1 hY1 hV
    have hpl1 : ps.length ≤ (pre ++ [x]).length := by simp; omega
    gi_wp2_with fail
    refine ⟨trivial, ?_⟩
    refine (CallsIn.inRound l (callsIn_wide.2 (hF _))).mono ?_
    rintro e W2 ⟨rfl, hb2⟩
    have S2 := hS.below hb2
    have row2 := rowKept hrow hb2
    have hrW : r ≤ W.heap.size := by omega
    clear hF
    have c0 : W2.cell? ⟨B, 0, none⟩ = some (.string t) := by rw [Lib.cell_of_heap S2.com]; rfl
    have hC := fun w => cloneS Y1 w (by omega)
    rcases five (p1 := X1 = wTree) (p2 := X1 = wPar) (p3 := X1 = wTime) (p4 := X1 = wNote) with h | ⟨h1, h⟩ | ⟨h1, h2, h⟩ | ⟨h1, h2, h3, h⟩ | ⟨h1, h2, h3, h4⟩
    · have HV := hPx _ (e1 h)
      have k1 : (X1.toList == [116, 114, 101, 101]) = true := k_t (w := wTree) h
      clear h
      clear e1 e2 e3 e4 e5 hPx
      gi_wp2_with fail
      refine ⟨trivial, ?_⟩
      refine (CallsIn.inRound l (callsIn_wide.2 (hC _))).mono ?_
      rintro e W4 ⟨rfl, hb4⟩
      have S4 := S2.below hb4
      have row4 := rowKept row2 hb4
      have B24 : Below W.heap.size W W4 := hb2.trans (hb4.mono hb2.size)
      obtain ⟨kO, kB, sE, rE, bE, zE⟩ := set_end (o := 0) (u := .string Y1) hrB B24 S4 row4 hB hsz hrW rfl
      have g0 : W4.cell? ⟨B, 0, none⟩ = some (.string t) := by rw [Lib.cell_of_heap S4.com]; rfl
      have g1 : W4.frozen? ⟨B, 0, none⟩ = false := Lib.frozen_of_heap S4.com 0
      have g2 : W4.cell? ⟨B + 1, 0, none⟩ = some .nilIface := by rw [Lib.cell_of_heap S4.err]; rfl
      have HE : ∀ a, Hid (ownPostG (B + 3) (KeepB (B + 1 + 1)) (fun pre W => IV r B pre W ∧ Below r w W ∧ B + 3 ≤ W.heap.size) (fun c pre W => IX r c pre W ∧ Below r w W) (pre ++ [x]) W .normal a (W4.setCell ⟨B, 0, none⟩ (.string Y1))) := fun _ => ⟨kO.from _, kB, ⟨_, _, _, _, _, HV.out, hpl1, sE, rE⟩, bE, zE⟩
      clear hC kO kB sE rE bE zE S4 row4 S2 row2 hS hrow c0 hB HV B24 hb4 hb2
      gi_wp2
      exact (HE _).out
    · have HV := hPx _ (e2 h)
      have k1 : (X1.toList == [116, 114, 101, 101]) = false := k_f (w := wTree) h1
      have k2 : (X1.toList == [112, 97, 114, 101, 110, 116]) = true := k_t (w := wPar) h
      clear h1 h
      clear e1 e2 e3 e4 e5 hPx
      have hpl2 : (ps ++ [Y1]).length ≤ (pre ++ [x]).length := by simp; omega
      have c1 : W2.cell? ⟨B, 1, none⟩ = some v := by rw [Lib.cell_of_heap S2.com]; rfl
      gi_wp2
      refine region_round (S := fun _ => True) (by kernel_rfl) (by kernel_rfl) trivial (fun _ => ?_)
      refine takeD (i := 0) (d := 36) (oi := _) (v := ?_) (listed' := #[true, false, false, false, false, false, false, false]) rfl (by kernel_rfl) (by kernel_rfl) (by kernel_rfl) (fun _ _ _ h => h) (Or.inl ⟨by rfl, ?_⟩) trivial (by kernel_rfl) (by kernel_rfl) ?_
      rotate_left
      · intro w hSw
        try dsimp only at hSw
        first
          | (go_simp; done)
          | (go_simp; with_reducible rfl)
      simp only [Act.put, List.setIfInBounds_toArray, List.set_cons_zero, List.set_cons_succ]
      refine takeD (i := 2) (d := 38) (oi := _) (v := ?_) (listed' := #[true, false, true, false, false, false, false, false]) rfl (by kernel_rfl) (by kernel_rfl) (by kernel_rfl) (fun _ _ _ h => h) (Or.inl ⟨by rfl, ?_⟩) trivial (by kernel_rfl) (by kernel_rfl) ?_
      rotate_left
      · intro w hSw
        try dsimp only at hSw
        first
          | (go_simp; done)
          | (go_simp; with_reducible rfl)
      simp only [Act.put, List.setIfInBounds_toArray, List.set_cons_zero, List.set_cons_succ]
      refine wpAnyH_ready (rs := [1, 3]) (by kernel_rfl) (by simp) ?_
      refine AllReadyH.cons (o := _) rfl (fun K hK => ?_) (AllReadyH.cons (o := _) rfl (fun K hK => ?_) AllReadyH.nil)
      · go_simp
        refine hK.out _ _ trivial (fun _ => ?_)
        clear hK K
        simp only [List.setIfInBounds_toArray, List.set_cons_zero, List.set_cons_succ]
        refine wpAnyH_ready (rs := [3]) (by kernel_rfl) (by simp) ?_
        refine AllReadyH.cons (o := _) rfl (fun K hK => ?_) AllReadyH.nil
        go_simp
        refine (hC _).mono ?_
        rintro e u6 ⟨rfl, k6⟩
        have K6 : Below W2.heap.size W2 u6 := (below_drew (Below.refl _ W2)).trans k6
        have P6 : u6.cell? ⟨B, 1, none⟩ = some v := by rw [Lib.cell_of_heap (S2.below K6).com]; rfl
        refine hK.out _ _ trivial (fun _ => ?_)
        clear hK K
        simp only [List.setIfInBounds_toArray, List.set_cons_zero, List.set_cons_succ]
        refine wpAnyH_ready (rs := [4]) (by kernel_rfl) (by simp) ?_
        refine AllReadyH.cons (o := _) rfl (fun K hK => ?_) AllReadyH.nil
        go_simp
        refine hK.out _ _ trivial (fun _ => ?_)
        clear hK K
        simp only [List.setIfInBounds_toArray, List.set_cons_zero, List.set_cons_succ]
        refine wpAnyH_ready (rs := [5]) (by kernel_rfl) (by simp) ?_
        refine AllReadyH.cons (o := _) rfl (fun K hK => ?_) AllReadyH.nil
        have S6 := S2.below K6
        have row6 := rowKept row2 K6
        refine stepH_append_own rfl (.tmp 37) (.tmp 40) 32 rfl (B + 3) 9 i0 (.string ByteArray.empty) 1 16 Tryz.underlying32 hi hz0 hz1 hz2 rfl (by decide) v _ _ rfl (row6.alloc _) ⟨u6.heap.size, 0, none⟩ 1 1 [.string Y1] rfl rfl (one_new _ _ _) (by simp [Value.oneCell']) (by unfold maxLen; omega) (by omega) (by have := K6.size; have := hb2.size; simp; omega) ?_
        intro v' w3 hown' hgrow
        obtain ⟨g', cap', rfl⟩ := ownsRow_succ hown'
        obtain ⟨⟨d3, f3⟩, kO, kB, sE, rE, bE, zE⟩ := app_end hrB (hb2.trans (K6.mono hb2.size)) S6 row6 hB hsz hrW hown' hgrow
        have d4 := Lib.cell_of_heap sE.err 0
        refine hK.out _ _ trivial (fun _ => ?_)
        clear hK K
        simp only [List.setIfInBounds_toArray, List.set_cons_zero, List.set_cons_succ]
        refine takeD (i := 6) (d := 42) (oi := _) (v := ?_) (listed' := #[true, true, true, true, true, true, true, false]) rfl (by kernel_rfl) (by kernel_rfl) (by kernel_rfl) (fun _ _ _ h => h) (Or.inl ⟨by rfl, ?_⟩) trivial (by kernel_rfl) (by kernel_rfl) ?_
        rotate_left
        · intro w hSw
          try dsimp only at hSw
          first
            | (go_simp; done)
            | (go_simp; with_reducible rfl)
        simp only [Act.put, List.setIfInBounds_toArray]
        refine wpAnyH_ready (rs := [7]) (by kernel_rfl) (by simp) ?_
        refine AllReadyH.cons (o := _) rfl (fun K hK => ?_) AllReadyH.nil
        go_simp
        refine hK.out _ _ trivial (fun _ => ?_)
        clear hK K
        simp only [List.setIfInBounds_toArray, List.set_cons_zero, List.set_cons_succ]
        refine wpAnyH_done (by kernel_rfl) ?_ _
        refine ⟨by simp, ?_⟩
        have g2 : (w3.setCell ⟨B, 1, none⟩ (.slice (some ⟨g', 0, none⟩) (ps.length + 1) cap')).cell? ⟨B + 1, 0, none⟩ = some .nilIface := by rw [Lib.cell_of_heap sE.err]; rfl
        have HE : ∀ a, Hid (ownPostG (B + 3) (KeepB (B + 1 + 1)) (fun pre W => IV r B pre W ∧ Below r w W ∧ B + 3 ≤ W.heap.size) (fun c pre W => IX r c pre W ∧ Below r w W) (pre ++ [x]) W .normal a (w3.setCell ⟨B, 1, none⟩ (.slice (some ⟨g', 0, none⟩) (ps.length + 1) cap'))) := fun _ => ⟨kO.from _, kB, ⟨_, _, _, _, _, HV.out, hpl2, sE, rE⟩, bE, zE⟩
        obtain ⟨W9, hW9⟩ : ∃ W9, w3.setCell ⟨B, 1, none⟩ (.slice (some ⟨g', 0, none⟩) (ps.length + 1) cap') = W9 := ⟨_, rfl⟩
        rw [hW9] at g2 HE ⊢
        clear hW9 kO kB sE rE bE zE d3 f3 d4 hown' hgrow
        gi_wp2
        exact (HE _).out
      · go_simp
        refine (hC _).mono ?_
        rintro e u6 ⟨rfl, k6⟩
        have K6 : Below W2.heap.size W2 u6 := (below_drew (Below.refl _ W2)).trans k6
        have P6 : u6.cell? ⟨B, 1, none⟩ = some v := by rw [Lib.cell_of_heap (S2.below K6).com]; rfl
        refine hK.out _ _ trivial (fun _ => ?_)
        clear hK K
        simp only [List.setIfInBounds_toArray, List.set_cons_zero, List.set_cons_succ]
        refine wpAnyH_ready (rs := [1, 4]) (by kernel_rfl) (by simp) ?_
        refine AllReadyH.cons (o := _) rfl (fun K hK => ?_) (AllReadyH.cons (o := _) rfl (fun K hK => ?_) AllReadyH.nil)
        · go_simp
          refine hK.out _ _ trivial (fun _ => ?_)
          clear hK K
          simp only [List.setIfInBounds_toArray, List.set_cons_zero, List.set_cons_succ]
          refine wpAnyH_ready (rs := [4]) (by kernel_rfl) (by simp) ?_
          refine AllReadyH.cons (o := _) rfl (fun K hK => ?_) AllReadyH.nil
          go_simp
          refine hK.out _ _ trivial (fun _ => ?_)
          clear hK K
          simp only [List.setIfInBounds_toArray, List.set_cons_zero, List.set_cons_succ]
          refine wpAnyH_ready (rs := [5]) (by kernel_rfl) (by simp) ?_
          refine AllReadyH.cons (o := _) rfl (fun K hK => ?_) AllReadyH.nil
          have S6 := S2.below K6
          have row6 := rowKept row2 K6
          refine stepH_append_own rfl (.tmp 37) (.tmp 40) 32 rfl (B + 3) 9 i0 (.string ByteArray.empty) 1 16 Tryz.underlying32 hi hz0 hz1 hz2 rfl (by decide) v _ _ rfl (row6.alloc _) ⟨u6.heap.size, 0, none⟩ 1 1 [.string Y1] rfl rfl (one_new _ _ _) (by simp [Value.oneCell']) (by unfold maxLen; omega) (by omega) (by have := K6.size; have := hb2.size; simp; omega) ?_
          intro v' w3 hown' hgrow
          obtain ⟨g', cap', rfl⟩ := ownsRow_succ hown'
          obtain ⟨⟨d3, f3⟩, kO, kB, sE, rE, bE, zE⟩ := app_end hrB (hb2.trans (K6.mono hb2.size)) S6 row6 hB hsz hrW hown' hgrow
          have d4 := Lib.cell_of_heap sE.err 0
          refine hK.out _ _ trivial (fun _ => ?_)
          clear hK K
          simp only [List.setIfInBounds_toArray, List.set_cons_zero, List.set_cons_succ]
          refine takeD (i := 6) (d := 42) (oi := _) (v := ?_) (listed' := #[true, true, true, true, true, true, true, false]) rfl (by kernel_rfl) (by kernel_rfl) (by kernel_rfl) (fun _ _ _ h => h) (Or.inl ⟨by rfl, ?_⟩) trivial (by kernel_rfl) (by kernel_rfl) ?_
          rotate_left
          · intro w hSw
            try dsimp only at hSw
            first
              | (go_simp; done)
              | (go_simp; with_reducible rfl)
          simp only [Act.put, List.setIfInBounds_toArray]
          refine wpAnyH_ready (rs := [7]) (by kernel_rfl) (by simp) ?_
          refine AllReadyH.cons (o := _) rfl (fun K hK => ?_) AllReadyH.nil
          go_simp
          refine hK.out _ _ trivial (fun _ => ?_)
          clear hK K
          simp only [List.setIfInBounds_toArray, List.set_cons_zero, List.set_cons_succ]
          refine wpAnyH_done (by kernel_rfl) ?_ _
          refine ⟨by simp, ?_⟩
          have g2 : (w3.setCell ⟨B, 1, none⟩ (.slice (some ⟨g', 0, none⟩) (ps.length + 1) cap')).cell? ⟨B + 1, 0, none⟩ = some .nilIface := by rw [Lib.cell_of_heap sE.err]; rfl
          have HE : ∀ a, Hid (ownPostG (B + 3) (KeepB (B + 1 + 1)) (fun pre W => IV r B pre W ∧ Below r w W ∧ B + 3 ≤ W.heap.size) (fun c pre W => IX r c pre W ∧ Below r w W) (pre ++ [x]) W .normal a (w3.setCell ⟨B, 1, none⟩ (.slice (some ⟨g', 0, none⟩) (ps.length + 1) cap'))) := fun _ => ⟨kO.from _, kB, ⟨_, _, _, _, _, HV.out, hpl2, sE, rE⟩, bE, zE⟩
          obtain ⟨W9, hW9⟩ : ∃ W9, w3.setCell ⟨B, 1, none⟩ (.slice (some ⟨g', 0, none⟩) (ps.length + 1) cap') = W9 := ⟨_, rfl⟩
          rw [hW9] at g2 HE ⊢
          clear hW9 kO kB sE rE bE zE d3 f3 d4 hown' hgrow
          gi_wp2
          exact (HE _).out
        · go_simp
          have P7 := keep3 (allocBelow u6 (.cells #[.string Y1] 9)) (by have := K6.size; have := hb2.size; omega) P6
          refine hK.out _ _ trivial (fun _ => ?_)
          clear hK K
          simp only [List.setIfInBounds_toArray, List.set_cons_zero, List.set_cons_succ]
          refine wpAnyH_ready (rs := [1]) (by kernel_rfl) (by simp) ?_
          refine AllReadyH.cons (o := _) rfl (fun K hK => ?_) AllReadyH.nil
          go_simp
          refine hK.out _ _ trivial (fun _ => ?_)
          clear hK K
          simp only [List.setIfInBounds_toArray, List.set_cons_zero, List.set_cons_succ]
          refine wpAnyH_ready (rs := [5]) (by kernel_rfl) (by simp) ?_
          refine AllReadyH.cons (o := _) rfl (fun K hK => ?_) AllReadyH.nil
          have S6 := S2.below K6
          have row6 := rowKept row2 K6
          refine stepH_append_own rfl (.tmp 37) (.tmp 40) 32 rfl (B + 3) 9 i0 (.string ByteArray.empty) 1 16 Tryz.underlying32 hi hz0 hz1 hz2 rfl (by decide) v _ _ rfl (row6.alloc _) ⟨u6.heap.size, 0, none⟩ 1 1 [.string Y1] rfl rfl (one_new _ _ _) (by simp [Value.oneCell']) (by unfold maxLen; omega) (by omega) (by have := K6.size; have := hb2.size; simp; omega) ?_
          intro v' w3 hown' hgrow
          obtain ⟨g', cap', rfl⟩ := ownsRow_succ hown'
          obtain ⟨⟨d3, f3⟩, kO, kB, sE, rE, bE, zE⟩ := app_end hrB (hb2.trans (K6.mono hb2.size)) S6 row6 hB hsz hrW hown' hgrow
          have d4 := Lib.cell_of_heap sE.err 0
          refine hK.out _ _ trivial (fun _ => ?_)
          clear hK K
          simp only [List.setIfInBounds_toArray, List.set_cons_zero, List.set_cons_succ]
          refine takeD (i := 6) (d := 42) (oi := _) (v := ?_) (listed' := #[true, true, true, true, true, true, true, false]) rfl (by kernel_rfl) (by kernel_rfl) (by kernel_rfl) (fun _ _ _ h => h) (Or.inl ⟨by rfl, ?_⟩) trivial (by kernel_rfl) (by kernel_rfl) ?_
          rotate_left
          · intro w hSw
            try dsimp only at hSw
            first
              | (go_simp; done)
              | (go_simp; with_reducible rfl)
          simp only [Act.put, List.setIfInBounds_toArray]
          refine wpAnyH_ready (rs := [7]) (by kernel_rfl) (by simp) ?_
          refine AllReadyH.cons (o := _) rfl (fun K hK => ?_) AllReadyH.nil
          go_simp
          refine hK.out _ _ trivial (fun _ => ?_)
          clear hK K
          simp only [List.setIfInBounds_toArray, List.set_cons_zero, List.set_cons_succ]
          refine wpAnyH_done (by kernel_rfl) ?_ _
          refine ⟨by simp, ?_⟩
          have g2 : (w3.setCell ⟨B, 1, none⟩ (.slice (some ⟨g', 0, none⟩) (ps.length + 1) cap')).cell? ⟨B + 1, 0, none⟩ = some .nilIface := by rw [Lib.cell_of_heap sE.err]; rfl
          have HE : ∀ a, Hid (ownPostG (B + 3) (KeepB (B + 1 + 1)) (fun pre W => IV r B pre W ∧ Below r w W ∧ B + 3 ≤ W.heap.size) (fun c pre W => IX r c pre W ∧ Below r w W) (pre ++ [x]) W .normal a (w3.setCell ⟨B, 1, none⟩ (.slice (some ⟨g', 0, none⟩) (ps.length + 1) cap'))) := fun _ => ⟨kO.from _, kB, ⟨_, _, _, _, _, HV.out, hpl2, sE, rE⟩, bE, zE⟩
          obtain ⟨W9, hW9⟩ : ∃ W9, w3.setCell ⟨B, 1, none⟩ (.slice (some ⟨g', 0, none⟩) (ps.length + 1) cap') = W9 := ⟨_, rfl⟩
          rw [hW9] at g2 HE ⊢
          clear hW9 kO kB sE rE bE zE d3 f3 d4 hown' hgrow
          gi_wp2
          exact (HE _).out
    · have HV := hPx _ (e3 h)
      have k1 : (X1.toList == [116, 114, 101, 101]) = false := k_f (w := wTree) h1
      have k2 : (X1.toList == [112, 97, 114, 101, 110, 116]) = false := k_f (w := wPar) h2
      have k3 : (X1.toList == [116, 105, 109, 101]) = true := k_t (w := wTime) h
      clear h1 h2 h
      clear e1 e2 e3 e4 e5 hPx hC
      have hPI := parseIntC Y1 W2 sY (((hP.below (Below.of_eq hr hB) hP1 hP2)).below hb2 (by omega) (by omega))
      gi_wp2_with fail
      refine ⟨trivial, ?_⟩
      refine (CallsIn.inRound l (callsIn_wide.2 hPI)).mono ?_
      rintro e W4 ⟨hPN, hb4⟩
      have S4 := S2.below hb4
      have row4 := rowKept row2 hb4
      have B24 : Below W.heap.size W W4 := hb2.trans (hb4.mono hb2.size)
      have g0 : W4.cell? ⟨B, 2, none⟩ = some (.int .i64 tm) := by rw [Lib.cell_of_heap S4.com]; rfl
      have g1 : W4.frozen? ⟨B, 2, none⟩ = false := Lib.frozen_of_heap S4.com 2
      have g2 : W4.cell? ⟨B + 1, 0, none⟩ = some .nilIface := by rw [Lib.cell_of_heap S4.err]; rfl
      have g3 : W4.frozen? ⟨B + 1, 0, none⟩ = false := Lib.frozen_of_heap S4.err 0
      clear hPI
      rcases hPN with ⟨n, hn, rfl⟩ | ⟨hn, n, TT, uu, rfl⟩
      · obtain ⟨kO, kB, sE, rE, bE, zE⟩ := set_end (o := 2) (u := .int .i64 n) hrB B24 S4 row4 hB hsz hrW rfl
        rw [hn] at HV
        have HE : ∀ a, Hid (ownPostG (B + 3) (KeepB (B + 1 + 1)) (fun pre W => IV r B pre W ∧ Below r w W ∧ B + 3 ≤ W.heap.size) (fun c pre W => IX r c pre W ∧ Below r w W) (pre ++ [x]) W .normal a ((W4.setCell ⟨B, 2, none⟩ (.int .i64 n)).setCell ⟨B + 1, 0, none⟩ .nilIface)) := fun _ => ⟨(kO.trans (KeepsOthers.setCell _ _ _)).from _, (Below.heap_setCell _ _ _ _ (by simp)).trans kB, ⟨_, _, _, _, _, HV.out, hpl1, sE.setErr hrB, ownsRow_setCell_below rE (a := ⟨B + 1, 0, none⟩) (show B + 1 < B + 3 by omega) _⟩, bE.setCell (p := ⟨B + 1, 0, none⟩) (show r ≤ B + 1 by omega) _, by simpa using zE⟩
        clear kO kB sE rE bE zE S4 row4 S2 row2 hS hrow c0 hB HV B24 hb4 hb2 hn
        gi_wp2
        exact (HE _).out
      · rw [hn] at HV
        obtain ⟨U, hU⟩ : ∃ U, (W4.setCell ⟨B, 2, none⟩ (.int .i64 n)).setCell ⟨B + 1, 0, none⟩ (.iface TT uu) = U := ⟨_, rfl⟩
        have u0 : U.heap[r]? = some (.cells #[.string ⟨#[]⟩, .slice none 0 0, .int .i64 0, .string ⟨#[]⟩] 34 (0, 0)) := by rw [← hU]; exact blk_set (blk_set S4.res (by omega)) (by omega)
        have u1 : U.heap[r + 1]? = some (.cells #[.nilIface] 48 (0, 0)) := by rw [← hU]; exact blk_set (blk_set S4.rer (by omega)) (by omega)
        have u2 : U.heap[B + 1]? = some (.cells #[.iface TT uu] 48 (0, 0)) := by rw [← hU]; exact blk_put (blk_set S4.err (by omega))
        have u3 : U.cell? ⟨B + 1, 0, none⟩ = some (.iface TT uu) := by rw [Lib.cell_of_heap u2]; rfl
        have uK : KeepsOthers W U := by rw [← hU]; exact ((keeps_below B24).trans (KeepsOthers.setCell _ _ _)).trans (KeepsOthers.setCell _ _ _)
        have uB : Below r w U := by rw [← hU]; exact ((hB.trans (B24.mono hrW)).setCell (p := ⟨B, 2, none⟩) (show r ≤ B by omega) _).setCell (p := ⟨B + 1, 0, none⟩) (show r ≤ B + 1 by omega) _
        have p0 : U.cell? ⟨r, 0, none⟩ = some (.string ⟨#[]⟩) := by rw [Lib.cell_of_heap u0]; rfl
        have p1 : U.cell? ⟨r, 1, none⟩ = some (.slice none 0 0) := by rw [Lib.cell_of_heap u0]; rfl
        have p2 : U.cell? ⟨r, 2, none⟩ = some (.int .i64 0) := by rw [Lib.cell_of_heap u0]; rfl
        have p3 : U.cell? ⟨r, 3, none⟩ = some (.string ⟨#[]⟩) := by rw [Lib.cell_of_heap u0]; rfl
        have p4 : U.cell? ⟨r + 1, 0, none⟩ = some .nilIface := by rw [Lib.cell_of_heap u1]; rfl
        have o0 : U.frozen? ⟨r, 0, none⟩ = false := Lib.frozen_of_heap u0 0
        have o1 : U.frozen? ⟨r, 1, none⟩ = false := Lib.frozen_of_heap u0 1
        have o2 : U.frozen? ⟨r, 2, none⟩ = false := Lib.frozen_of_heap u0 2
        have o3 : U.frozen? ⟨r, 3, none⟩ = false := Lib.frozen_of_heap u0 3
        have o4 : U.frozen? ⟨r + 1, 0, none⟩ = false := Lib.frozen_of_heap u1 0
        have HE : ∀ a, Hid (ownPostG (B + 3) (KeepB (B + 1 + 1)) (fun pre W => IV r B pre W ∧ Below r w W ∧ B + 3 ≤ W.heap.size) (fun c pre W => IX r c pre W ∧ Below r w W) (pre ++ [x]) W .ret a (((((U.drew.setCell ⟨r, 0, none⟩ (.string ⟨#[]⟩)).setCell ⟨r, 1, none⟩ (.slice none 0 0)).setCell ⟨r, 2, none⟩ (.int .i64 0)).setCell ⟨r, 3, none⟩ (.string ⟨#[]⟩)).setCell ⟨r + 1, 0, none⟩ (.iface 80 (.agg #[.iface TT uu])))) := fun _ => ret_end (U := U.drew) ⟨uK.size, uK.same⟩ u0 u1 uB.drew HV.out
        have s4 : (((((U.drew.setCell ⟨r, 0, none⟩ (.string ⟨#[]⟩)).setCell ⟨r, 1, none⟩ (.slice none 0 0)).setCell ⟨r, 2, none⟩ (.int .i64 0)).setCell ⟨r, 3, none⟩ (.string ⟨#[]⟩))).heap[B + 1]? = some (.cells #[.iface TT uu] 48 (0, 0)) := blk_set (blk_set (blk_set (blk_set u2 (by omega)) (by omega)) (by omega)) (by omega)
        have t4 : (((((U.drew.setCell ⟨r, 0, none⟩ (.string ⟨#[]⟩)).setCell ⟨r, 1, none⟩ (.slice none 0 0)).setCell ⟨r, 2, none⟩ (.int .i64 0)).setCell ⟨r, 3, none⟩ (.string ⟨#[]⟩))).cell? ⟨B + 1, 0, none⟩ = some (.iface TT uu) := by rw [Lib.cell_of_heap s4]; rfl
        have t5 : ((((((U.drew.setCell ⟨r, 0, none⟩ (.string ⟨#[]⟩)).setCell ⟨r, 1, none⟩ (.slice none 0 0)).setCell ⟨r, 2, none⟩ (.int .i64 0)).setCell ⟨r, 3, none⟩ (.string ⟨#[]⟩))).setCell ⟨r + 1, 0, none⟩ (.iface 80 (.agg #[.iface TT uu]))).cell? ⟨B + 1, 0, none⟩ = some (.iface TT uu) := by rw [Lib.cell_of_heap (blk_set s4 (by omega))]; rfl
        have T4 : Hid _ := t4
        have T5 : Hid _ := t5
        clear S4 row4 S2 row2 hS hrow c0 hB HV B24 hb4 hb2 hn u0 u1 u2 uK uB s4 t4 t5
        gi_wp2
        refine region_round (S := fun u => u.cell? ⟨B + 1, 0, none⟩ = some (.iface TT uu)) (by kernel_rfl) (by kernel_rfl) u3 (fun hHeld => ?_)
        refine takeD (i := 0) (d := 58) (oi := _) (v := ?_) (listed' := #[true, false, false, false, false, false]) rfl (by kernel_rfl) (by kernel_rfl) (by kernel_rfl) (fun _ _ _ h => h) (Or.inl ⟨by rfl, ?_⟩) hHeld (by kernel_rfl) (by kernel_rfl) ?_
        rotate_left
        · intro w hSw
          try dsimp only at hSw
          first
            | (go_simp; done)
            | (go_simp; with_reducible rfl)
        simp only [Act.put, List.setIfInBounds_toArray, List.set_cons_zero, List.set_cons_succ]
        refine takeD (i := 1) (d := 59) (oi := _) (v := ?_) (listed' := #[true, true, false, false, false, false]) rfl (by kernel_rfl) (by kernel_rfl) (by kernel_rfl) (fun _ _ _ h => h) (Or.inl ⟨by rfl, ?_⟩) hHeld (by kernel_rfl) (by kernel_rfl) ?_
        rotate_left
        · intro w hSw
          try dsimp only at hSw
          first
            | (go_simp; done)
            | (go_simp; with_reducible rfl)
        simp only [Act.put, List.setIfInBounds_toArray, List.set_cons_zero, List.set_cons_succ]
        refine takeD (i := 2) (d := 60) (oi := _) (v := ?_) (listed' := #[true, true, true, false, false, false]) rfl (by kernel_rfl) (by kernel_rfl) (by kernel_rfl) (fun _ _ _ h => h) (Or.inl ⟨by rfl, ?_⟩) hHeld (by kernel_rfl) (by kernel_rfl) ?_
        rotate_left
        · intro w hSw
          try dsimp only at hSw
          first
            | (go_simp; done)
            | (go_simp; with_reducible rfl)
        simp only [Act.put, List.setIfInBounds_toArray, List.set_cons_zero, List.set_cons_succ]
        refine takeD (i := 3) (d := 61) (oi := _) (v := ?_) (listed' := #[true, true, true, true, false, false]) rfl (by kernel_rfl) (by kernel_rfl) (by kernel_rfl) (fun _ _ _ h => h) (Or.inl ⟨by rfl, ?_⟩) hHeld (by kernel_rfl) (by kernel_rfl) ?_
        rotate_left
        · intro w hSw
          try dsimp only at hSw
          first
            | (go_simp; done)
            | (go_simp; with_reducible rfl)
        simp only [Act.put, List.setIfInBounds_toArray, List.set_cons_zero, List.set_cons_succ]
        refine wpAnyH_ready (rs := [4]) (by kernel_rfl) (by simp) ?_
        refine AllReadyH.cons (o := _) rfl (fun K hK => ?_) AllReadyH.nil
        go_simp
        refine hK.out _ _ T4.out (fun _ => ?_)
        clear hK K
        simp only [List.setIfInBounds_toArray, List.set_cons_zero, List.set_cons_succ]
        refine wpAnyH_ready (rs := [5]) (by kernel_rfl) (by simp) ?_
        refine AllReadyH.cons (o := _) rfl (fun K hK => ?_) AllReadyH.nil
        go_simp
        refine hK.out _ _ T5.out (fun _ => ?_)
        clear hK K
        simp only [List.setIfInBounds_toArray, List.set_cons_zero, List.set_cons_succ]
        refine wpAnyH_done (by kernel_rfl) ?_ _
        refine ⟨by simp, ?_⟩
        gi_wp2
        exact (HE _).out
    · have HV := hPx _ (e4 h)
      have k1 : (X1.toList == [116, 114, 101, 101]) = false := k_f (w := wTree) h1
      have k2 : (X1.toList == [112, 97, 114, 101, 110, 116]) = false := k_f (w := wPar) h2
      have k3 : (X1.toList == [116, 105, 109, 101]) = false := k_f (w := wTime) h3
      have k4 : (X1.toList == [110, 111, 116, 101]) = true := k_t (w := wNote) h
      clear h1 h2 h3 h
      clear e1 e2 e3 e4 e5 hPx
      gi_wp2_with fail
      refine ⟨trivial, ?_⟩
      refine (CallsIn.inRound l (callsIn_wide.2 (hC _))).mono ?_
      rintro e W4 ⟨rfl, hb4⟩
      have S4 := S2.below hb4
      have row4 := rowKept row2 hb4
      have B24 : Below W.heap.size W W4 := hb2.trans (hb4.mono hb2.size)
      obtain ⟨kO, kB, sE, rE, bE, zE⟩ := set_end (o := 3) (u := .string Y1) hrB B24 S4 row4 hB hsz hrW rfl
      have g0 : W4.cell? ⟨B, 3, none⟩ = some (.string no) := by rw [Lib.cell_of_heap S4.com]; rfl
      have g1 : W4.frozen? ⟨B, 3, none⟩ = false := Lib.frozen_of_heap S4.com 3
      have g2 : W4.cell? ⟨B + 1, 0, none⟩ = some .nilIface := by rw [Lib.cell_of_heap S4.err]; rfl
      have HE : ∀ a, Hid (ownPostG (B + 3) (KeepB (B + 1 + 1)) (fun pre W => IV r B pre W ∧ Below r w W ∧ B + 3 ≤ W.heap.size) (fun c pre W => IX r c pre W ∧ Below r w W) (pre ++ [x]) W .normal a (W4.setCell ⟨B, 3, none⟩ (.string Y1))) := fun _ => ⟨kO.from _, kB, ⟨_, _, _, _, _, HV.out, hpl1, sE, rE⟩, bE, zE⟩
      clear hC kO kB sE rE bE zE S4 row4 S2 row2 hS hrow c0 hB HV B24 hb4 hb2
      gi_wp2
      exact (HE _).out
    · have HV := hPx _ (e5 h1 h2 h3 h4)
      have k1 : (X1.toList == [116, 114, 101, 101]) = false := k_f (w := wTree) h1
      have k2 : (X1.toList == [112, 97, 114, 101, 110, 116]) = false := k_f (w := wPar) h2
      have k3 : (X1.toList == [116, 105, 109, 101]) = false := k_f (w := wTime) h3
      have k4 : (X1.toList == [110, 111, 116, 101]) = false := k_f (w := wNote) h4
      clear h1 h2 h3 h4
      clear e1 e2 e3 e4 e5 hPx hC
      have g2 : W2.cell? ⟨B + 1, 0, none⟩ = some .nilIface := by rw [Lib.cell_of_heap S2.err]; rfl
      have HE : ∀ a, Hid (ownPostG (B + 3) (KeepB (B + 1 + 1)) (fun pre W => IV r B pre W ∧ Below r w W ∧ B + 3 ≤ W.heap.size) (fun c pre W => IX r c pre W ∧ Below r w W) (pre ++ [x]) W .normal a W2) := fun _ => ⟨(keeps_below hb2).from _, hb2.block _ (by omega), ⟨_, _, _, _, _, HV.out, hpl1, S2, row2⟩, hB.trans (hb2.mono hrW), Nat.le_trans hsz hb2.size⟩
      clear S2 row2 hS hrow c0 hB HV hb2
      gi_wp2
      exact (HE _).out
  case done =>
    rintro D ys W hD hys ⟨⟨t, ps, tm, no, v, hp, hpl, hS, hrow⟩, hB, hsz⟩ hK
    have hE : dcI pI s = if cmF t ps tm no = 0 ∧ cmL t ps tm no = s.data.toList then some (t, ps, tm, no) else none := dcI_end hys hp
    have hyl : ys.length = (linesOf s).length := by have := congrArg List.length hys; simpa [unS] using this
    have hpn : ps.length ≤ 1048576 := by omega
    have hps := pSizes ys hp
    obtain ⟨la, lc, rfl, sP, -⟩ := SS_of_row hrow rfl (fun k hk => Nat.le_trans (hps k hk) (by decide))
    have hcap := rowCap hrow
    have hgl : 6 < W.heap.size := by have := hB.size; omega
    have hol : 1 < W.heap.size := by have := hB.size; omega
    have hWt := wantTextC t la lc ps tm no s W.drew (sP.below (below_drew (Below.refl _ _))) hcap hpn (hTa.below (Below.of_eq hr hB).drew hgB) hgl (ho.below (Below.of_eq hr hB).drew hoB) hol
    have c0 : W.cell? ⟨B, 0, none⟩ = some (.string t) := by rw [Lib.cell_of_heap hS.com]; rfl
    have c1 : W.cell? ⟨B, 1, none⟩ = some (.slice la ps.length lc) := by rw [Lib.cell_of_heap hS.com]; rfl
    have c2 : W.cell? ⟨B, 2, none⟩ = some (.int .i64 tm) := by rw [Lib.cell_of_heap hS.com]; rfl
    have c3 : W.cell? ⟨B, 3, none⟩ = some (.string no) := by rw [Lib.cell_of_heap hS.com]; rfl
    rw [z3] at hD
    gi_wp2
    refine region_wide (S := fun u => u.cell? ⟨B, 0, none⟩ = some (.string t) ∧ u.cell? ⟨B, 1, none⟩ = some (.slice la ps.length lc) ∧ u.cell? ⟨B, 2, none⟩ = some (.int .i64 tm) ∧ u.cell? ⟨B, 3, none⟩ = some (.string no)) (by kernel_rfl) ⟨c0, c1, c2, c3⟩ (fun hHeld => ?_)
    refine takeD (i := 0) (d := 62) (oi := _) (v := ?_) (listed' := #[true, false, false, false, false, false, false]) rfl (by kernel_rfl) (by kernel_rfl) (by kernel_rfl) (fun _ _ _ h => by cases h.1) (Or.inl ⟨by rfl, ?_⟩) hHeld (by kernel_rfl) (by kernel_rfl) ?_
    rotate_left
    · intro w hSw
      try dsimp only at hSw
      first
        | (go_simp; done)
        | (go_simp; with_reducible rfl)
    simp only [Act.put, List.setIfInBounds_toArray, List.set_cons_zero, List.set_cons_succ]
    refine takeD (i := 1) (d := 63) (oi := _) (v := ?_) (listed' := #[true, true, false, false, false, false, false]) rfl (by kernel_rfl) (by kernel_rfl) (by kernel_rfl) (fun _ _ _ h => by cases h.1) (Or.inl ⟨by rfl, ?_⟩) hHeld (by kernel_rfl) (by kernel_rfl) ?_
    rotate_left
    · intro w hSw
      try dsimp only at hSw
      first
        | (go_simp; done)
        | (go_simp; with_reducible rfl)
    simp only [Act.put, List.setIfInBounds_toArray, List.set_cons_zero, List.set_cons_succ]
    refine takeD (i := 2) (d := 64) (oi := _) (v := ?_) (listed' := #[true, true, true, false, false, false, false]) rfl (by kernel_rfl) (by kernel_rfl) (by kernel_rfl) (fun _ _ _ h => by cases h.1) (Or.inl ⟨by rfl, ?_⟩) hHeld (by kernel_rfl) (by kernel_rfl) ?_
    rotate_left
    · intro w hSw
      try dsimp only at hSw
      first
        | (go_simp; done)
        | (go_simp; with_reducible rfl)
    simp only [Act.put, List.setIfInBounds_toArray, List.set_cons_zero, List.set_cons_succ]
    refine takeD (i := 3) (d := 65) (oi := _) (v := ?_) (listed' := #[true, true, true, true, false, false, false]) rfl (by kernel_rfl) (by kernel_rfl) (by kernel_rfl) (fun _ _ _ h => by cases h.1) (Or.inl ⟨by rfl, ?_⟩) hHeld (by kernel_rfl) (by kernel_rfl) ?_
    rotate_left
    · intro w hSw
      try dsimp only at hSw
      first
        | (go_simp; done)
        | (go_simp; with_reducible rfl)
    simp only [Act.put, List.setIfInBounds_toArray, List.set_cons_zero, List.set_cons_succ]
    refine wpAnyH_ready (rs := [4]) (by kernel_rfl) (by simp) ?_
    refine AllReadyH.cons (o := _) rfl (fun K hK' => ?_) AllReadyH.nil
    go_simp
    refine hWt.mono ?_
    rintro e u4 ⟨hw2, k4⟩
    have K4 : Below W.heap.size W u4 := (below_drew (Below.refl _ W)).trans k4
    have s4 := hS.below K4
    have hK4 : u4.heap[D]? = some (.deferred (some [])) := blk_below hK K4
    have row4 := rowKept hrow K4
    have b4 : Below r w u4 := hB.trans (K4.mono (by omega))
    have t4 : u4.cell? ⟨B, 0, none⟩ = some (.string t) ∧ u4.cell? ⟨B, 1, none⟩ = some (.slice la ps.length lc) ∧ u4.cell? ⟨B, 2, none⟩ = some (.int .i64 tm) ∧ u4.cell? ⟨B, 3, none⟩ = some (.string no) := by
      rw [Lib.cell_of_heap s4.com, Lib.cell_of_heap s4.com, Lib.cell_of_heap s4.com, Lib.cell_of_heap s4.com]
      exact ⟨rfl, rfl, rfl, rfl⟩
    have p0 : u4.cell? ⟨r, 0, none⟩ = some (.string ⟨#[]⟩) := by rw [Lib.cell_of_heap s4.res]; rfl
    have p1 : u4.cell? ⟨r, 1, none⟩ = some (.slice none 0 0) := by rw [Lib.cell_of_heap s4.res]; rfl
    have p2 : u4.cell? ⟨r, 2, none⟩ = some (.int .i64 0) := by rw [Lib.cell_of_heap s4.res]; rfl
    have p3 : u4.cell? ⟨r, 3, none⟩ = some (.string ⟨#[]⟩) := by rw [Lib.cell_of_heap s4.res]; rfl
    have o0 : u4.frozen? ⟨r, 0, none⟩ = false := Lib.frozen_of_heap s4.res 0
    have o1 : u4.frozen? ⟨r, 1, none⟩ = false := Lib.frozen_of_heap s4.res 1
    have o2 : u4.frozen? ⟨r, 2, none⟩ = false := Lib.frozen_of_heap s4.res 2
    have o3 : u4.frozen? ⟨r, 3, none⟩ = false := Lib.frozen_of_heap s4.res 3
    have hdr : ¬ D = r := by omega
    have hdr1 : ¬ D = r + 1 := by omega
    rcases hw2 with ⟨hy, rfl⟩ | ⟨hy, TT, uu, rfl⟩
    · have e4 : Hid _ := t4
      obtain ⟨U, hU⟩ : ∃ U, (((u4.setCell ⟨r, 0, none⟩ (.string t)).setCell ⟨r, 1, none⟩ (.slice la ps.length lc)).setCell ⟨r, 2, none⟩ (.int .i64 tm)).setCell ⟨r, 3, none⟩ (.string no) = U := ⟨_, rfl⟩
      have v0 : U.heap[r]? = some (.cells #[.string t, .slice la ps.length lc, .int .i64 tm, .string no] 34 (0, 0)) := by rw [← hU]; exact blk_put (blk_put (blk_put (blk_put s4.res)))
      have v1 : U.heap[r + 1]? = some (.cells #[.nilIface] 48 (0, 0)) := by rw [← hU]; exact blk_set (blk_set (blk_set (blk_set s4.rer (by omega)) (by omega)) (by omega)) (by omega)
      have v2 : U.heap[B]? = some (.cells #[.string t, .slice la ps.length lc, .int .i64 tm, .string no] 34 (0, 0)) := by rw [← hU]; exact blk_set (blk_set (blk_set (blk_set s4.com (by omega)) (by omega)) (by omega)) (by omega)
      have v3 : Below r w U := by rw [← hU]; exact (((b4.setCell (p := ⟨r, 0, none⟩) (Nat.le_refl _) _).setCell (p := ⟨r, 1, none⟩) (Nat.le_refl _) _).setCell (p := ⟨r, 2, none⟩) (Nat.le_refl _) _).setCell (p := ⟨r, 3, none⟩) (Nat.le_refl _) _
      have v4 : U.heap[D]? = some (.deferred (some [])) := by rw [← hU]; exact blk_set (blk_set (blk_set (blk_set hK4 (by omega)) (by omega)) (by omega)) (by omega)
      have v5 : U.ownsRow (B + 3) 9 1 (.slice la ps.length lc) ps.length (ps.map Value.string) := by rw [← hU]; exact ownsRow_setCell_below (ownsRow_setCell_below (ownsRow_setCell_below (ownsRow_setCell_below row4 (a := ⟨r, 0, none⟩) (show r < B + 3 by omega) _) (a := ⟨r, 1, none⟩) (show r < B + 3 by omega) _) (a := ⟨r, 2, none⟩) (show r < B + 3 by omega) _) (a := ⟨r, 3, none⟩) (show r < B + 3 by omega) _
      have x0 : U.cell? ⟨B, 0, none⟩ = some (.string t) := by rw [Lib.cell_of_heap v2]; rfl
      have x1 : U.cell? ⟨B, 1, none⟩ = some (.slice la ps.length lc) := by rw [Lib.cell_of_heap v2]; rfl
      have x2 : U.cell? ⟨B, 2, none⟩ = some (.int .i64 tm) := by rw [Lib.cell_of_heap v2]; rfl
      have x3 : U.cell? ⟨B, 3, none⟩ = some (.string no) := by rw [Lib.cell_of_heap v2]; rfl
      have y4 : U.cell? ⟨r + 1, 0, none⟩ = some .nilIface := by rw [Lib.cell_of_heap v1]; rfl
      have z4 : U.frozen? ⟨r + 1, 0, none⟩ = false := Lib.frozen_of_heap v1 0
      have w2' := blk_set (c := r + 1) (o := 0) (v := .nilIface) v2 (by omega)
      have X0 : (U.setCell ⟨r + 1, 0, none⟩ (.nilIface)).cell? ⟨B, 0, none⟩ = some (.string t) := by rw [Lib.cell_of_heap w2']; rfl
      have X1 : (U.setCell ⟨r + 1, 0, none⟩ (.nilIface)).cell? ⟨B, 1, none⟩ = some (.slice la ps.length lc) := by rw [Lib.cell_of_heap w2']; rfl
      have X2 : (U.setCell ⟨r + 1, 0, none⟩ (.nilIface)).cell? ⟨B, 2, none⟩ = some (.int .i64 tm) := by rw [Lib.cell_of_heap w2']; rfl
      have X3 : (U.setCell ⟨r + 1, 0, none⟩ (.nilIface)).cell? ⟨B, 3, none⟩ = some (.string no) := by rw [Lib.cell_of_heap w2']; rfl
      have k5 : (U.setCell ⟨r + 1, 0, none⟩ (.nilIface)).heap[D]? = some (.deferred (some [])) := blk_set v4 (by omega)
      obtain ⟨Z, hZ⟩ : ∃ Z, (U.setCell ⟨r + 1, 0, none⟩ (.nilIface)).putObj D (.deferred none) = Z := ⟨_, rfl⟩
      have zD : Below r w Z := by rw [← hZ]; exact (v3.setCell (p := ⟨r + 1, 0, none⟩) (show r ≤ r + 1 by omega) _).trans (belowK_b (w := w) (Nat.le_of_eq hr.symm) _ D _ (.deferred none) (by omega) k5 rfl rfl)
      have zr : Z.heap[r]? = some (.cells #[.string t, .slice la ps.length lc, .int .i64 tm, .string no] 34 (0, 0)) := by rw [← hZ]; exact (World.putObj_heap_other (by omega)).trans (blk_set v0 (by omega))
      have ze : Z.heap[r + 1]? = some (.cells #[.nilIface] 48 (0, 0)) := by rw [← hZ]; exact (World.putObj_heap_other (by omega)).trans (blk_put v1)
      have zo : Z.ownsRow (r + 2) 9 1 (.slice la ps.length lc) ps.length (ps.map Value.string) := by rw [← hZ]; exact rowDown (ownsRow_putObj (ownsRow_setCell_below v5 (a := ⟨r + 1, 0, none⟩) (show r + 1 < B + 3 by omega) _) _ k5 rfl) (by omega)
      have g0 : Z.cell? ⟨r, 0, none⟩ = some (.string t) := by rw [Lib.cell_of_heap zr]; rfl
      have g1 : Z.cell? ⟨r, 1, none⟩ = some (.slice la ps.length lc) := by rw [Lib.cell_of_heap zr]; rfl
      have g2 : Z.cell? ⟨r, 2, none⟩ = some (.int .i64 tm) := by rw [Lib.cell_of_heap zr]; rfl
      have g3 : Z.cell? ⟨r, 3, none⟩ = some (.string no) := by rw [Lib.cell_of_heap zr]; rfl
      have g4 : Z.cell? ⟨r + 1, 0, none⟩ = some (.nilIface) := by rw [Lib.cell_of_heap ze]; rfl
      have HR : Hid (RC s w (.returned (.tuple #[.agg #[.string t, .slice la ps.length lc, .int .i64 tm, .string no], .nilIface])) Z) := ⟨by rw [hr]; exact zD, .inl ⟨_, _, _, _, _, by rw [hE, if_pos ⟨hy.1, by rw [← hy.2]; rfl⟩], rfl, by rw [hr]; exact zo⟩⟩
      refine hK'.out _ _ t4 (fun _ => ?_)
      clear hK' K
      simp only [List.setIfInBounds_toArray, List.set_cons_zero, List.set_cons_succ]
      refine wpAnyH_ready (rs := [5]) (by kernel_rfl) (by simp) ?_
      refine AllReadyH.cons (o := _) rfl (fun K hK' => ?_) AllReadyH.nil
      go_simp
      refine hK'.out _ _ ⟨x0, x1, x2, x3⟩ (fun _ => ?_)
      clear hK' K
      simp only [List.setIfInBounds_toArray, List.set_cons_zero, List.set_cons_succ]
      refine wpAnyH_ready (rs := [6]) (by kernel_rfl) (by simp) ?_
      refine AllReadyH.cons (o := _) rfl (fun K hK' => ?_) AllReadyH.nil
      go_simp
      refine hK'.out _ _ ⟨X0, X1, X2, X3⟩ (fun _ => ?_)
      clear hK' K
      simp only [List.setIfInBounds_toArray, List.set_cons_zero, List.set_cons_succ]
      refine wpAnyH_done (by kernel_rfl) ?_ _
      refine ⟨rfl, ?_⟩
      gi_wp2
      refine ⟨by simp, .inl ⟨_, _, rfl, run_takeDeferred k5, ?_⟩⟩
      rw [hZ]
      exact ⟨.tuple #[.agg #[.string t, .slice la ps.length lc, .int .i64 tm, .string no], .nilIface], by simp [results, Tryz.results27, go_sem, g0, g1, g2, g3, g4], HR.out⟩
    · have e4 : Hid _ := t4
      obtain ⟨U, hU⟩ : ∃ U, (((u4.setCell ⟨r, 0, none⟩ (.string t)).setCell ⟨r, 1, none⟩ (.slice la ps.length lc)).setCell ⟨r, 2, none⟩ (.int .i64 tm)).setCell ⟨r, 3, none⟩ (.string no) = U := ⟨_, rfl⟩
      have v0 : U.heap[r]? = some (.cells #[.string t, .slice la ps.length lc, .int .i64 tm, .string no] 34 (0, 0)) := by rw [← hU]; exact blk_put (blk_put (blk_put (blk_put s4.res)))
      have v1 : U.heap[r + 1]? = some (.cells #[.nilIface] 48 (0, 0)) := by rw [← hU]; exact blk_set (blk_set (blk_set (blk_set s4.rer (by omega)) (by omega)) (by omega)) (by omega)
      have v2 : U.heap[B]? = some (.cells #[.string t, .slice la ps.length lc, .int .i64 tm, .string no] 34 (0, 0)) := by rw [← hU]; exact blk_set (blk_set (blk_set (blk_set s4.com (by omega)) (by omega)) (by omega)) (by omega)
      have v3 : Below r w U := by rw [← hU]; exact (((b4.setCell (p := ⟨r, 0, none⟩) (Nat.le_refl _) _).setCell (p := ⟨r, 1, none⟩) (Nat.le_refl _) _).setCell (p := ⟨r, 2, none⟩) (Nat.le_refl _) _).setCell (p := ⟨r, 3, none⟩) (Nat.le_refl _) _
      have v4 : U.heap[D]? = some (.deferred (some [])) := by rw [← hU]; exact blk_set (blk_set (blk_set (blk_set hK4 (by omega)) (by omega)) (by omega)) (by omega)
      have v5 : U.ownsRow (B + 3) 9 1 (.slice la ps.length lc) ps.length (ps.map Value.string) := by rw [← hU]; exact ownsRow_setCell_below (ownsRow_setCell_below (ownsRow_setCell_below (ownsRow_setCell_below row4 (a := ⟨r, 0, none⟩) (show r < B + 3 by omega) _) (a := ⟨r, 1, none⟩) (show r < B + 3 by omega) _) (a := ⟨r, 2, none⟩) (show r < B + 3 by omega) _) (a := ⟨r, 3, none⟩) (show r < B + 3 by omega) _
      have x0 : U.cell? ⟨B, 0, none⟩ = some (.string t) := by rw [Lib.cell_of_heap v2]; rfl
      have x1 : U.cell? ⟨B, 1, none⟩ = some (.slice la ps.length lc) := by rw [Lib.cell_of_heap v2]; rfl
      have x2 : U.cell? ⟨B, 2, none⟩ = some (.int .i64 tm) := by rw [Lib.cell_of_heap v2]; rfl
      have x3 : U.cell? ⟨B, 3, none⟩ = some (.string no) := by rw [Lib.cell_of_heap v2]; rfl
      have y4 : U.cell? ⟨r + 1, 0, none⟩ = some .nilIface := by rw [Lib.cell_of_heap v1]; rfl
      have z4 : U.frozen? ⟨r + 1, 0, none⟩ = false := Lib.frozen_of_heap v1 0
      have w2' := blk_set (c := r + 1) (o := 0) (v := .iface 80 (.agg #[.iface TT uu])) v2 (by omega)
      have X0 : (U.setCell ⟨r + 1, 0, none⟩ (.iface 80 (.agg #[.iface TT uu]))).cell? ⟨B, 0, none⟩ = some (.string t) := by rw [Lib.cell_of_heap w2']; rfl
      have X1 : (U.setCell ⟨r + 1, 0, none⟩ (.iface 80 (.agg #[.iface TT uu]))).cell? ⟨B, 1, none⟩ = some (.slice la ps.length lc) := by rw [Lib.cell_of_heap w2']; rfl
      have X2 : (U.setCell ⟨r + 1, 0, none⟩ (.iface 80 (.agg #[.iface TT uu]))).cell? ⟨B, 2, none⟩ = some (.int .i64 tm) := by rw [Lib.cell_of_heap w2']; rfl
      have X3 : (U.setCell ⟨r + 1, 0, none⟩ (.iface 80 (.agg #[.iface TT uu]))).cell? ⟨B, 3, none⟩ = some (.string no) := by rw [Lib.cell_of_heap w2']; rfl
      have k5 : (U.setCell ⟨r + 1, 0, none⟩ (.iface 80 (.agg #[.iface TT uu]))).heap[D]? = some (.deferred (some [])) := blk_set v4 (by omega)
      obtain ⟨Z, hZ⟩ : ∃ Z, (U.setCell ⟨r + 1, 0, none⟩ (.iface 80 (.agg #[.iface TT uu]))).putObj D (.deferred none) = Z := ⟨_, rfl⟩
      have zD : Below r w Z := by rw [← hZ]; exact (v3.setCell (p := ⟨r + 1, 0, none⟩) (show r ≤ r + 1 by omega) _).trans (belowK_b (w := w) (Nat.le_of_eq hr.symm) _ D _ (.deferred none) (by omega) k5 rfl rfl)
      have zr : Z.heap[r]? = some (.cells #[.string t, .slice la ps.length lc, .int .i64 tm, .string no] 34 (0, 0)) := by rw [← hZ]; exact (World.putObj_heap_other (by omega)).trans (blk_set v0 (by omega))
      have ze : Z.heap[r + 1]? = some (.cells #[.iface 80 (.agg #[.iface TT uu])] 48 (0, 0)) := by rw [← hZ]; exact (World.putObj_heap_other (by omega)).trans (blk_put v1)
      have zo : Z.ownsRow (r + 2) 9 1 (.slice la ps.length lc) ps.length (ps.map Value.string) := by rw [← hZ]; exact rowDown (ownsRow_putObj (ownsRow_setCell_below v5 (a := ⟨r + 1, 0, none⟩) (show r + 1 < B + 3 by omega) _) _ k5 rfl) (by omega)
      have g0 : Z.cell? ⟨r, 0, none⟩ = some (.string t) := by rw [Lib.cell_of_heap zr]; rfl
      have g1 : Z.cell? ⟨r, 1, none⟩ = some (.slice la ps.length lc) := by rw [Lib.cell_of_heap zr]; rfl
      have g2 : Z.cell? ⟨r, 2, none⟩ = some (.int .i64 tm) := by rw [Lib.cell_of_heap zr]; rfl
      have g3 : Z.cell? ⟨r, 3, none⟩ = some (.string no) := by rw [Lib.cell_of_heap zr]; rfl
      have g4 : Z.cell? ⟨r + 1, 0, none⟩ = some (.iface 80 (.agg #[.iface TT uu])) := by rw [Lib.cell_of_heap ze]; rfl
      have HR : Hid (RC s w (.returned (.tuple #[.agg #[.string t, .slice la ps.length lc, .int .i64 tm, .string no], .iface 80 (.agg #[.iface TT uu])])) Z) := ⟨by rw [hr]; exact zD, .inr ⟨by rw [hE, if_neg (fun q => hy ⟨q.1, WideShapes.bytes_inj q.2⟩)], _, _, _, _, _, _, _, _, rfl⟩⟩
      refine hK'.out _ _ t4 (fun _ => ?_)
      clear hK' K
      simp only [List.setIfInBounds_toArray, List.set_cons_zero, List.set_cons_succ]
      refine wpAnyH_ready (rs := [5]) (by kernel_rfl) (by simp) ?_
      refine AllReadyH.cons (o := _) rfl (fun K hK' => ?_) AllReadyH.nil
      go_simp
      refine hK'.out _ _ ⟨x0, x1, x2, x3⟩ (fun _ => ?_)
      clear hK' K
      simp only [List.setIfInBounds_toArray, List.set_cons_zero, List.set_cons_succ]
      refine wpAnyH_ready (rs := [6]) (by kernel_rfl) (by simp) ?_
      refine AllReadyH.cons (o := _) rfl (fun K hK' => ?_) AllReadyH.nil
      go_simp
      refine hK'.out _ _ ⟨X0, X1, X2, X3⟩ (fun _ => ?_)
      clear hK' K
      simp only [List.setIfInBounds_toArray, List.set_cons_zero, List.set_cons_succ]
      refine wpAnyH_done (by kernel_rfl) ?_ _
      refine ⟨rfl, ?_⟩
      gi_wp2
      refine ⟨by simp, .inl ⟨_, _, rfl, run_takeDeferred k5, ?_⟩⟩
      rw [hZ]
      exact ⟨.tuple #[.agg #[.string t, .slice la ps.length lc, .int .i64 tm, .string no], .iface 80 (.agg #[.iface TT uu])], by simp [results, Tryz.results27, go_sem, g0, g1, g2, g3, g4], HR.out⟩
  case stop =>
    rintro D c pre W hD hpre ⟨⟨rfl, hp, hr0, TT, uu, hr1⟩, hB⟩ hK
    have hE := dcI_stop hpre hp
    rw [z3] at hD
    obtain ⟨Z, hZ⟩ : ∃ Z, W.putObj D (.deferred none) = Z := ⟨_, rfl⟩
    have zD : Below r w Z := by rw [← hZ]; exact hB.trans (belowK_b (w := w) (Nat.le_of_eq hr.symm) _ D _ (.deferred none) (by omega) hK rfl rfl)
    have zr := (World.putObj_heap_other (w := W) (o := .deferred none) (show ¬ r = D by omega)).trans hr0
    have ze := (World.putObj_heap_other (w := W) (o := .deferred none) (show ¬ r + 1 = D by omega)).trans hr1
    rw [hZ] at zr ze
    have g0 : Z.cell? ⟨r, 0, none⟩ = some (.string ⟨#[]⟩) := by rw [Lib.cell_of_heap zr]; rfl
    have g1 : Z.cell? ⟨r, 1, none⟩ = some (.slice none 0 0) := by rw [Lib.cell_of_heap zr]; rfl
    have g2 : Z.cell? ⟨r, 2, none⟩ = some (.int .i64 0) := by rw [Lib.cell_of_heap zr]; rfl
    have g3 : Z.cell? ⟨r, 3, none⟩ = some (.string ⟨#[]⟩) := by rw [Lib.cell_of_heap zr]; rfl
    have g4 : Z.cell? ⟨r + 1, 0, none⟩ = some (.iface 80 (.agg #[.iface TT uu])) := by rw [Lib.cell_of_heap ze]; rfl
    have HR : Hid (RC s w (.returned (.tuple #[.agg #[.string ⟨#[]⟩, .slice none 0 0, .int .i64 0, .string ⟨#[]⟩], .iface 80 (.agg #[.iface TT uu])])) Z) := ⟨by rw [hr]; exact zD, .inr ⟨hE, _, _, _, _, _, _, _, _, rfl⟩⟩
    gi_wp2
    refine ⟨by simp, .inl ⟨_, _, rfl, run_takeDeferred hK, ?_⟩⟩
    rw [hZ]
    exact ⟨.tuple #[.agg #[.string ⟨#[]⟩, .slice none 0 0, .int .i64 0, .string ⟨#[]⟩], .iface 80 (.agg #[.iface TT uu])], by simp [results, Tryz.results27, go_sem, g0, g1, g2, g3, g4], HR.out⟩
end Go.Proofs.YtijphomojljckaaGreatDoor.Dc
/- The contracts of the program's readCommit (whole) and DecodeCommit. No statement is proved here. -/
set_option linter.unusedVariables false
namespace Go.Proofs.YtijphomojljckaaGreatDoor.Dc
open Go.ChangeShapes Go.WideShapes Go.ChangeAt Go.RowKit

set_option maxRecDepth 20000 in
set_option maxHeartbeats 1000000 in
theorem readCommit_no (s : ByteArray) (w : World) (hs : s.size ≤ 1048576) (h0 : ¬ tf s = 0) :
    Calls Tryz.prog 27 #[.string s] w fun e w' => RC s w e w' := by
  have hT := fun w => implTextFault s w hs
  have HI : Hid (dcI pI s = none) := dcI_tf h0
  obtain ⟨q, hr⟩ : ∃ r, tf s = r := ⟨_, rfl⟩
  rw [hr] at h0
  simp only [hr] at hT
  have hq : (q != 0) = true := by simpa using h0
  clear hr h0
  obtain ⟨r, hr⟩ : ∃ r, w.heap.size = r := ⟨_, rfl⟩
  obtain ⟨W0, hW0⟩ : ∃ W, (w.alloc (.cells #[.string ⟨#[]⟩, .slice none 0 0, .int .i64 0, .string ⟨#[]⟩] 34)).alloc (.cells #[.nilIface] 48) = W := ⟨_, rfl⟩
  have b0 : Below r w W0 := by rw [← hW0, ← hr]; exact (allocBelow _ _).trans ((allocBelow _ _).mono (by simp))
  have z0 : r + 2 ≤ W0.heap.size := by rw [← hW0, ← hr]; simp
  have v0 : Rf W0 r [.string ⟨#[]⟩, .slice none 0 0, .int .i64 0, .string ⟨#[]⟩] := by rw [← hW0, ← hr]; exact (Rf.new w #[.string ⟨#[]⟩, .slice none 0 0, .int .i64 0, .string ⟨#[]⟩] _).below (by simp) (allocBelow _ _)
  have v1 : Rf W0 (r + 1) [.nilIface] := by
    rw [← hW0, ← hr]
    have := Rf.new (w.alloc (.cells #[.string ⟨#[]⟩, .slice none 0 0, .int .i64 0, .string ⟨#[]⟩] 34)) #[.nilIface] 48
    rwa [World.size_alloc] at this
  go_enter Tryz.func27, Tryz.ntmps27
  go_wp2_with fail
  refine (hT _).mono ?_; rintro e w1 ⟨rfl, b1⟩
  have B1 : Below r w w1 := b0.trans (b1.mono (by omega))
  have r1 := v0.below (by omega) b1
  have r2 := v1.below (by omega) b1
  have d0 := r1.at_ 0 _ rfl
  have d1 := r1.at_ 1 _ rfl
  have d2 := r1.at_ 2 _ rfl
  have d3 := r1.at_ 3 _ rfl
  have d4 := r2.at_ 0 _ rfl
  have f0 := r1.fz 0
  have f1 := r1.fz 1
  have f2 := r1.fz 2
  have f3 := r1.fz 3
  have f4 := r2.fz 0
  have HB : ∀ x0 x1 x2 x3 x4, Hid (Below r w (((((w1.setCell ⟨r, 0, none⟩ x0).setCell ⟨r, 1, none⟩ x1).setCell ⟨r, 2, none⟩ x2).setCell ⟨r, 3, none⟩ x3).setCell ⟨r + 1, 0, none⟩ x4)) := fun _ _ _ _ _ => setBelow (setBelow (setBelow (setBelow (setBelow B1 (Nat.le_refl _)) (Nat.le_refl _)) (Nat.le_refl _)) (Nat.le_refl _)) (by omega)
  have HR : ∀ x0 x1 x2 x3 x4, Hid (Rf (((((w1.setCell ⟨r, 0, none⟩ x0).setCell ⟨r, 1, none⟩ x1).setCell ⟨r, 2, none⟩ x2).setCell ⟨r, 3, none⟩ x3).setCell ⟨r + 1, 0, none⟩ x4) r [x0, x1, x2, x3]) := fun x0 x1 x2 x3 x4 => ((((r1.set (o := 0) (by simp) x0).set (o := 1) (by simp) x1).set (o := 2) (by simp) x2).set (o := 3) (by simp) x3).other (by omega) x4
  have HS : ∀ x0 x1 x2 x3 x4, Hid (Rf (((((w1.setCell ⟨r, 0, none⟩ x0).setCell ⟨r, 1, none⟩ x1).setCell ⟨r, 2, none⟩ x2).setCell ⟨r, 3, none⟩ x3).setCell ⟨r + 1, 0, none⟩ x4) (r + 1) [x4]) := fun x0 x1 x2 x3 x4 => ((((r2.other (by omega) x0).other (by omega) x1).other (by omega) x2).other (by omega) x3).set (o := 0) (by simp) x4
  clear hT b0 b1 B1 r1 r2 v0 v1 hW0
  go_wp2
  have R4 := (HR (.string ⟨#[]⟩) (.slice none 0 0) (.int .i64 0) (.string ⟨#[]⟩) (.iface 80 (.agg #[.iface 78 (.agg #[.int .i64 q])]))).out
  have R5 := (HS (.string ⟨#[]⟩) (.slice none 0 0) (.int .i64 0) (.string ⟨#[]⟩) (.iface 80 (.agg #[.iface 78 (.agg #[.int .i64 q])]))).out
  have g0 := R4.at_ 0 _ rfl
  have g1 := R4.at_ 1 _ rfl
  have g2 := R4.at_ 2 _ rfl
  have g3 := R4.at_ 3 _ rfl
  have g4 := R5.at_ 0 _ rfl
  refine bodyPost_ret (v := .tuple #[.agg #[.string ⟨#[]⟩, .slice none 0 0, .int .i64 0, .string ⟨#[]⟩], .iface 80 (.agg #[.iface 78 (.agg #[.int .i64 q])])]) (by simp [results, Tryz.results27, go_sem, g0, g1, g2, g3, g4]) rfl ?_
  unfold RC
  rw [hr]
  exact ⟨(HB _ _ _ _ _).out, .inr ⟨HI.out, _, _, _, _, _, _, _, _, rfl⟩⟩
theorem readCommitC (s : ByteArray) (w : World) (hs : s.size ≤ 1048576) (hTa : TaG w) (hgB : 6 < w.heap.size) (ho : OfG w) (hoB : 1 < w.heap.size) (hP : PeG w) (hP1 : 4 < w.heap.size) (hP2 : 5 < w.heap.size) :
    Calls Tryz.prog 27 #[.string s] w fun e w' => RC s w e w' := by
  by_cases h0 : tf s = 0
  · exact readCommit_ok s w hs h0 hTa hgB ho hoB hP hP1 hP2
  · exact readCommit_no s w hs h0
set_option maxRecDepth 20000 in
set_option maxHeartbeats 2000000 in
theorem implDecodeCommit (s : ByteArray) (w : World) (hs : s.size ≤ 1048576) (hTa : TaG w) (hgB : 6 < w.heap.size) (ho : OfG w) (hoB : 1 < w.heap.size) (hP : PeG w) (hP1 : 4 < w.heap.size) (hP2 : 5 < w.heap.size) (hE : ErrG w) :
    Calls Tryz.prog 10 #[.string s] w fun e w' => DC s w e w' := by
  obtain ⟨b, hb⟩ : ∃ b, w.heap.size = b := ⟨_, rfl⟩
  obtain ⟨W1, hW1⟩ : ∃ W1, w.alloc (.cells #[.int .i64 0, .string ⟨#[]⟩, .slice none 0 0, .int .i64 0, .string ⟨#[]⟩] 36) = W1 := ⟨_, rfl⟩
  have b1 : Below b w W1 := by rw [← hW1, ← hb]; exact allocBelow _ _
  have z1 : b < W1.heap.size := by rw [← hW1, ← hb]; simp
  have r1 : Rf W1 b [.int .i64 0, .string ⟨#[]⟩, .slice none 0 0, .int .i64 0, .string ⟨#[]⟩] := by rw [← hW1, ← hb]; exact Rf.new _ _ _
  rw [hb] at hgB hoB hP1 hP2
  have hR := readCommitC s W1 hs (hTa.below b1 hgB) (by omega) (ho.below b1 hoB) (by omega) (hP.below b1 hP1 hP2) (by omega) (by omega)
  have hEw : ∀ {w'}, Below b w w' → ErrG w' := fun h => hE.below (show Below w.heap.size w _ by rw [hb]; exact h)
  go_enter Tryz.func10, Tryz.ntmps10
  go_wp2_with fail
  refine hR.mono ?_
  rintro e w2 ⟨b2, he⟩
  have r2 := r1.below z1 b2
  have B2 : Below b w w2 := b1.trans (b2.mono (Nat.le_of_lt z1))
  have z2 := b2.size
  have hz : b < w2.heap.size := by omega
  clear hR r1 hW1 b1
  rcases he with ⟨t, ps, tm, no, v, hy, rfl, hrow⟩ | ⟨hy, t, la, ln, lc, tm, no, T, u, rfl⟩
  · have HY : Hid _ := dc_some hy
    obtain ⟨la, lc, rfl⟩ : ∃ a c, v = .slice a ps.length c := by
      rcases hrow.2 with ⟨h', h0'⟩ | ⟨g, c, cur, h', _⟩
      · exact ⟨none, 0, by rw [h', h0']⟩
      · exact ⟨_, _, h'⟩
    have d0 := r2.at_ 0 _ rfl
    have d1 := r2.at_ 1 _ rfl
    have d2 := r2.at_ 2 _ rfl
    have d3 := r2.at_ 3 _ rfl
    have d4 := r2.at_ 4 _ rfl
    have f0 := r2.fz 0
    have f1 := r2.fz 1
    have f2 := r2.fz 2
    have f3 := r2.fz 3
    have f4 := r2.fz 4
    have HR := fun x0 x1 x2 x3 x4 o => rf5 r2 rfl hz x0 x1 x2 x3 x4 o
    have hrow1 := rowDown hrow (show b + 1 ≤ W1.heap.size + 2 by omega)
    clear hy hrow r2
    go_wp2
    have R5 := HR (.int .i64 0) (.string t) (.slice la ps.length lc) (.int .i64 tm) (.string no) (.cells #[.string t, .slice la ps.length lc, .int .i64 tm, .string no] 34)
    have g0 := R5.at_ 0 _ rfl
    have g1 := R5.at_ 1 _ rfl
    have g2 := R5.at_ 2 _ rfl
    have g3 := R5.at_ 3 _ rfl
    have g4 := R5.at_ 4 _ rfl
    refine bodyPost_ret (v := .agg #[.int .i64 0, .string t, .slice la ps.length lc, .int .i64 tm, .string no]) (by simp [results, Tryz.results10, go_sem, g0, g1, g2, g3, g4]) rfl ?_
    unfold DC
    rw [HY.out.1, HY.out.2, hb]
    exact ⟨_, rfl, (own5 hrow1 _ _ _ _ _).alloc _, (below5 B2 _ _ _ _ _).alloc (by simpa using Nat.le_of_lt hz) _⟩
  · have HY : Hid _ := dc_none hy
    obtain ⟨W3, hW3⟩ : ∃ W, w2.alloc (.cells #[.string t, .slice la ln lc, .int .i64 tm, .string no] 34) = W := ⟨_, rfl⟩
    have b3 : Below w2.heap.size w2 W3 := by rw [← hW3]; exact allocBelow _ _
    have B3 : Below b w W3 := B2.trans (b3.mono (Nat.le_of_lt hz))
    have r3 := r2.below hz b3
    have z3 := b3.size
    have hD := codeOf_read T u W3 (hEw B3)
    clear hy r2 b2 B2
    go_wp2_with fail
    refine hD.mono ?_
    rintro e w4 ⟨rfl, b4⟩
    have r4 := r3.below (by omega) b4
    have B4 : Below b w w4 := B3.trans (b4.mono (by omega))
    have hz4 : b < w4.heap.size := by have := b4.size; omega
    have d0 := r4.at_ 0 _ rfl
    have d1 := r4.at_ 1 _ rfl
    have d2 := r4.at_ 2 _ rfl
    have d3 := r4.at_ 3 _ rfl
    have d4 := r4.at_ 4 _ rfl
    have f0 := r4.fz 0
    have f1 := r4.fz 1
    have f2 := r4.fz 2
    have f3 := r4.fz 3
    have f4 := r4.fz 4
    have HR : ∀ x0 x1 x2 x3 x4, Rf (((((w4.setCell ⟨b, 0, none⟩ x0).setCell ⟨b, 1, none⟩ x1).setCell ⟨b, 2, none⟩ x2).setCell ⟨b, 3, none⟩ x3).setCell ⟨b, 4, none⟩ x4) b [x0, x1, x2, x3, x4] := fun x0 x1 x2 x3 x4 => ((((r4.set (o := 0) (by simp) x0).set (o := 1) (by simp) x1).set (o := 2) (by simp) x2).set (o := 3) (by simp) x3).set (o := 4) (by simp) x4
    clear hD r3 r4 b3 B3 b4 hW3
    go_wp2
    have R5 := HR (.int .i64 5) (.string ⟨#[]⟩) (.slice none 0 0) (.int .i64 0) (.string ⟨#[]⟩)
    have g0 := R5.at_ 0 _ rfl
    have g1 := R5.at_ 1 _ rfl
    have g2 := R5.at_ 2 _ rfl
    have g3 := R5.at_ 3 _ rfl
    have g4 := R5.at_ 4 _ rfl
    refine bodyPost_ret (v := .agg #[.int .i64 5, .string ⟨#[]⟩, .slice none 0 0, .int .i64 0, .string ⟨#[]⟩]) (by simp [results, Tryz.results10, go_sem, g0, g1, g2, g3, g4]) rfl ?_
    unfold DC
    rw [HY.out.1, HY.out.2, hb]
    exact ⟨_, rfl, World.ownsRow_nil _ _ _ _, below5 B4 _ _ _ _ _⟩
end Go.Proofs.YtijphomojljckaaGreatDoor.Dc
