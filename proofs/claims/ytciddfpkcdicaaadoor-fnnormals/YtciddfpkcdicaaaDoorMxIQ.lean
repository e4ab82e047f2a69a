/- The contracts of takenLines and of mergedText. No statement is proved here. -/
import Derived.Test.YtciddfpkcdicaaaDoorRows
import Derived.Test.YtciddfpkcdicaaaDoorLemQ
import Derived.Test.YtciddfpkcdicaaaDoorDTabQ
import Derived.Test.YtciddfpkcdicaaaDoorHkTQ
import Derived.Test.YtciddfpkcdicaaaDoorCkLQ
import Derived.Test.YtciddfpkcdicaaaDoorCkCQ
import Derived.Test.YtciddfpkcdicaaaDoorCkBQ
import Derived.Test.YtciddfpkcdicaaaDoorRtMQ
import Derived.Test.YtciddfpkcdicaaaDoorCtTQ
import Derived.Test.YtciddfpkcdicaaaDoorCtCQ
import Derived.Test.YtciddfpkcdicaaaDoorCtVQ
import Derived.WalkKit
import Derived.ProofKit
import Derived.Below
import Derived.WalkSpells
import Derived.Deep.QuietTactic
import Derived.BigQuiet
import Derived.Laws.Concat
namespace Go.Proofs.YtciddfpkcdicaaaDoor
open Go.ChangeShapes Go.WideShapes Go.ChangeAt Go.RowKit

theorem ret_val {v u : Value} (h : v = u) : Ending.returned v = .returned u := by rw [h]
set_option maxHeartbeats 1000000 in
theorem takenLines (x0 : Int) (a1 a2 a3 : Option Addr) (n1 n2 n3 c1 c2 c3 : Nat) (w : World) :
    Calls Tryd.prog 29 #[.agg #[.int .i64 x0, .slice a1 n1 c1, .slice a2 n2 c2, .slice a3 n3 c3]] w fun e w' => e = .returned (if x0 = 2 then .slice a3 n3 c3 else .slice a2 n2 c2) ∧ Below w.heap.size w w' := by
  have bW := allocBelow w (.cells #[.int .i64 x0, .slice a1 n1 c1, .slice a2 n2 c2, .slice a3 n3 c3] 40)
  by_cases e : x0 = 2
  · subst e
    go_enter Tryd.func29, Tryd.ntmps29
    go_wp2
    go_ret
    exact ⟨rfl, bW⟩
  · have q : (x0 == 2) = false := by simp [e]
    have HE : Hid ((if x0 = 2 then Value.slice a3 n3 c3 else .slice a2 n2 c2) = .slice a2 n2 c2) := if_neg e
    go_enter Tryd.func29, Tryd.ntmps29
    go_wp2
    go_ret
    first | exact ⟨rfl, bW⟩ | exact ⟨ret_val HE.out.symm, bW⟩
/-- Chunks whose text can be made. -/
structure Mx (l : List Ck) : Prop where
  each : ∀ c ∈ l, c.2.1.length ≤ 1048576 ∧ c.2.2.1.length ≤ 1048576 ∧ c.2.2.2.length ≤ 1048576 ∧ tot c.2.1 ≤ 1048576 ∧ tot c.2.2.1 ≤ 1048576 ∧ tot c.2.2.2 ≤ 1048576 ∧ (c.1 = 4 → ctOK c.1 c.2.1 c.2.2.1 c.2.2.2 = true)
  whole : tot (ptsA l) + (ptsA l).length ≤ 100000000
theorem atF_bel {T e : TypeId} {B b : Nat} {p : Value} {bs : List Value} {w w' : World} (h : Lib.BuilderAtF T e B b p bs w) (hb : Below w.heap.size w w') : Lib.BuilderAtF T e B b p bs w' := by
  have hlt := h.lt
  obtain ⟨hB, v, hbk, hown, hne⟩ := h
  exact ⟨hB, v, (hb.block b hlt).trans hbk, hown.kept (grownOfBelow hb none) (by cases hv : v.ownBlock <;> simp), hne⟩
theorem BF.bel {B b : Nat} {l : List UInt8} {w w' : World} (h : BF B b l w) (hb : Below w.heap.size w w') : BF B b l w' := h.elim (fun x => .inl (atF_bel x hb)) (fun x => .inr (atF_bel x hb))
theorem KB.belowAt {B : Nat} {w w' : World} {a : Option Addr} {l : List Ck} (h : KB B w a l) (hb : Below B w w') : KB B w' a l := fun k hk => by
  obtain ⟨g, off, a1, c1, a2, c2, a3, c3, e, hg, d0, d1, d2, d3, s1, s2, s3⟩ := h k hk
  have key : ∀ {a : Option Addr} {c : Nat} {ss : List ByteArray}, SSN B w a c ss → SSN B w' a c ss := fun {a c ss} hs => ⟨⟨hs.1.1, fun j hj => by obtain ⟨b', o, e, hl, hc⟩ := hs.1.2 j hj; exact ⟨b', o, e, hl, (hb.cell (p := ⟨b', o + j, none⟩) hl).trans hc⟩⟩, hs.2⟩
  exact ⟨g, off, a1, c1, a2, c2, a3, c3, e, hg, (hb.cell (p := ⟨g, off + k * 4, none⟩) hg).trans d0, (hb.cell (p := ⟨g, off + k * 4 + 1, none⟩) hg).trans d1, (hb.cell (p := ⟨g, off + k * 4 + 2, none⟩) hg).trans d2, (hb.cell (p := ⟨g, off + k * 4 + 3, none⟩) hg).trans d3, key s1, key s2, key s3⟩
set_option maxRecDepth 20000 in
set_option maxHeartbeats 4000000 in
theorem mergedText (a : Option Addr) (c : Nat) (l : List Ck) (w : World) (h : KB w.heap.size w a l) (hn : l.length ≤ 1048576) (hM : Mx l) :
    Calls Tryd.prog 18 #[.slice a l.length c] w fun e w' => e = .returned (.string ⟨(putP [] (ptsA l)).toArray⟩) ∧ Below w.heap.size w w' := by
  obtain ⟨W0, hW0⟩ : ∃ W, w.alloc (.cells #[.pointer none, .slice none 0 0] 71) = W := ⟨_, rfl⟩
  have hBF : BF w.heap.size w.heap.size [] W0 := by rw [← hW0]; exact Lib.IsBuilderF.of (Lib.fresh_isBuilder 71 5 w)
  have b0 : Below w.heap.size w W0 := by rw [← hW0]; exact allocBelow _ _
  have hsz : ∀ k, k ≤ l.length → ((putP [] (ptsA (l.take k))).length : Int) ≤ tot (ptsA (l.take k)) + (ptsA (l.take k)).length := fun k _ => by have := putP_le [] (ptsA (l.take k)); simpa using this
  have hsp : ∀ k, k < l.length → tot (ptsA (l.take k)) + (ptsA (l.take k)).length + tot (pts (l.getD k cnil)) + (pts (l.getD k cnil)).length ≤ 100000000 := fun k hk => by
    have h1 := hM.whole
    have e : ptsA l = ptsA (l.take k) ++ (pts (l.getD k cnil) ++ ptsA (l.drop (k + 1))) := by
      have := ck_drop l k hk
      unfold ptsA
      rw [← List.flatMap_cons, ← this, ← List.flatMap_append, List.take_append_drop]
    have t1 := tot_split (ptsA l) (ptsA (l.take k)).length
    rw [e, List.take_left, List.drop_left] at t1
    have t2 := tot_split (pts (l.getD k cnil) ++ ptsA (l.drop (k + 1))) (pts (l.getD k cnil)).length
    rw [List.take_left, List.drop_left] at t2
    have t3 := tot_nonneg (ptsA (l.drop (k + 1)))
    rw [e] at h1
    simp only [List.length_append] at h1
    omega
  have hstep : ∀ k, k < l.length → Hid (putP [] (ptsA (l.take (k + 1))) = putP (putP [] (ptsA (l.take k))) (pts (l.getD k cnil))) := fun k hk => by show _ = _; rw [ptsA_take l k hk, putP_app]
  go_enter Tryd.func18, Tryd.ntmps18
  go_wp2
  go_loopw [5, 8] (fun _ i wr => ∃ k : Nat, k ≤ l.length ∧ i = .int .i64 k ∧ BF w.heap.size w.heap.size (putP [] (ptsA (l.take k))) wr ∧ Below w.heap.size w wr ∧ w.heap.size < wr.heap.size) (fun _ i _ => l.length - (intOf i).toNat)
  case atStart => exact ⟨0, Nat.zero_le _, rfl, hBF, b0, by rw [← hW0]; simp⟩
  case round =>
    clear hBF b0 hW0
    obtain ⟨k, hk, rfl, hB, hbel, hlt0⟩ := hrel
    by_cases hlt : k < l.length
    · have q : (k : Int) < (l.length : Int) := by omega
      have hsk := hsz k hk
      have hspk := hsp k hlt
      have hst := hstep k hlt
      have hE := hM.each _ (ck_mem l k hlt)
      obtain ⟨g, off, a1, c1, a2, c2, a3, c3, e, hg, d0, d1, d2, d3, s1, s2, s3⟩ := h.belowAt hbel k hlt
      subst e
      obtain ⟨C, hC⟩ : ∃ C, l.getD k cnil = C := ⟨_, rfl⟩
      obtain ⟨x0, x1, x2, x3⟩ := C
      rw [hC] at d0 d1 d2 d3 s1 s2 s3 hE hspk hst
      simp only [] at d0 d1 d2 d3 s1 s2 s3 hE
      obtain ⟨P, hP⟩ : ∃ P, putP [] (ptsA (l.take k)) = P := ⟨_, rfl⟩
      rw [hP] at hB hsk hst
      obtain ⟨V, hV⟩ : ∃ V, wr.alloc (.cells #[.int .i64 x0, .slice a1 x1.length c1, .slice a2 x2.length c2, .slice a3 x3.length c3] 40) = V := ⟨_, rfl⟩
      have bV : Below wr.heap.size wr V := by rw [← hV]; exact allocBelow _ _
      have rV : Rs V wr.heap.size [.int .i64 x0, .slice a1 x1.length c1, .slice a2 x2.length c2, .slice a3 x3.length c3] := by rw [← hV]; exact Rs.new _ _ _
      have e0 := rV 0 _ rfl
      have e1 := rV 1 _ rfl
      have e2 := rV 2 _ rfl
      have e3 := rV 3 _ rfl
      have sV := bV.size
      have hBV := hB.bel bV
      have belV := below_step hbel (by omega) bV
      have hsw : w.heap.size ≤ wr.heap.size := by omega
      obtain ⟨m1, m2, m3, t1, t2, t3, hok⟩ := hE
      have u1 := (s1.1.below bV)
      have u2 := (s2.1.below bV)
      have u3 := (s3.1.below bV)
      clear rV hC hP hsz hsp hstep
      by_cases h4 : x0 = 4
      · have hpt : pts (x0, x1, x2, x3) = [clashB x1 x2 x3] := if_pos h4
        rw [hpt] at hspk hst
        have hct : ctT x0 x1 x2 x3 = clashB x1 x2 x3 := if_pos (hok h4)
        have hCT := fun W b => implClashText x0 a1 a2 a3 c1 c2 c3 x1 x2 x3 W ((u1.below b).toSS (by have := Below.size b; omega)) ((u2.below b).toSS (by have := Below.size b; omega)) ((u3.below b).toSS (by have := Below.size b; omega)) m1 m2 m3 t1 t2 t3
        have hCV := hCT V (Below.refl _ _)
        rw [hct] at hCV
        subst h4
        generalize clashB x1 x2 x3 = X at hCV hspk hst hct
        generalize ctC 4 x1 x2 x3 = Z at hCV
        have hfld : ∀ w, (Instr.field 27 (.agg #[.int .i64 Z, .string X]) 1).run Tryd.prog w = .ok (.string X) w := fun _ => by kernel_rfl
        clear hCT hct hok
        go_wp2_with fail
        refine hCV.mono ?_; rintro e w2 ⟨rfl, b2⟩
        have hB2 := hBV.bel b2
        have s2' := b2.size
        have tn := tot_nonneg (ptsA (l.take k))
        have hXs : X.size ≤ 9223372036854775807 := by
          have hx : tot [X] = (X.size : Int) := by simp [tot]
          rw [hx] at hspk
          omega
        have hw1 := writePart1 w.heap.size w.heap.size P (some ⟨w2.heap.size, 0, none⟩) 1 [X] (w2.alloc (.cells #[.string X] 9)) (hB2.alloc _) (oneSS w2 X 9 hXs) rfl (by simp; omega) (by simp) (by omega)
        have bel2 := below_step belV (by omega) b2
        clear hCV e0 e1 e2 e3 hV d0 d1 d2 d3
        go_wp2_with fail
        refine hw1.mono ?_; rintro e w3 ⟨rfl, F3, b3⟩
        rw [← hst.out] at F3
        have HB : Hid (Below w.heap.size w w3) := (bel2.alloc (by omega) _).trans b3
        have HS : Hid (w.heap.size < w3.heap.size) := by have := b3.size; simp at this; show _ < _; omega
        clear hw1 b3 bel2 hB2 hBV
        go_wp2
        go_roundw
        case rel => exact ⟨k + 1, by omega, by go_num, F3, HB.out, HS.out⟩
        case measure => first | (simp [intOf]; omega) | simp [intOf]
      · have q4 : (x0 == 4) = false := by simp [h4]
        have hTk := takenLines x0 a1 a2 a3 x1.length x2.length x3.length c1 c2 c3 V
        obtain ⟨ta, tc, ss, hte, hpt, hts, htn⟩ : ∃ (ta : Option Addr) (tc : Nat) (ss : List ByteArray), (if x0 = 2 then Value.slice a3 x3.length c3 else .slice a2 x2.length c2) = .slice ta ss.length tc ∧ pts (x0, x1, x2, x3) = ss ∧ SSB w.heap.size V ta ss ∧ ss.length ≤ 1048576 := by
          unfold pts
          rw [if_neg h4]
          by_cases h2 : x0 = 2
          · rw [if_pos h2, if_pos h2]; exact ⟨a3, c3, x3, rfl, rfl, u3, m3⟩
          · rw [if_neg h2, if_neg h2]; exact ⟨a2, c2, x2, rfl, rfl, u2, m2⟩
        rw [hte] at hTk
        rw [hpt] at hspk hst
        clear hte hpt hok
        go_wp2_with fail
        refine hTk.mono ?_; rintro e w2 ⟨rfl, b2⟩
        have hB2 := hBV.bel b2
        have s2' := b2.size
        have hw1 := writeParts w.heap.size w.heap.size P ta tc ss w2 hB2 (hts.below b2) (by omega) htn (by omega)
        have bel2 := below_step belV (by omega) b2
        clear hTk e0 e1 e2 e3 hV d0 d1 d2 d3
        go_wp2_with fail
        refine hw1.mono ?_; rintro e w3 ⟨rfl, F3, b3⟩
        rw [← hst.out] at F3
        have HB : Hid (Below w.heap.size w w3) := bel2.trans b3
        have HS : Hid (w.heap.size < w3.heap.size) := by have := b3.size; show _ < _; omega
        clear hw1 b3 bel2 hB2 hBV
        go_wp2
        go_roundw
        case rel => exact ⟨k + 1, by omega, by go_num, F3, HB.out, HS.out⟩
        case measure => first | (simp [intOf]; omega) | simp [intOf]
    · have q : ¬ (k : Int) < (l.length : Int) := by omega
      rw [List.take_of_length_le (by omega)] at hB
      have hS := bString w.heap.size w.heap.size (putP [] (ptsA l)) wr hB (by omega)
      clear hsz hsp hstep
      go_wp2_with fail
      refine hS.mono ?_; rintro e w3 ⟨rfl, _, b3⟩
      have HB := hbel.trans b3
      clear hS b3
      go_wp2
      go_ret
      exact ⟨rfl, HB⟩
end Go.Proofs.YtciddfpkcdicaaaDoor
/- The contract of l4Merge. No statement is proved here. -/
namespace Go.Proofs.YtciddfpkcdicaaaDoor
open Go.ChangeShapes Go.WideShapes Go.ChangeAt Go.RowKit

theorem ptsA_len_le (l : List Ck) (k : Nat) (h : k < l.length) : (ptsA (l.take k)).length + (pts (l.getD k cnil)).length ≤ (ptsA l).length := by
  have e : ptsA l = ptsA (l.take k) ++ (pts (l.getD k cnil) ++ ptsA (l.drop (k + 1))) := by
    have := ck_drop l k h
    unfold ptsA
    rw [← List.flatMap_cons, ← this, ← List.flatMap_append, List.take_append_drop]
  rw [e]
  simp only [List.length_append]
  omega
theorem ctOK_wh {x0 : Int} {x1 x2 x3 : List ByteArray} (h : ctOK x0 x1 x2 x3 = true) : wh x1 = true ∧ wh x2 = true ∧ wh x3 = true := by
  unfold ctOK at h
  simp only [Bool.and_eq_true] at h
  exact ⟨h.2.2.1, h.2.2.2.1, h.2.2.2.2⟩
theorem ret_two {s t : ByteArray} {a b : Int} (h : s = t) (k : a = b) : Ending.returned (.tuple #[.string s, .int .i64 a]) = .returned (.tuple #[.string t, .int .i64 b]) := by rw [h, k]
end Go.Proofs.YtciddfpkcdicaaaDoor
