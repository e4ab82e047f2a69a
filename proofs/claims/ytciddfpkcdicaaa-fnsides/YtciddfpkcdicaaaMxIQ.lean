/- The contracts of takenLines and of mergedText. No statement is proved here. -/
import Derived.Test.YtciddfpkcdicaaaRows
import Derived.Test.YtciddfpkcdicaaaLemQ
import Derived.Test.YtciddfpkcdicaaaDTabQ
import Derived.Test.YtciddfpkcdicaaaHkTQ
import Derived.Test.YtciddfpkcdicaaaCkLQ
import Derived.Test.YtciddfpkcdicaaaCkCQ
import Derived.Test.YtciddfpkcdicaaaCkBQ
import Derived.Test.YtciddfpkcdicaaaCtLQ
import Derived.Test.YtciddfpkcdicaaaCtTQ
import Derived.Test.YtciddfpkcdicaaaCtCQ
import Derived.Test.YtciddfpkcdicaaaCtVQ
import Derived.WalkKit
import Derived.ProofKit
import Derived.Below
import Derived.WalkSpells
import Derived.Deep.QuietTactic
import Derived.BigQuiet
import Derived.Laws.Concat
namespace Go.Proofs.Ytciddfpkcdicaaa
open Go.ChangeShapes Go.WideShapes Go.ChangeAt Go.RowKit

theorem ret_val {v u : Value} (h : v = u) : Ending.returned v = .returned u := by rw [h]
set_option maxHeartbeats 1000000 in
theorem takenLines (x0 : Int) (a1 a2 a3 : Option Addr) (n1 n2 n3 c1 c2 c3 : Nat) (w : World) :
    Calls Try.prog 53 #[.agg #[.int .i64 x0, .slice a1 n1 c1, .slice a2 n2 c2, .slice a3 n3 c3]] w fun e w' => e = .returned (if x0 = 2 then .slice a3 n3 c3 else .slice a2 n2 c2) ∧ Below w.heap.size w w' := by
  have bW := allocBelow w (.cells #[.int .i64 x0, .slice a1 n1 c1, .slice a2 n2 c2, .slice a3 n3 c3] 94)
  by_cases e : x0 = 2
  · subst e
    go_enter Try.func53, Try.ntmps53
    go_wp2
    go_ret
    exact ⟨rfl, bW⟩
  · have q : (x0 == 2) = false := by simp [e]
    have HE : Hid ((if x0 = 2 then Value.slice a3 n3 c3 else .slice a2 n2 c2) = .slice a2 n2 c2) := if_neg e
    go_enter Try.func53, Try.ntmps53
    go_wp2
    go_ret
    first | exact ⟨rfl, bW⟩ | exact ⟨ret_val HE.out.symm, bW⟩
/-- Chunks whose text can be made. -/
structure Mx (l : List Ck) : Prop where
  each : ∀ c ∈ l, c.2.1.length ≤ 1048576 ∧ c.2.2.1.length ≤ 1048576 ∧ c.2.2.2.length ≤ 1048576 ∧ tot c.2.1 ≤ 1048576 ∧ tot c.2.2.1 ≤ 1048576 ∧ tot c.2.2.2 ≤ 1048576 ∧ (c.1 = 4 → ctOK c.1 c.2.1 c.2.2.1 c.2.2.2 = true)
  whole : tot (ptsA l) + (ptsA l).length ≤ 100000000
theorem atF_bel {T e : TypeId} {B b : Nat} {p : Value} {bs : List Value} {w w' : World} (h : Lib.BuilderAtF T e B b p bs w) (hb : Below w.heap.size w w') : Lib.BuilderAtF T e B b p bs w' := by
  have hlt := h.lt
  obtain ⟨hB, v, hbk, hown, hne⟩ := h
  exact ⟨hB, v, (hb.block b hlt).trans hbk, hown.kept (grownOfBelow hb none) (by cases hv : v.ownBlock <;> simp), hne⟩
theorem BF.bel {B b : Nat} {l : List UInt8} {w w' : World} (h : BF B b l w) (hb : Below w.heap.size w w') : BF B b l w' := h.elim (fun x => .inl (atF_bel x hb)) (fun x => .inr (atF_bel x hb))
theorem KB.belowAt {B : Nat} {w w' : World} {a : Option Addr} {l : List Ck} (h : KB B w a l) (hb : Below B w w') : KB B w' a l := fun k hk => by
  obtain ⟨g, off, a1, c1, a2, c2, a3, c3, e, hg, d0, d1, d2, d3, s1, s2, s3⟩ := h k hk
  have key : ∀ {a : Option Addr} {c : Nat} {ss : List ByteArray}, SSN B w a c ss → SSN B w' a c ss := fun {a c ss} hs => ⟨⟨hs.1.1, fun j hj => by obtain ⟨b', o, e, hl, hc⟩ := hs.1.2 j hj; exact ⟨b', o, e, hl, (hb.cell (p := ⟨b', o + j, none⟩) hl).trans hc⟩⟩, hs.2⟩
  exact ⟨g, off, a1, c1, a2, c2, a3, c3, e, hg, (hb.cell (p := ⟨g, off + k * 4, none⟩) hg).trans d0, (hb.cell (p := ⟨g, off + k * 4 + 1, none⟩) hg).trans d1, (hb.cell (p := ⟨g, off + k * 4 + 2, none⟩) hg).trans d2, (hb.cell (p := ⟨g, off + k * 4 + 3, none⟩) hg).trans d3, key s1, key s2, key s3⟩
set_option maxRecDepth 20000 in
set_option maxHeartbeats 4000000 in
theorem mergedText (a : Option Addr) (c : Nat) (l : List Ck) (w : World) (h : KB w.heap.size w a l) (hn : l.length ≤ 1048576) (hM : Mx l) :
    Calls Try.prog 26 #[.slice a l.length c] w fun e w' => e = .returned (.string ⟨(putP [] (ptsA l)).toArray⟩) ∧ Below w.heap.size w w' := by
  obtain ⟨W0, hW0⟩ : ∃ W, w.alloc (.cells #[.pointer none, .slice none 0 0] 92) = W := ⟨_, rfl⟩
  have hBF : BF w.heap.size w.heap.size [] W0 := by rw [← hW0]; exact Lib.IsBuilderF.of (Lib.fresh_isBuilder 92 5 w)
  have b0 : Below w.heap.size w W0 := by rw [← hW0]; exact allocBelow _ _
  have hsz : ∀ k, k ≤ l.length → ((putP [] (ptsA (l.take k))).length : Int) ≤ tot (ptsA (l.take k)) + (ptsA (l.take k)).length := fun k _ => by have := putP_le [] (ptsA (l.take k)); simpa using this
  have hsp : ∀ k, k < l.length → tot (ptsA (l.take k)) + (ptsA (l.take k)).length + tot (pts (l.getD k cnil)) + (pts (l.getD k cnil)).length ≤ 100000000 := fun k hk => by
    have h1 := hM.whole
    have e : ptsA l = ptsA (l.take k) ++ (pts (l.getD k cnil) ++ ptsA (l.drop (k + 1))) := by
      have := ck_drop l k hk
      unfold ptsA
      rw [← List.flatMap_cons, ← this, ← List.flatMap_append, List.take_append_drop]
    have t1 := tot_split (ptsA l) (ptsA (l.take k)).length
    rw [e, List.take_left, List.drop_left] at t1
    have t2 := tot_split (pts (l.getD k cnil) ++ ptsA (l.drop (k + 1))) (pts (l.getD k cnil)).length
    rw [List.take_left, List.drop_left] at t2
    have t3 := tot_nonneg (ptsA (l.drop (k + 1)))
    rw [e] at h1
    simp only [List.length_append] at h1
    omega
  have hstep : ∀ k, k < l.length → Hid (putP [] (ptsA (l.take (k + 1))) = putP (putP [] (ptsA (l.take k))) (pts (l.getD k cnil))) := fun k hk => by show _ = _; rw [ptsA_take l k hk, putP_app]
  go_enter Try.func26, Try.ntmps26
  go_wp2
  go_loopw [5, 8] (fun _ i wr => ∃ k : Nat, k ≤ l.length ∧ i = .int .i64 k ∧ BF w.heap.size w.heap.size (putP [] (ptsA (l.take k))) wr ∧ Below w.heap.size w wr ∧ w.heap.size < wr.heap.size) (fun _ i _ => l.length - (intOf i).toNat)
  case atStart => exact ⟨0, Nat.zero_le _, rfl, hBF, b0, by rw [← hW0]; simp⟩
  case round =>
    clear hBF b0 hW0
    obtain ⟨k, hk, rfl, hB, hbel, hlt0⟩ := hrel
    by_cases hlt : k < l.length
    · have q : (k : Int) < (l.length : Int) := by omega
      have hsk := hsz k hk
      have hspk := hsp k hlt
      have hst := hstep k hlt
      have hE := hM.each _ (ck_mem l k hlt)
      obtain ⟨g, off, a1, c1, a2, c2, a3, c3, e, hg, d0, d1, d2, d3, s1, s2, s3⟩ := h.belowAt hbel k hlt
      subst e
      obtain ⟨C, hC⟩ : ∃ C, l.getD k cnil = C := ⟨_, rfl⟩
      obtain ⟨x0, x1, x2, x3⟩ := C
      rw [hC] at d0 d1 d2 d3 s1 s2 s3 hE hspk hst
      simp only [] at d0 d1 d2 d3 s1 s2 s3 hE
      obtain ⟨P, hP⟩ : ∃ P, putP [] (ptsA (l.take k)) = P := ⟨_, rfl⟩
      rw [hP] at hB hsk hst
      obtain ⟨V, hV⟩ : ∃ V, wr.alloc (.cells #[.int .i64 x0, .slice a1 x1.length c1, .slice a2 x2.length c2, .slice a3 x3.length c3] 94) = V := ⟨_, rfl⟩
      have bV : Below wr.heap.size wr V := by rw [← hV]; exact allocBelow _ _
      have rV : Rs V wr.heap.size [.int .i64 x0, .slice a1 x1.length c1, .slice a2 x2.length c2, .slice a3 x3.length c3] := by rw [← hV]; exact Rs.new _ _ _
      have e0 := rV 0 _ rfl
      have e1 := rV 1 _ rfl
      have e2 := rV 2 _ rfl
      have e3 := rV 3 _ rfl
      have sV := bV.size
      have hBV := hB.bel bV
      have belV := below_step hbel (by omega) bV
      have hsw : w.heap.size ≤ wr.heap.size := by omega
      obtain ⟨m1, m2, m3, t1, t2, t3, hok⟩ := hE
      have u1 := (s1.1.below bV)
      have u2 := (s2.1.below bV)
      have u3 := (s3.1.below bV)
      clear rV hC hP hsz hsp hstep
      by_cases h4 : x0 = 4
      · have hpt : pts (x0, x1, x2, x3) = [clashB x1 x2 x3] := if_pos h4
        rw [hpt] at hspk hst
        have hct : ctT x0 x1 x2 x3 = clashB x1 x2 x3 := if_pos (hok h4)
        have hCT := fun W b => implClashText x0 a1 a2 a3 c1 c2 c3 x1 x2 x3 W ((u1.below b).toSS (by have := Below.size b; omega)) ((u2.below b).toSS (by have := Below.size b; omega)) ((u3.below b).toSS (by have := Below.size b; omega)) m1 m2 m3 t1 t2 t3
        have hCV := hCT V (Below.refl _ _)
        rw [hct] at hCV
        subst h4
        generalize clashB x1 x2 x3 = X at hCV hspk hst hct
        generalize ctC 4 x1 x2 x3 = Z at hCV
        have hfld : ∀ w, (Instr.field 37 (.agg #[.int .i64 Z, .string X]) 1).run Try.prog w = .ok (.string X) w := fun _ => by kernel_rfl
        clear hCT hct hok
        go_wp2_with fail
        refine hCV.mono ?_; rintro e w2 ⟨rfl, b2⟩
        have hB2 := hBV.bel b2
        have s2' := b2.size
        have tn := tot_nonneg (ptsA (l.take k))
        have hXs : X.size ≤ 9223372036854775807 := by
          have hx : tot [X] = (X.size : Int) := by simp [tot]
          rw [hx] at hspk
          omega
        have hw1 := writePart1 w.heap.size w.heap.size P (some ⟨w2.heap.size, 0, none⟩) 1 [X] (w2.alloc (.cells #[.string X] 9)) (hB2.alloc _) (oneSS w2 X 9 hXs) rfl (by simp; omega) (by simp) (by omega)
        have bel2 := below_step belV (by omega) b2
        clear hCV e0 e1 e2 e3 hV d0 d1 d2 d3
        go_wp2_with fail
        refine hw1.mono ?_; rintro e w3 ⟨rfl, F3, b3⟩
        rw [← hst.out] at F3
        have HB : Hid (Below w.heap.size w w3) := (bel2.alloc (by omega) _).trans b3
        have HS : Hid (w.heap.size < w3.heap.size) := by have := b3.size; simp at this; show _ < _; omega
        clear hw1 b3 bel2 hB2 hBV
        go_wp2
        go_roundw
        case rel => exact ⟨k + 1, by omega, by go_num, F3, HB.out, HS.out⟩
        case measure => first | (simp [intOf]; omega) | simp [intOf]
      · have q4 : (x0 == 4) = false := by simp [h4]
        have hTk := takenLines x0 a1 a2 a3 x1.length x2.length x3.length c1 c2 c3 V
        obtain ⟨ta, tc, ss, hte, hpt, hts, htn⟩ : ∃ (ta : Option Addr) (tc : Nat) (ss : List ByteArray), (if x0 = 2 then Value.slice a3 x3.length c3 else .slice a2 x2.length c2) = .slice ta ss.length tc ∧ pts (x0, x1, x2, x3) = ss ∧ SSB w.heap.size V ta ss ∧ ss.length ≤ 1048576 := by
          unfold pts
          rw [if_neg h4]
          by_cases h2 : x0 = 2
          · rw [if_pos h2, if_pos h2]; exact ⟨a3, c3, x3, rfl, rfl, u3, m3⟩
          · rw [if_neg h2, if_neg h2]; exact ⟨a2, c2, x2, rfl, rfl, u2, m2⟩
        rw [hte] at hTk
        rw [hpt] at hspk hst
        clear hte hpt hok
        go_wp2_with fail
        refine hTk.mono ?_; rintro e w2 ⟨rfl, b2⟩
        have hB2 := hBV.bel b2
        have s2' := b2.size
        have hw1 := writeParts w.heap.size w.heap.size P ta tc ss w2 hB2 (hts.below b2) (by omega) htn (by omega)
        have bel2 := below_step belV (by omega) b2
        clear hTk e0 e1 e2 e3 hV d0 d1 d2 d3
        go_wp2_with fail
        refine hw1.mono ?_; rintro e w3 ⟨rfl, F3, b3⟩
        rw [← hst.out] at F3
        have HB : Hid (Below w.heap.size w w3) := bel2.trans b3
        have HS : Hid (w.heap.size < w3.heap.size) := by have := b3.size; show _ < _; omega
        clear hw1 b3 bel2 hB2 hBV
        go_wp2
        go_roundw
        case rel => exact ⟨k + 1, by omega, by go_num, F3, HB.out, HS.out⟩
        case measure => first | (simp [intOf]; omega) | simp [intOf]
    · have q : ¬ (k : Int) < (l.length : Int) := by omega
      rw [List.take_of_length_le (by omega)] at hB
      have hS := bString w.heap.size w.heap.size (putP [] (ptsA l)) wr hB (by omega)
      clear hsz hsp hstep
      go_wp2_with fail
      refine hS.mono ?_; rintro e w3 ⟨rfl, _, b3⟩
      have HB := hbel.trans b3
      clear hS b3
      go_wp2
      go_ret
      exact ⟨rfl, HB⟩
end Go.Proofs.Ytciddfpkcdicaaa
/- The contract of l4Merge. No statement is proved here. -/
namespace Go.Proofs.Ytciddfpkcdicaaa
open Go.ChangeShapes Go.WideShapes Go.ChangeAt Go.RowKit

theorem ptsA_len_le (l : List Ck) (k : Nat) (h : k < l.length) : (ptsA (l.take k)).length + (pts (l.getD k cnil)).length ≤ (ptsA l).length := by
  have e : ptsA l = ptsA (l.take k) ++ (pts (l.getD k cnil) ++ ptsA (l.drop (k + 1))) := by
    have := ck_drop l k h
    unfold ptsA
    rw [← List.flatMap_cons, ← this, ← List.flatMap_append, List.take_append_drop]
  rw [e]
  simp only [List.length_append]
  omega
theorem ctOK_wh {x0 : Int} {x1 x2 x3 : List ByteArray} (h : ctOK x0 x1 x2 x3 = true) : wh x1 = true ∧ wh x2 = true ∧ wh x3 = true := by
  unfold ctOK at h
  simp only [Bool.and_eq_true] at h
  exact ⟨h.2.2.1, h.2.2.2.1, h.2.2.2.2⟩
theorem ret_two {s t : ByteArray} {a b : Int} (h : s = t) (k : a = b) : Ending.returned (.tuple #[.string s, .int .i64 a]) = .returned (.tuple #[.string t, .int .i64 b]) := by rw [h, k]
set_option maxRecDepth 20000 in
set_option maxHeartbeats 8000000 in
theorem l4Merge (a : Option Addr) (c : Nat) (l : List Ck) (w : World) (h : KB w.heap.size w a l) (hn : l.length ≤ 1048576) (hM : Mx l) (hpn : (ptsA l).length ≤ 1000000) (hp : ∀ s ∈ ptsA l, s.data.toList ≠ []) :
    Calls Try.prog 30 #[.slice a l.length c] w fun e w' => e = .returned (.tuple #[.string ⟨(jnF (ptsA l)).toArray⟩, .int .i64 (cc l)]) ∧ Below w.heap.size w w' := by
  go_enter Try.func30, Try.ntmps30
  go_wp2
  go_loopw [4, 5, 6, 7] (fun v m j _ wr => ∃ k : Nat, k ≤ l.length ∧ j = .int .i64 k ∧ m = .int .i64 (cc (l.take k)) ∧ wr.ownsRow w.heap.size 9 1 v (ptsA (l.take k)).length ((ptsA (l.take k)).map Value.string) ∧ Below w.heap.size w wr) (fun _ _ j _ _ => l.length - (intOf j).toNat)
  case atStart => exact ⟨0, Nat.zero_le _, rfl, rfl, World.ownsRow_lit w #[] 0 (Nat.le_refl _) (Nat.zero_le _) rfl, allocBelow _ _⟩
  case round =>
    obtain ⟨k, hk, rfl, rfl, hown, hbel⟩ := hrel
    have hsz := hbel.size
    by_cases hlt : k < l.length
    · have q : (k : Int) < (l.length : Int) := by omega
      have hle := ptsA_len_le l k hlt
      have hT := ptsA_take l k hlt
      have hcc := cc_take l k hlt
      have hcb := cc_bd (l.take k)
      have hct : ((l.take k).length : Int) ≤ 1048576 := by rw [List.length_take]; omega
      have hE := hM.each _ (ck_mem l k hlt)
      obtain ⟨g, off, a1, c1, a2, c2, a3, c3, e, hg, d0, d1, d2, d3, s1, s2, s3⟩ := h.below hbel k hlt
      subst e
      obtain ⟨C, hC⟩ : ∃ C, l.getD k cnil = C := ⟨_, rfl⟩
      obtain ⟨x0, x1, x2, x3⟩ := C
      rw [hC] at d0 d1 d2 d3 s1 s2 s3 hE hT hle hcc
      simp only [] at d0 d1 d2 d3 s1 s2 s3 hE
      obtain ⟨m1, m2, m3, t1, t2, t3, hok⟩ := hE
      obtain ⟨V, hV⟩ : ∃ V, wr.alloc (.cells #[.int .i64 x0, .slice a1 x1.length c1, .slice a2 x2.length c2, .slice a3 x3.length c3] 94) = V := ⟨_, rfl⟩
      have bV : Below wr.heap.size wr V := by rw [← hV]; exact allocBelow _ _
      have rV : Rs V wr.heap.size [.int .i64 x0, .slice a1 x1.length c1, .slice a2 x2.length c2, .slice a3 x3.length c3] := by rw [← hV]; exact Rs.new _ _ _
      have e0 := rV 0 _ rfl
      have e1 := rV 1 _ rfl
      have e2 := rV 2 _ rfl
      have e3 := rV 3 _ rfl
      have sV := bV.size
      have belV := below_step hbel hsz bV
      have ownV := hown.kept (grownOfBelow bV none) (blockCases _ _ fun _ _ e => by cases e)
      have u1 := s1.below bV
      have u2 := s2.below bV
      have u3 := s3.below bV
      have hvo : ∀ j, u4.ownBlock = some j → w.heap.size ≤ j := fun j hj => (hown.lt j hj).1
      obtain ⟨S0, hS0⟩ : ∃ S, ptsA (l.take k) = S := ⟨_, rfl⟩
      obtain ⟨N0, hN0⟩ : ∃ N, cc (l.take k) = N := ⟨_, rfl⟩
      rw [hS0] at hT hle ownV
      rw [hN0] at hcc hcb ⊢
      clear rV hC hS0 hN0 hown hbel
      by_cases h2 : x0 = 2
      · have hpt : pts (x0, x1, x2, x3) = x3 := by unfold pts; rw [if_neg (by simp only []; omega), if_pos h2]
        rw [hpt] at hT hle
        have HT : Hid (ptsA (l.take (k + 1)) = S0 ++ x3) := hT
        have HC : Hid (cc (l.take (k + 1)) = N0) := by show _ = _; rw [hcc]; unfold cc1; rw [if_neg (by simp only []; omega)]; omega
        subst h2
        clear hT hcc hpt hok
        go_wp2_with (at_builtin; refine wpList_appN rfl (.tmp 29) (.tmp 31) rfl w.heap.size w.heap.size _ _ rfl ownV _ _ _ rfl u3 (by omega) (by omega) ?_; intro v3 w3 o3 g3 _)
        have hB3 : Below w.heap.size w w3 := belV.grown g3 (by omega) (fun j hj => hvo j hj)
        rw [← HT.out] at o3
        clear ownV u1 u2 u3 g3 belV d0 d1 d2 d3 e0 e1 e2 e3 hV
        go_roundw
        case rel => exact ⟨k + 1, by omega, by go_num, by rw [HC.out], o3, hB3⟩
        case measure => first | (simp [intOf]; omega) | simp [intOf]
      · have q2 : (x0 == 2) = false := by simp [h2]
        by_cases h4 : x0 = 4
        · have hpt : pts (x0, x1, x2, x3) = [clashB x1 x2 x3] := if_pos h4
          rw [hpt] at hT hle
          have HT : Hid (ptsA (l.take (k + 1)) = S0 ++ [clashB x1 x2 x3]) := hT
          have HC : Hid (cc (l.take (k + 1)) = N0 + 1) := by show _ = _; rw [hcc]; unfold cc1; rw [if_pos h4]
          obtain ⟨w1', w2', w3'⟩ := ctOK_wh (hok h4)
          have hCl := l4Clash x0 a1 a2 a3 c1 c2 c3 x1 x2 x3 V (u1.1.toSS (by omega)) (u2.1.toSS (by omega)) (u3.1.toSS (by omega)) m1 m2 m3 t1 t2 t3 w1' w2' w3'
          have hXs : (clashB x1 x2 x3).size ≤ 9223372036854775807 := by
            have h1 : (clashB x1 x2 x3).size = (clashL x1 x2 x3).length := by simp [clashB, ByteArray.size]
            have h3 := endAll_le x1
            have h5 := endAll_le x2
            have h6 := endAll_le x3
            rw [h1]
            unfold clashL
            simp only [List.length_append]
            have q1 : h1L.length = 8 := rfl
            have q2 : h2L.length = 8 := rfl
            have q3 : h3L.length = 8 := rfl
            have q4 : h4L.length = 8 := rfl
            omega
          subst h4
          generalize clashB x1 x2 x3 = X at hCl HT hXs hle
          clear hT hcc hpt hok w1' w2' w3'
          go_wp2_with fail
          refine hCl.mono ?_; rintro e w2 ⟨rfl, b2⟩
          have s2' := b2.size
          have own2 := ownV.kept (grownOfBelow b2 none) (blockCases _ _ fun _ _ e => by cases e)
          have bel2 := below_step belV (by omega) b2
          have hone : SSN (w2.alloc (.cells #[.string X] 9)).heap.size (w2.alloc (.cells #[.string X] 9)) (some ⟨w2.heap.size, 0, none⟩) 1 [X] := ⟨(oneSS w2 X 9 hXs).toB, fun h => (by cases h)⟩
          have own2a := own2.alloc (.cells #[.string X] 9)
          have hnn : N0 + 1 ≤ 9223372036854775807 := by omega
          clear hCl ownV b2 own2 belV
          go_wp2_with (at_builtin; refine wpList_appN rfl (.tmp 35) (.tmp 38) rfl w.heap.size _ _ S0 rfl own2a (some ⟨w2.heap.size, 0, none⟩) 1 [X] rfl hone (by simp only [List.length_singleton] at *; omega) (by simp only [World.size_alloc]; omega) ?_; intro v3 w3 o3 g3 _)
          have hB3 : Below w.heap.size w w3 := (bel2.alloc (by omega) _).grown g3 (by simp only [World.size_alloc]; omega) (fun j hj => hvo j hj)
          rw [← HT.out] at o3
          clear own2a u1 u2 u3 g3 bel2 d0 d1 d2 d3 e0 e1 e2 e3 hV hone
          go_roundw
          case rel => exact ⟨k + 1, by omega, by go_num, by rw [HC.out], o3, hB3⟩
          case measure => first | (simp [intOf]; omega) | simp [intOf]
        · have q4 : (x0 == 4) = false := by simp [h4]
          have hpt : pts (x0, x1, x2, x3) = x2 := by unfold pts; rw [if_neg h4, if_neg h2]
          rw [hpt] at hT hle
          have HT : Hid (ptsA (l.take (k + 1)) = S0 ++ x2) := hT
          have HC : Hid (cc (l.take (k + 1)) = N0) := by show _ = _; rw [hcc]; unfold cc1; rw [if_neg h4]; omega
          clear hT hcc hpt hok
          go_wp2_with (at_builtin; refine wpList_appN rfl (.tmp 23) (.tmp 25) rfl w.heap.size w.heap.size _ _ rfl ownV _ _ _ rfl u2 (by omega) (by omega) ?_; intro v3 w3 o3 g3 _)
          have hB3 : Below w.heap.size w w3 := belV.grown g3 (by omega) (fun j hj => hvo j hj)
          rw [← HT.out] at o3
          clear ownV u1 u2 u3 g3 belV d0 d1 d2 d3 e0 e1 e2 e3 hV
          go_roundw
          case rel => exact ⟨k + 1, by omega, by go_num, by rw [HC.out], o3, hB3⟩
          case measure => first | (simp [intOf]; omega) | simp [intOf]
    · have q : ¬ (k : Int) < (l.length : Int) := by omega
      rw [List.take_of_length_le (by omega)] at hown ⊢
      have hwl := hM.whole
      obtain ⟨pa, pc, ep⟩ := shapeS hown
      subst ep
      have hzs : ∀ j, j < (ptsA l).length → ((ptsA l).getD j ByteArray.empty).size ≤ 9223372036854775807 := fun j hj => by
        have h1 := tot_take (ptsA l) j hj
        have h2 := tot_take_le (ptsA l) (j + 1)
        have h3 := tot_nonneg ((ptsA l).take j)
        omega
      have hS := ownSS hown hzs
      obtain ⟨ss, hss⟩ : ∃ ss, ptsA l = ss := ⟨_, rfl⟩
      obtain ⟨N0, hnn⟩ : ∃ N, cc l = N := ⟨_, rfl⟩
      have HSS : Hid (ptsA l = ss) := hss
      have HNN : Hid (cc l = N0) := hnn
      rw [hss] at hp hpn hwl hS hzs ⊢
      rw [hnn]
      clear hss hnn
      clear hown hM h
      obtain ⟨V, hV⟩ : ∃ V, V = wr := ⟨_, rfl⟩
      subst hV
      go_wp2
      go_loopw [8, 9] (fun t i wr2 => ∃ k : Nat, k ≤ ss.length ∧ i = .int .i64 k ∧ t = .string ⟨(jnK ss k).toArray⟩ ∧ ∃ n, wr2 = V.drewN n) (fun _ i _ => ss.length - (intOf i).toNat)
      case atStart => exact ⟨0, Nat.zero_le _, rfl, by rw [jnK_zero], 0, rfl⟩
      case round =>
        obtain ⟨k, hk, rfl, rfl, n, hwr⟩ := hrel
        by_cases hlt : k < ss.length
        · have q : (k : Int) < (ss.length : Int) := by omega
          obtain ⟨b, off, rfl, hb, hc0⟩ := hS.2 k hlt
          have hc : wr.cell? ⟨b, off + k, none⟩ = some (.string (ss.getD k ByteArray.empty)) := by rw [hwr]; exact hc0
          have HW : Hid (wr = V.drewN n) := hwr
          clear hwr hc0
          have hle := jnK_len ss k
          have hszk := hzs k hlt
          have hmid := fun h => jnK_mid (ss := ss) (k := k) h
          have hlast := fun h => jnK_last (ss := ss) (k := k) h
          have htk := tot_take ss k hlt
          have htl := tot_take_le ss (k + 1)
          have htn := tot_nonneg (ss.take k)
          have hpos : (ss.getD k ByteArray.empty).data.toList ≠ [] := hp _ (by rw [getD_at ss k hlt]; exact List.getElem_mem hlt)
          obtain ⟨s, hse⟩ : ∃ s, ss.getD k ByteArray.empty = s := ⟨_, rfl⟩
          rw [hse] at hc hpos htk hszk
          simp only [hse] at hmid hlast
          have hp0 : 0 < s.size := by
            have h2 : s.data.toList.length = s.size := by simp
            cases h : s.data.toList with
            | nil => exact absurd h hpos
            | cons => rw [h] at h2; simp at h2; omega
          have hL := lastIdx s hp0
          have h1 := bytesOf (jnK ss k) s
          obtain ⟨X, hX⟩ : ∃ X, jnK ss k = X := ⟨_, rfl⟩
          rw [hX] at hle h1 hmid hlast ⊢
          have hXl : (⟨X.toArray⟩ : ByteArray).size + s.size + 1 ≤ 400000000 := by
            have : (⟨X.toArray⟩ : ByteArray).size = X.length := by simp [ByteArray.size]
            omega
          have hX3 : X.length + s.size + 1 ≤ 9223372036854775807 := by
            have : (⟨X.toArray⟩ : ByteArray).size = X.length := by simp [ByteArray.size]
            omega
          have h2 := bytesOf (X ++ s.data.toList) ⟨#[10]⟩
          have hq1 : (1 : Int) ≤ (s.size : Int) := by omega
          have hI0 : (0 : Int) ≤ (s.size : Int) - 1 := by omega
          have hI1 : (s.size : Int) - 1 < (s.size : Int) := by omega
          clear hse hX hpos hle htk htl htn
          by_cases hlst : k + 1 = ss.length
          · have HT : Hid (jnK ss (k + 1) = X ++ s.data.toList) := hlast hlst
            have ql : ¬ ((k : Int) < (ss.length : Int) - 1) := by omega
            have ql2 : decide ((k : Int) < (ss.length : Int) - 1) = false := decide_eq_false ql
            clear hmid hlast hL h2 hlst
            go_wp2
            go_quiet (fail)
            go_wp2
            go_roundw
            case rel => exact ⟨k + 1, by omega, by go_num, by rw [HT.out], n + nq, by rw [HW.out, World.drewN_drewN]⟩
            case measure => first | (simp [intOf]; omega) | simp [intOf]
          · have hT := hmid (by omega)
            have ql : (k : Int) < (ss.length : Int) - 1 := by omega
            unfold endL at hT
            cases hen : endsL s.data.toList with
            | true =>
              rw [hen] at hL hT
              replace hL : (((s[s.size - 1]'(by omega)).toNat : Int) != 10) = false := hL
              have HT : Hid (jnK ss (k + 1) = X ++ s.data.toList) := by show _ = _; rw [hT, if_pos rfl]
              clear hT hen hmid hlast
              go_wp2
              go_quiet (fail)
              go_wp2
              go_roundw
              case rel => exact ⟨k + 1, by omega, by go_num, by rw [HT.out], n + nq, by rw [HW.out, World.drewN_drewN]⟩
              case measure => first | (simp [intOf]; omega) | simp [intOf]
            | false =>
              rw [hen] at hL hT
              replace hL : (((s[s.size - 1]'(by omega)).toNat : Int) != 10) = true := hL
              have HT : Hid (jnK ss (k + 1) = X ++ (s.data.toList ++ [10])) := by show _ = _; rw [hT, if_neg (by decide)]
              clear hT hen hmid hlast
              go_wp2
              go_quiet (fail)
              go_wp2
              go_roundw
              case rel => exact ⟨k + 1, by omega, by go_num, by rw [HT.out]; try rw [List.append_assoc], n + nq, by rw [HW.out, World.drewN_drewN]⟩
              case measure => first | (simp [intOf]; omega) | simp [intOf]
        · have q : ¬ (k : Int) < (ss.length : Int) := by omega
          obtain rfl : k = ss.length := by omega
          have HE : Hid (jnK ss ss.length = jnF ss) := jnK_full ss
          have HB : Hid (Below w.heap.size w wr) := by show Below _ _ _; rw [hwr]; exact below_drewN' hbel n
          clear hwr hbel
          go_wp2
          refine bodyPost_ret (v := .tuple #[.string ⟨(jnK ss ss.length).toArray⟩, .int .i64 N0]) (by simp [results, Try.results30, go_sem]) rfl ?_
          exact ⟨ret_two (by rw [HE.out, HSS.out]) HNN.out.symm, HB.out⟩
end Go.Proofs.Ytciddfpkcdicaaa
